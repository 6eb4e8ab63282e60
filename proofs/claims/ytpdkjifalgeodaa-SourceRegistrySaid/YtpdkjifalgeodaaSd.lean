/- The law's own sources: Begin. -/
import Derived.Test.YtpdkjifalgeodaaSc
namespace Go.Proofs.Ytpdkjifalgeodaa
open Go.RowKit Go.Extern.Stop Go.Stop Go.Extern Go.Lib
/-- A question at such a source: its cells. -/
def opC (d : DefL) (n : Int) : Array Value := (defC d).push (.int .i64 n)
/-- .. one that hears. -/
def heC (d : DefL) (n h : Int) : Array Value := (opC d n).push (.int .i64 h)
theorem builtOp (d : DefL) : Program.built Try.prog 156 [(0, .agg (defC d))] = some (opC d 0) := by unfold opC defC; kernel_rfl
theorem builtHe (d : DefL) : Program.built Try.prog 158 [(0, .agg (opC d 0)), (1, .int .i64 0)] = some (heC d 0 0) := by unfold heC opC defC; kernel_rfl
def qryV (db : Int) (n p : ByteArray) (port : Int) : Value := .agg #[.int .i64 db, .string n, .string p, .int .i64 port]
theorem two_new (w : World) (A B : Obj) : ∃ W, (w.alloc A).alloc B = W ∧ W.heap[w.heap.size]? = some A ∧ W.heap[w.heap.size + 1]? = some B ∧ W.heap.size = w.heap.size + 2 ∧ Below w.heap.size w W :=
  ⟨_, rfl, heap_alloc2_old w A B, heap_alloc2_new w A B, by rw [al_size, al_size], keepE (al_bel w A) (al_bel _ B)⟩
set_option maxHeartbeats 1000000 in
set_option maxRecDepth 100000 in
theorem pbegin_nil (d : DefL) (db : Int) (n p : ByteArray) (port : Int) (w : World) (h1 : d.beg = 1) :
    Calls Try.prog 85 #[defV d, qryV db n p port] w fun e w' => e = .returned .nilIface ∧ Below w.heap.size w w' := by
  obtain ⟨W, hW, hA, hQ, hs, hB⟩ := two_new w (.cells (defC d) 71) (.cells #[.int .i64 db, .string n, .string p, .int .i64 port] 42)
  have c7 : W.cell? ⟨w.heap.size, 7, none⟩ = some (.int .i64 1) := by rw [← h1]; exact cellJ hA (defC_at rfl)
  have HB := Lib.hid hB
  clear hB hA hQ hs
  simp only [defV, qryV]
  generalize defC d = cs at *
  clear h1 d
  go_enter Try.func85, Try.ntmps85
  go_upto_region 1 with (fail)
  clear hW
  go_wp2
  go_ret
  exact ⟨rfl, HB.out⟩
set_option maxHeartbeats 1000000 in
set_option maxRecDepth 100000 in
theorem pbegin_op (d : DefL) (db : Int) (n p : ByteArray) (port : Int) (w : World) (h1 : ¬ d.beg = 1) (h2 : ¬ d.beg = 2) (hh : d.hears = false) :
    Calls Try.prog 85 #[defV d, qryV db n p port] w fun e w' => ∃ b, e = .returned (.iface 159 (.pointer (some ⟨b, 0, none⟩))) ∧ w.heap.size ≤ b ∧ w'.heap[b]? = some (.cells (opC d 0) 156 (0, 0)) ∧ Below w.heap.size w w' := by
  obtain ⟨W, hW, hA, hQ, hs, hB⟩ := two_new w (.cells (defC d) 71) (.cells #[.int .i64 db, .string n, .string p, .int .i64 port] 42)
  have c7 : W.cell? ⟨w.heap.size, 7, none⟩ = some (.int .i64 d.beg) := cellJ hA (defC_at rfl)
  have c17 : W.cell? ⟨w.heap.size, 17, none⟩ = some (.bool false) := by rw [← hh]; exact cellJ hA (defC_at rfl)
  have sz := sz_def d
  have bo := builtOp d
  have HB := Lib.hid hB
  have HS := Lib.hid hs
  have e1 : (d.beg == 1) = false := by simpa using h1
  have e2 : (d.beg == 2) = false := by simpa using h2
  clear hB hQ hs h1 h2 hh
  simp only [defV, qryV]
  generalize opC d 0 = oc at *
  generalize defC d = cs at *
  generalize d.beg = bg at *
  clear d
  go_enter Try.func85, Try.ntmps85
  go_upto_region 1 with (fail)
  clear hW
  go_wp2_with (first | (with_reducible refine wpList_load_row rfl 28 _ rfl w.heap.size rfl 71 cs (0, 0) _ hA Try.underlying28 rfl sz ?_) | (with_reducible refine wpList_build_one rfl 156 _ _ rfl (.agg cs) rfl oc bo ?_))
  go_ret
  exact ⟨W.heap.size, rfl, by rw [HS.out]; omega, heap_alloc_new W _, keepE HB.out (al_bel W _)⟩
set_option maxHeartbeats 1000000 in
set_option maxRecDepth 100000 in
theorem pbegin_he (d : DefL) (db : Int) (n p : ByteArray) (port : Int) (w : World) (h1 : ¬ d.beg = 1) (h2 : ¬ d.beg = 2) (hh : d.hears = true) :
    Calls Try.prog 85 #[defV d, qryV db n p port] w fun e w' => ∃ b, e = .returned (.iface 154 (.pointer (some ⟨b, 0, none⟩))) ∧ w.heap.size ≤ b ∧ w'.heap[b]? = some (.cells (heC d 0 0) 158 (0, 0)) ∧ Below w.heap.size w w' := by
  obtain ⟨W, hW, hA, hQ, hs, hB⟩ := two_new w (.cells (defC d) 71) (.cells #[.int .i64 db, .string n, .string p, .int .i64 port] 42)
  have c7 : W.cell? ⟨w.heap.size, 7, none⟩ = some (.int .i64 d.beg) := cellJ hA (defC_at rfl)
  have c17 : W.cell? ⟨w.heap.size, 17, none⟩ = some (.bool true) := by rw [← hh]; exact cellJ hA (defC_at rfl)
  have sz := sz_def d
  have bo := builtOp d
  have bh := builtHe d
  have HB := Lib.hid hB
  have HS := Lib.hid hs
  have e1 : (d.beg == 1) = false := by simpa using h1
  have e2 : (d.beg == 2) = false := by simpa using h2
  clear hB hQ hs h1 h2 hh
  simp only [defV, qryV]
  generalize heC d 0 0 = hc at *
  generalize opC d 0 = oc at *
  generalize defC d = cs at *
  generalize d.beg = bg at *
  clear d
  go_enter Try.func85, Try.ntmps85
  go_upto_region 1 with (fail)
  clear hW
  go_wp2_with (first | (with_reducible refine wpList_load_row rfl 28 _ rfl w.heap.size rfl 71 cs (0, 0) _ hA Try.underlying28 rfl sz ?_) | (with_reducible refine wpList_build_one rfl 156 _ _ rfl (.agg cs) rfl oc bo ?_) | (with_reducible refine wpList_build_two rfl 158 _ _ _ _ rfl (.agg oc) (.int .i64 0) rfl rfl hc bh ?_))
  go_ret
  exact ⟨W.heap.size, rfl, by rw [HS.out]; omega, heap_alloc_new W _, keepE HB.out (al_bel W _)⟩
end Go.Proofs.Ytpdkjifalgeodaa
