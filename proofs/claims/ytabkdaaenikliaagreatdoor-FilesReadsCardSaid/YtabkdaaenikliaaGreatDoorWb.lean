/- Contract of Read, where no file has bytes; the closed run at the head of the world's laws. -/
import Derived.Test.YtabkdaaenikliaaGreatDoorWa
import Derived.Test.YtabkdaaenikliaaGreatDoorEvC
namespace Go.Mp
theorem quiet_left' {P : Program} {f : FuncId} {args : Array Value} {w : World} {n : Nat} {v : Value}
    (h : Calls P f args (w.drewN n) fun e w' => e = .returned v ∧ w.drewN n = w') : Calls P f args (w.drewN n) fun e w'' => e = .returned v ∧ ∃ m, w'' = w.drewN m :=
  h.mono fun _ _ ⟨he, hm⟩ => ⟨he, n, hm.symm⟩
theorem bel_drewN {B : Nat} {a w : World} (h : Go.RowKit.Below B a w) (q : Nat) : Go.RowKit.Below B a (w.drewN q) := ⟨h.os, h.tape, h.output, h.size, h.block⟩
end Go.Mp
namespace Go.Proofs.YtabkdaaenikliaaGreatDoor
open Go.RowKit Go.Lib Go.Mp Go.Ev
theorem fol1 : Tryz.prog.follows .mixedOrders = true := by kernel_rfl
def zFile : Value := .agg #[.slice none 0 0, .int .i64 0, .bool false]
theorem zero89 (w : World) : (zeroValue 71).run Tryz.prog w = .ok zFile w := by kernel_rfl
theorem look_any {w : World} {b : Nat} {st : Int} {mp : Option Nat} {F : ByteArray → Option Value} (h : WS w b st mp F) (p : ByteArray) : (Instr.lookup 59 (.map mp) (.string p) false).run Tryz.prog w = .ok ((F p).getD zFile) w := by
  obtain ⟨_, hm⟩ := h
  cases mp with
  | none =>
    have : F p = none := hm p
    rw [this]
    exact lookup_nil Tryz.underlying59 Tryz.underlying9 (zero89 w) p
  | some m => exact MapAt.lookup hm.2 Tryz.underlying59 Tryz.underlying9 (zero89 w) p
set_option maxHeartbeats 1000000 in
set_option maxRecDepth 100000 in
theorem read_any (b : Nat) (mp : Option Nat) (st s : Int) (t : Bool) (F : ByteArray → Option Value) (p : ByteArray) (w : World) (h : WS w b st mp F) (hv : (F p).getD zFile = .agg #[.slice none 0 0, .int .i64 s, .bool t]) :
    Calls Tryz.prog 21 #[.pointer (some ⟨b, 0, none⟩), .string p] w fun e w' => e = .returned (.tuple #[.slice none 0 0, .int .i64 s, .bool t]) ∧ Below w.heap.size w w' := by
  have hlook := look_any h p
  rw [hv] at hlook
  obtain ⟨⟨c0, c3, c4, c5, c6, c7, hh⟩, _⟩ := h
  have hb : b < w.heap.size := (Array.getElem?_eq_some_iff.1 hh).1
  have k2 : w.cell? ⟨b, 2, none⟩ = some (.map mp) := by simp [World.cell?, hh]
  clear hh hv
  go_enter Tryz.func21, Tryz.ntmps21
  go_wp2
  go_quiet ((go_at_call 20; exact quiet_left' (clone_nil _)))
  go_wp2
  go_ret3
  exact ⟨rfl, bel_drewN ((Below.refl _ _).alloc (Nat.le_refl _) _) _⟩
def zWorld : Obj := .cells #[.int .i64 0, .int .i64 0, .map none, .slice none 0 0, .slice none 0 0, .map none, .int .i64 0, .slice none 0 0] 67
theorem new_any (w : World) : Calls Tryz.prog 9 #[] w fun e w' => e = .returned (.pointer (some ⟨w.heap.size, 0, none⟩)) ∧ w' = w.alloc zWorld := by
  go_enter Tryz.func9, Tryz.ntmps9
  go_wp2
  go_ret
  exact ⟨rfl, rfl⟩
theorem zero2 (w : World) : (zeroValue 2).run Tryz.prog w = .ok (.int .i64 0) w := by kernel_rfl
/-- The file of the k-th change, and what the law keeps of it. -/
def fileV (k : Nat) : Value := .agg #[.slice none 0 0, .int .i64 ((k : Int) + 1), .bool (decide (k % 3 ≠ 2))]
def FF (ps : List ByteArray) : Nat → ByteArray → Option Value
  | 0 => fun _ => none
  | k + 1 => upd (FF ps k) (ps.getD k ByteArray.empty) (fileV k)
def GG (ps : List ByteArray) : Nat → ByteArray → Option Value
  | 0 => fun _ => none
  | k + 1 => upd (GG ps k) (ps.getD k ByteArray.empty) (.int .i64 ((k : Int) + 1))
theorem ff_gg (ps : List ByteArray) : ∀ (k : Nat) (p : ByteArray), ∃ (s : Int) (t : Bool), (FF ps k p).getD zFile = .agg #[.slice none 0 0, .int .i64 s, .bool t] ∧ (GG ps k p).getD (.int .i64 0) = .int .i64 s
  | 0, p => ⟨0, false, rfl, rfl⟩
  | k + 1, p => by
    unfold FF GG upd
    by_cases h : p = ps.getD k ByteArray.empty
    · rw [if_pos h, if_pos h]
      exact ⟨_, _, rfl, rfl⟩
    · rw [if_neg h, if_neg h]
      exact ff_gg ps k p
theorem ff_now (ps : List ByteArray) (k : Nat) : (FF ps (k + 1) (ps.getD k ByteArray.empty)).getD zFile = .agg #[.slice none 0 0, .int .i64 ((k : Int) + 1), .bool (decide (k % 3 ≠ 2))] := by
  unfold FF upd
  rw [if_pos rfl]
  rfl
theorem WS.below {w w' : World} {b : Nat} {st : Int} {mp : Option Nat} {F : ByteArray → Option Value} (h : WS w b st mp F) (hb : Below w.heap.size w w') : WS w' b st mp F := by
  obtain ⟨⟨c0, c3, c4, c5, c6, c7, hh⟩, hm⟩ := h
  refine ⟨⟨c0, c3, c4, c5, c6, c7, by rw [hb.block b (Array.getElem?_eq_some_iff.1 hh).1]; exact hh⟩, ?_⟩
  cases mp with
  | none => exact hm
  | some m => exact ⟨hm.1, hm.2.same (hb.block m hm.2.lt)⟩
/-- What holds between the rounds: the world, the law's own map, nothing elder turned. -/
structure SI (W0 : World) (ps : List ByteArray) (b q k : Nat) (mp : Option Nat) (wr : World) : Prop where
  ws : WS wr b (k : Int) mp (FF ps k)
  own : MapAt wr q (GG ps k)
  b0 : W0.heap.size ≤ b
  q0 : W0.heap.size ≤ q
  m0 : ∀ m, mp = some m → W0.heap.size ≤ m ∧ m ≠ q
  bq : b ≠ q
  bel : Below W0.heap.size W0 wr
theorem SI.below {W0 : World} {ps : List ByteArray} {b q k : Nat} {mp : Option Nat} {wr w' : World} (h : SI W0 ps b q k mp wr) (hb : Below wr.heap.size wr w') : SI W0 ps b q k mp w' :=
  ⟨WS.below h.ws hb, h.own.same (hb.block q h.own.lt), h.b0, h.q0, h.m0, h.bq, h.bel.trans (hb.mono h.bel.size)⟩
theorem SI.start (w : World) (ps : List ByteArray) : SI w ps w.heap.size (w.heap.size + 1) 0 none ((w.alloc zWorld).alloc (.map #[] 0)) := by
  have hs : (w.alloc zWorld).heap.size = w.heap.size + 1 := by
    show (Array.push _ _).size = _
    simp
  refine ⟨⟨⟨.int .i64 0, .slice none 0 0, .slice none 0 0, .map none, .int .i64 0, .slice none 0 0, ?_⟩, fun _ => rfl⟩, ?_, Nat.le_refl _, by omega, (fun m h => by cases h), by omega, ?_⟩
  · rw [heap_alloc_lt _ _ _ (by omega)]
    exact heap_alloc_new w _
  · have := MapAt.made (w.alloc zWorld)
    rw [hs] at this
    exact this
  · exact ((Below.refl _ _).alloc (Nat.le_refl _) _).alloc (by omega) _
/-- A change, then the law's own note of it. -/
theorem SI.step {W0 : World} {ps : List ByteArray} {b q k m' : Nat} {mp : Option Nat} {wr w1 w2 : World} {p : ByteArray} (h : SI W0 ps b q k mp wr) (hp : p = ps.getD k ByteArray.empty)
    (hm : mp = some m' ∨ (mp = none ∧ wr.heap.size ≤ m')) (hws : WS w1 b ((k : Int) + 1) (some m') (upd (FF ps k) p (fileV k))) (ht : Turned wr w1 b mp)
    (hown : MapAt w2 q (upd (GG ps k) p (.int .i64 ((k : Int) + 1)))) (hsz : w2.heap.size = w1.heap.size) (hsame : ∀ j, j ≠ q → w2.heap[j]? = w1.heap[j]?) (ho : w2.os = w1.os) (hta : w2.tape = w1.tape) (hou : w2.output = w1.output) :
    SI W0 ps b q (k + 1) (some m') w2 := by
  subst hp
  have hq := h.own.lt
  have hmq : m' ≠ q := by
    rcases hm with hm | ⟨_, hm⟩
    · exact (h.m0 m' hm).2
    · omega
  have hm0 : W0.heap.size ≤ m' := by
    rcases hm with hm | ⟨_, hm⟩
    · exact (h.m0 m' hm).1
    · have := h.bel.size; omega
  refine ⟨?_, hown, h.b0, h.q0, (fun m e => by cases e; exact ⟨hm0, hmq⟩), h.bq, ?_⟩
  · obtain ⟨⟨c0, c3, c4, c5, c6, c7, hh⟩, h1, h2⟩ := hws
    refine ⟨⟨c0, c3, c4, c5, c6, c7, by rw [hsame b h.bq]; rw [hh]; rfl⟩, h1, h2.same (hsame m' hmq)⟩
  · refine ⟨ho.trans (ht.os.trans h.bel.os), hta.trans (ht.tape.trans h.bel.tape), hou.trans (ht.output.trans h.bel.output), by rw [hsz]; exact Nat.le_trans h.bel.size ht.size, fun j hj => ?_⟩
    have hjs : j < wr.heap.size := Nat.lt_of_lt_of_le hj h.bel.size
    rw [hsame j (by have := h.q0; omega), ht.same j hjs (by have := h.b0; omega) (fun e => by have := h.m0 j e.symm; omega)]
    exact h.bel.block j hj
/-- The law's own map, behind a change. -/
theorem SI.mine {W0 : World} {ps : List ByteArray} {b q k : Nat} {mp : Option Nat} {wr w1 : World} (h : SI W0 ps b q k mp wr) (ht : Turned wr w1 b mp) : MapAt w1 q (GG ps k) :=
  h.own.same (ht.same q h.own.lt (fun e => h.bq e.symm) (fun e => (h.m0 q e.symm).2 rfl))
end Go.Proofs.YtabkdaaenikliaaGreatDoor
