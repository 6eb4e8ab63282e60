/- Contracts and plain facts that the law leans on. -/
import Derived.Test.YtaaiicfclaeapaaWaCb
import Derived.Test.YtaaiicfclaeapaaEvC
import Derived.Deep.QuietTactic
import Derived.BigQuiet
import Derived.Maps.OwnSet
import Derived.Maps.StringElems
import Derived.StringKeys
import Derived.Deep.RegionHeld3
import Derived.Deep.CutRange
import Derived.Maps.Ext
import Derived.Shelf.SlMaps.Clone
import Derived.Laws.OwnMore
import Derived.Deep.RegionLaw
import Derived.Deep.RegionWith
namespace Go.Mp
theorem quiet_left' {P : Program} {f : FuncId} {args : Array Value} {w : World} {n : Nat} {v : Value}
    (h : Calls P f args (w.drewN n) fun e w' => e = .returned v ∧ w.drewN n = w') : Calls P f args (w.drewN n) fun e w'' => e = .returned v ∧ ∃ m, w'' = w.drewN m :=
  h.mono fun _ _ ⟨he, hm⟩ => ⟨he, n, hm.symm⟩
theorem bel_drewN {B : Nat} {a w : World} (h : Go.RowKit.Below B a w) (q : Nat) : Go.RowKit.Below B a (w.drewN q) := ⟨h.os, h.tape, h.output, h.size, h.block⟩
end Go.Mp
namespace Go.Proofs.Ytaaiicfclaeapaa
open Go.RowKit Go.Lib Go.Mp Go.Ev
theorem ext1 : ExtOK Try.prog (extL [(47, .mapsClone)]) :=
  extOK_cons extOK_nil Try.func47 (by kernel_rfl) (by kernel_rfl) (by kernel_rfl) (by kernel_rfl)
theorem fol1 : Try.prog.follows .mixedOrders = true := by kernel_rfl
noncomputable def E01 : Env := { P := Try.prog, ext := extL [(47, .mapsClone)] }
theorem eok1 (w : World) : EOK E01 (Bas.of w) := by
  refine ⟨ext1, fun f h e => ?_, fun b l e => by cases e⟩
  have e2 : extL [(47, .mapsClone)] f = some (.fn h) := e
  unfold extL at e2
  split at e2
  · cases e2
  · cases e2
set_option maxRecDepth 1000000 in
theorem run11 : yes (aFn E01 200 4 [] H00) = true := by kernel_rfl
theorem begun1 (w : World) : Calls Try.prog 4 #[] w fun e w' => e = .returned (.bool true) ∧ Below w.heap.size w w' :=
  closed (E := E01) w (eok1 w) fol1 run11
def zFile : Value := .agg #[.slice none 0 0, .int .i64 0, .bool false]
theorem zero89 (w : World) : (zeroValue 67).run Try.prog w = .ok zFile w := by kernel_rfl
theorem look_any {w : World} {b : Nat} {st : Int} {mp : Option Nat} {F : ByteArray → Option Value} (h : WS w b st mp F) (p : ByteArray) : (Instr.lookup 57 (.map mp) (.string p) false).run Try.prog w = .ok ((F p).getD zFile) w := by
  obtain ⟨_, hm⟩ := h
  cases mp with
  | none =>
    have : F p = none := hm p
    rw [this]
    exact lookup_nil Try.underlying57 Try.underlying9 (zero89 w) p
  | some m => exact MapAt.lookup hm.2 Try.underlying57 Try.underlying9 (zero89 w) p
set_option maxHeartbeats 1000000 in
set_option maxRecDepth 100000 in
theorem read_any (b : Nat) (mp : Option Nat) (st s : Int) (t : Bool) (F : ByteArray → Option Value) (p : ByteArray) (w : World) (h : WS w b st mp F) (hv : (F p).getD zFile = .agg #[.slice none 0 0, .int .i64 s, .bool t]) :
    Calls Try.prog 26 #[.pointer (some ⟨b, 0, none⟩), .string p] w fun e w' => e = .returned (.tuple #[.slice none 0 0, .int .i64 s, .bool t]) ∧ Below w.heap.size w w' := by
  have hlook := look_any h p
  rw [hv] at hlook
  obtain ⟨⟨c0, c3, c4, c5, c6, c7, hh⟩, _⟩ := h
  have hb : b < w.heap.size := (Array.getElem?_eq_some_iff.1 hh).1
  have k2 : w.cell? ⟨b, 2, none⟩ = some (.map mp) := by simp [World.cell?, hh]
  clear hh hv
  go_enter Try.func26, Try.ntmps26
  go_wp2
  go_quiet ((go_at_call 31; exact quiet_left' (clone_nil _)))
  go_wp2
  go_ret3
  exact ⟨rfl, bel_drewN ((Below.refl _ _).alloc (Nat.le_refl _) _) _⟩
def zWorld : Obj := .cells #[.int .i64 0, .int .i64 0, .map none, .slice none 0 0, .slice none 0 0, .map none, .int .i64 0, .slice none 0 0] 63
theorem new_any (w : World) : Calls Try.prog 5 #[] w fun e w' => e = .returned (.pointer (some ⟨w.heap.size, 0, none⟩)) ∧ w' = w.alloc zWorld := by
  go_enter Try.func5, Try.ntmps5
  go_wp2
  go_ret
  exact ⟨rfl, rfl⟩
theorem zero2 (w : World) : (zeroValue 2).run Try.prog w = .ok (.int .i64 0) w := by kernel_rfl
/-- The file of the k-th change, and what the law keeps of it. -/
def fileV (k : Nat) : Value := .agg #[.slice none 0 0, .int .i64 ((k : Int) + 1), .bool (decide (k % 3 ≠ 2))]
def FF (ps : List ByteArray) : Nat → ByteArray → Option Value
  | 0 => fun _ => none
  | k + 1 => upd (FF ps k) (ps.getD k ByteArray.empty) (fileV k)
def GG (ps : List ByteArray) : Nat → ByteArray → Option Value
  | 0 => fun _ => none
  | k + 1 => upd (GG ps k) (ps.getD k ByteArray.empty) (.int .i64 ((k : Int) + 1))
theorem ff_gg (ps : List ByteArray) : ∀ (k : Nat) (p : ByteArray), ∃ (s : Int) (t : Bool), (FF ps k p).getD zFile = .agg #[.slice none 0 0, .int .i64 s, .bool t] ∧ (GG ps k p).getD (.int .i64 0) = .int .i64 s
  | 0, p => ⟨0, false, rfl, rfl⟩
  | k + 1, p => by
    unfold FF GG upd
    by_cases h : p = ps.getD k ByteArray.empty
    · rw [if_pos h, if_pos h]
      exact ⟨_, _, rfl, rfl⟩
    · rw [if_neg h, if_neg h]
      exact ff_gg ps k p
theorem ff_now (ps : List ByteArray) (k : Nat) : (FF ps (k + 1) (ps.getD k ByteArray.empty)).getD zFile = .agg #[.slice none 0 0, .int .i64 ((k : Int) + 1), .bool (decide (k % 3 ≠ 2))] := by
  unfold FF upd
  rw [if_pos rfl]
  rfl
theorem WS.below {w w' : World} {b : Nat} {st : Int} {mp : Option Nat} {F : ByteArray → Option Value} (h : WS w b st mp F) (hb : Below w.heap.size w w') : WS w' b st mp F := by
  obtain ⟨⟨c0, c3, c4, c5, c6, c7, hh⟩, hm⟩ := h
  refine ⟨⟨c0, c3, c4, c5, c6, c7, by rw [hb.block b (Array.getElem?_eq_some_iff.1 hh).1]; exact hh⟩, ?_⟩
  cases mp with
  | none => exact hm
  | some m => exact ⟨hm.1, hm.2.same (hb.block m hm.2.lt)⟩
/-- What holds between the rounds: the world, the law's own map, nothing elder turned. -/
structure SI (W0 : World) (ps : List ByteArray) (b q k : Nat) (mp : Option Nat) (wr : World) : Prop where
  ws : WS wr b (k : Int) mp (FF ps k)
  own : MapAt wr q (GG ps k)
  b0 : W0.heap.size ≤ b
  q0 : W0.heap.size ≤ q
  m0 : ∀ m, mp = some m → W0.heap.size ≤ m ∧ m ≠ q
  bq : b ≠ q
  bel : Below W0.heap.size W0 wr
theorem SI.below {W0 : World} {ps : List ByteArray} {b q k : Nat} {mp : Option Nat} {wr w' : World} (h : SI W0 ps b q k mp wr) (hb : Below wr.heap.size wr w') : SI W0 ps b q k mp w' :=
  ⟨WS.below h.ws hb, h.own.same (hb.block q h.own.lt), h.b0, h.q0, h.m0, h.bq, h.bel.trans (hb.mono h.bel.size)⟩
theorem SI.start (w : World) (ps : List ByteArray) : SI w ps w.heap.size (w.heap.size + 1) 0 none ((w.alloc zWorld).alloc (.map #[] 0)) := by
  have hs : (w.alloc zWorld).heap.size = w.heap.size + 1 := by
    show (Array.push _ _).size = _
    simp
  refine ⟨⟨⟨.int .i64 0, .slice none 0 0, .slice none 0 0, .map none, .int .i64 0, .slice none 0 0, ?_⟩, fun _ => rfl⟩, ?_, Nat.le_refl _, by omega, (fun m h => by cases h), by omega, ?_⟩
  · rw [heap_alloc_lt _ _ _ (by omega)]
    exact heap_alloc_new w _
  · have := MapAt.made (w.alloc zWorld)
    rw [hs] at this
    exact this
  · exact ((Below.refl _ _).alloc (Nat.le_refl _) _).alloc (by omega) _
/-- A change, then the law's own note of it. -/
theorem SI.step {W0 : World} {ps : List ByteArray} {b q k m' : Nat} {mp : Option Nat} {wr w1 w2 : World} {p : ByteArray} (h : SI W0 ps b q k mp wr) (hp : p = ps.getD k ByteArray.empty)
    (hm : mp = some m' ∨ (mp = none ∧ wr.heap.size ≤ m')) (hws : WS w1 b ((k : Int) + 1) (some m') (upd (FF ps k) p (fileV k))) (ht : Turned wr w1 b mp)
    (hown : MapAt w2 q (upd (GG ps k) p (.int .i64 ((k : Int) + 1)))) (hsz : w2.heap.size = w1.heap.size) (hsame : ∀ j, j ≠ q → w2.heap[j]? = w1.heap[j]?) (ho : w2.os = w1.os) (hta : w2.tape = w1.tape) (hou : w2.output = w1.output) :
    SI W0 ps b q (k + 1) (some m') w2 := by
  subst hp
  have hq := h.own.lt
  have hmq : m' ≠ q := by
    rcases hm with hm | ⟨_, hm⟩
    · exact (h.m0 m' hm).2
    · omega
  have hm0 : W0.heap.size ≤ m' := by
    rcases hm with hm | ⟨_, hm⟩
    · exact (h.m0 m' hm).1
    · have := h.bel.size; omega
  refine ⟨?_, hown, h.b0, h.q0, (fun m e => by cases e; exact ⟨hm0, hmq⟩), h.bq, ?_⟩
  · obtain ⟨⟨c0, c3, c4, c5, c6, c7, hh⟩, h1, h2⟩ := hws
    refine ⟨⟨c0, c3, c4, c5, c6, c7, by rw [hsame b h.bq]; rw [hh]; rfl⟩, h1, h2.same (hsame m' hmq)⟩
  · refine ⟨ho.trans (ht.os.trans h.bel.os), hta.trans (ht.tape.trans h.bel.tape), hou.trans (ht.output.trans h.bel.output), by rw [hsz]; exact Nat.le_trans h.bel.size ht.size, fun j hj => ?_⟩
    have hjs : j < wr.heap.size := Nat.lt_of_lt_of_le hj h.bel.size
    rw [hsame j (by have := h.q0; omega), ht.same j hjs (by have := h.b0; omega) (fun e => by have := h.m0 j e.symm; omega)]
    exact h.bel.block j hj
/-- The law's own map, behind a change. -/
theorem SI.mine {W0 : World} {ps : List ByteArray} {b q k : Nat} {mp : Option Nat} {wr w1 : World} (h : SI W0 ps b q k mp wr) (ht : Turned wr w1 b mp) : MapAt w1 q (GG ps k) :=
  h.own.same (ht.same q h.own.lt (fun e => h.bq e.symm) (fun e => (h.m0 q e.symm).2 rfl))
end Go.Proofs.Ytaaiicfclaeapaa

namespace Go.Proofs.Ytaaiicfclaeapaa
open Go.RowKit Go.Mp Go.Rb Go.Lib
/-- The block of a world: what stands in it. -/
def WD (w : World) (b : Nat) (c : Value × Value × Value × Value × Value) (mp : Option Nat) (syn : Nat) (uv : Value) : Prop :=
  w.heap[b]? = some (.cells #[c.1, c.2.1, c.2.2.1, c.2.2.2.1, c.2.2.2.2, .map mp, .int .i64 (syn : Int), uv] 63 (0, 0))
section
variable {w : World} {b : Nat} {c : Value × Value × Value × Value × Value} {mp : Option Nat} {syn : Nat} {uv : Value}
theorem WD.lt (h : WD w b c mp syn uv) : b < w.heap.size := (Array.getElem?_eq_some_iff.1 h).1
theorem WD.c5 (h : WD w b c mp syn uv) : w.cell? ⟨b, 5, none⟩ = some (.map mp) := by unfold WD at h; simp [World.cell?, h]
theorem WD.c6 (h : WD w b c mp syn uv) : w.cell? ⟨b, 6, none⟩ = some (.int .i64 (syn : Int)) := by unfold WD at h; simp [World.cell?, h]
theorem WD.c7 (h : WD w b c mp syn uv) : w.cell? ⟨b, 7, none⟩ = some uv := by unfold WD at h; simp [World.cell?, h]
theorem WD.free (h : WD w b c mp syn uv) (j : Nat) : w.frozen? ⟨b, j, none⟩ = false := by unfold WD at h; simp [World.frozen?, h]
theorem WD.same {w' : World} (h : WD w b c mp syn uv) (hh : w'.heap[b]? = w.heap[b]?) : WD w' b c mp syn uv := hh.trans h
theorem WD.set5 (h : WD w b c mp syn uv) (mp' : Option Nat) : WD (w.setCell ⟨b, 5, none⟩ (.map mp')) b c mp' syn uv := heap_setCell_eq _ _ _ _ _ _ _ h
theorem WD.set6 (h : WD w b c mp syn uv) (n : Nat) : WD (w.setCell ⟨b, 6, none⟩ (.int .i64 (n : Int))) b c mp n uv := heap_setCell_eq _ _ _ _ _ _ _ h
theorem WD.set7 (h : WD w b c mp syn uv) (v : Value) : WD (w.setCell ⟨b, 7, none⟩ v) b c mp syn v := heap_setCell_eq _ _ _ _ _ _ _ h
end
theorem writes_any (b : Nat) (c : Value × Value × Value × Value × Value) (mp : Option Nat) (syn : Nat) (p : Option Addr) (n cap : Nat) (w : World) (h : WD w b c mp syn (.slice p n cap)) (hs : syn ≤ 1000000) (hn : n ≤ 1000000) :
    Calls Try.prog 45 #[.pointer (some ⟨b, 5, none⟩)] w fun e w' => e = .returned (.int .i64 ((syn : Int) + (n : Int))) ∧ ∃ k, w' = w.drewN k := by
  have k6 := h.c6
  have k7 := h.c7
  have hsum : IntKind.i64.wrap ((syn : Int) + (n : Int)) = (syn : Int) + (n : Int) := by simp [IntKind.wrap, IntKind.bits, IntKind.signed]; omega
  clear h
  go_enter Try.func45, Try.ntmps45
  go_wp2
  go_quiet (fail)
  go_wp2
  go_ret
  exact ⟨rfl, _, rfl⟩
end Go.Proofs.Ytaaiicfclaeapaa

namespace Go.Proofs.Ytaaiicfclaeapaa
open Go.RowKit Go.Mp Go.Rb Go.Lib
open Go.Maps (Keyed)
/-- How a slice among a map's elements reads: as itself. -/
def R33 (v : Value) : Option (DataW Value × List MemPlace) := match v with
  | .slice a n c => some (.held (.slice a n c), [])
  | _ => none
theorem R33_inv {v : Value} {z : DataW Value × List MemPlace} (h : R33 v = some z) : ∃ a n c, v = .slice a n c ∧ z = (.held (.slice a n c), []) := by
  unfold R33 at h
  split at h
  · cases h; exact ⟨_, _, _, rfl, rfl⟩
  · cases h
def nilS : Value := .slice none 0 0
def keyL (s : ByteArray) : Lit := .string s.data.toList
theorem keyL_inj {s t : ByteArray} (h : keyL s = keyL t) : s = t := by
  unfold keyL at h
  injection h with h
  exact ByteArray.ext (Array.ext' h)
/-- What a map of files answers. -/
def valOf (D : DataW Value) (s : ByteArray) : Value := match D.atKey (keyL s) (.held nilS) with
  | .held v => v
  | _ => nilS
theorem law9 : Keyed Try.prog 9 := Go.Maps.string_keyed Try.underlying9
/-- A map of files, or none. -/
def MapD (w : World) (B K : Nat) (mp : Option Nat) (D : DataW Value) : Prop :=
  (mp = none ∧ D = .map []) ∨ ∃ m N, mp = some m ∧ B ≤ m ∧ w.ownsMap Try.prog 9 R33 m N D ∧ N ≤ K
theorem zero33 (w : World) : (zeroValue 33).run Try.prog w = .ok nilS w := by kernel_rfl
theorem valOf_nil (s : ByteArray) : valOf (.map []) s = nilS := rfl
theorem MapD.lookup {w : World} {B K : Nat} {mp : Option Nat} {D : DataW Value} (h : MapD w B K mp D) (s : ByteArray) (hs : s.size ≤ maxLen) :
    (Instr.lookup 58 (.map mp) (.string s) false).run Try.prog w = .ok (valOf D s) w := by
  rcases h with ⟨rfl, rfl⟩ | ⟨m, N, rfl, _, h, _⟩
  · exact lookup_nil Try.underlying58 Try.underlying9 (zero33 w) s
  · obtain ⟨v, ps, hrun, hv⟩ := h.lookup law9 Try.underlying58 (zero33 w) (zd := .held nilS) (zp := []) rfl (key := .string s) (kl := keyL s) (Go.WideMaps.keyOf_string_mk Try.underlying9 hs)
    obtain ⟨a, n, c, rfl, e⟩ := R33_inv hv
    have e2 : D.atKey (keyL s) (.held nilS) = .held (.slice a n c) := (Prod.mk.inj e).1
    rw [hrun]
    unfold valOf
    rw [e2]
theorem MapD.shape {w : World} {B K : Nat} {mp : Option Nat} {D : DataW Value} (h : MapD w B K mp D) (s : ByteArray) (hs : s.size ≤ maxLen) : ∃ a n c, valOf D s = .slice a n c := by
  rcases h with ⟨rfl, rfl⟩ | ⟨m, N, rfl, _, h, _⟩
  · exact ⟨none, 0, 0, rfl⟩
  · obtain ⟨v, ps, hrun, hv⟩ := h.lookup law9 Try.underlying58 (zero33 w) (zd := .held nilS) (zp := []) rfl (key := .string s) (kl := keyL s) (Go.WideMaps.keyOf_string_mk Try.underlying9 hs)
    obtain ⟨a, n, c, rfl, e⟩ := R33_inv hv
    have e2 : D.atKey (keyL s) (.held nilS) = .held (.slice a n c) := (Prod.mk.inj e).1
    refine ⟨a, n, c, ?_⟩
    unfold valOf
    rw [e2]
theorem MapD.same {w w' : World} {B K : Nat} {mp : Option Nat} {D : DataW Value} (h : MapD w B K mp D) (hh : ∀ m, mp = some m → w'.heap[m]? = w.heap[m]?) : MapD w' B K mp D := by
  rcases h with h | ⟨m, N, e, hB, ⟨es, clock, hb, h⟩, hN⟩
  · exact .inl h
  · exact .inr ⟨m, N, e, hB, ⟨es, clock, (hh m e).trans hb, h⟩, hN⟩
theorem MapD.lt {w : World} {B K m : Nat} {D : DataW Value} (h : MapD w B K (some m) D) : m < w.heap.size := by
  rcases h with ⟨e, _⟩ | ⟨m', N, e, _, h, _⟩
  · cases e
  · cases e; exact h.lt
theorem valOf_put_same {D : DataW Value} (hD : Go.Maps.IsMap D) (s : ByteArray) (a : Option Addr) (n c : Nat) : valOf (D.put (keyL s) (.held (.slice a n c))) s = .slice a n c := by
  unfold valOf
  rw [Go.Maps.atKey_put_same hD (show Go.WideAt.IsKeyLit (keyL s) from trivial)]
theorem valOf_put_other {D : DataW Value} {s t : ByteArray} (h : t ≠ s) (d : DataW Value) : valOf (D.put (keyL s) d) t = valOf D t := by
  unfold valOf
  rw [Go.Maps.atKey_put_other (fun e => h (keyL_inj e))]
end Go.Proofs.Ytaaiicfclaeapaa

namespace Go.Proofs.Ytaaiicfclaeapaa
open Go.RowKit Go.Mp Go.Rb Go.Lib
def befCells (e : ByteArray × Value) : List Value := [.string e.1, e.2]
/-- The undo list. -/
def UndoAt (w : World) (B : Nat) (p : Option Addr) (cap : Nat) (U : List (ByteArray × Value)) : Prop := w.ownsRow B 84 2 (.slice p U.length cap) U.length (U.flatMap befCells)
theorem infoBef : (Try.prog.info? 84).map (fun i => (i.zero, i.size, i.bytes)) = some (some (.agg #[.string ⟨#[]⟩, .slice none 0 0]), 2, 40) := by kernel_rfl
theorem info_parts' {x : Option TypeInfo} {z : Option Value} {n m : Nat} (h : x.map (fun i => (i.zero, i.size, i.bytes)) = some (z, n, m)) : ∃ i, x = some i ∧ i.zero = z ∧ i.size = n ∧ i.bytes = m := by
  cases x with
  | none => cases h
  | some i => simp at h; exact ⟨i, rfl, h.1, h.2.1, h.2.2⟩
theorem new_cells2 (w : World) (x y : Value) (e : TypeId) : ∀ j q, [x, y][j]? = some q → (w.alloc (.cells #[x, y] e)).cell? ((⟨w.heap.size, 0, none⟩ : Addr).add j) = some q := by
  intro j q hj
  have ha : (⟨w.heap.size, 0, none⟩ : Addr).add j = ⟨w.heap.size, j, none⟩ := by unfold Addr.add; split <;> simp_all
  rw [ha, World.cell?_alloc_new]
  simpa using hj
/-- What write leaves. -/
def WriteR (w : World) (b B K : Nat) (c : Value × Value × Value × Value × Value) (mp : Option Nat) (D : DataW Value) (syn : Nat) (U : List (ByteArray × Value)) (p : Option Addr) (s : ByteArray) (v : Value) (e : Ending) (w' : World) : Prop :=
  e = .returned (.tuple #[]) ∧ ∃ g cap' m', WD w' b c (some m') syn (.slice (some ⟨g, 0, none⟩) (U.length + 1) cap') ∧ UndoAt w' B (some ⟨g, 0, none⟩) cap' (U ++ [(s, valOf D s)]) ∧ MapD w' B (K + 1) (some m') (D.put (keyL s) (.held v)) ∧
    ((∃ q, p = some q ∧ g = q.block) ∨ w.heap.size ≤ g) ∧ (mp = some m' ∨ w.heap.size ≤ m') ∧ w'.os = w.os ∧ w'.tape = w.tape ∧ w'.output = w.output ∧ w.heap.size ≤ w'.heap.size ∧
    ∀ k, k < w.heap.size → k ≠ b → mp ≠ some k → (∀ q, p = some q → k ≠ q.block) → w'.heap[k]? = w.heap[k]?
set_option maxHeartbeats 4000000 in
set_option maxRecDepth 100000 in
theorem write_some (b B K m : Nat) (c : Value × Value × Value × Value × Value) (D : DataW Value) (syn : Nat) (U : List (ByteArray × Value)) (p : Option Addr) (cap : Nat) (s : ByteArray) (a1 : Option Addr) (n1 c1 : Nat) (w : World)
    (hwd : WD w b c (some m) syn (.slice p U.length cap)) (hB : B ≤ b) (hmap : MapD w B K (some m) D) (hK : K ≤ 1000000) (hun : UndoAt w B p cap U) (hU : U.length ≤ 100000) (hs : s.size ≤ maxLen) (hne : ∀ q, p = some q → q.block ≠ b ∧ q.block ≠ m) (hbm : b ≠ m) :
    Calls Try.prog 46 #[.pointer (some ⟨b, 5, none⟩), .string s, .slice a1 n1 c1] w (WriteR w b B K c (some m) D syn U p s (.slice a1 n1 c1)) := by
  obtain ⟨N, hBm, hom, hN⟩ : ∃ N, B ≤ m ∧ w.ownsMap Try.prog 9 R33 m N D ∧ N ≤ K := by
    rcases hmap with ⟨e, _⟩ | ⟨m', N, e, h1, h2, h3⟩
    · cases e
    · cases e; exact ⟨N, h1, h2, h3⟩
  have hbl := hwd.lt
  have hml := hom.lt
  have hpl : ∀ q, p = some q → B ≤ q.block ∧ q.block < w.heap.size := fun q e => by subst e; exact World.ownsRow.lt hun q.block rfl
  have HWD := Lib.hid hwd
  have HUn := Lib.hid hun
  have HOm := Lib.hid hom
  have k7 := hwd.c7
  have k5 := hwd.c5
  have f7 := hwd.free 7
  have hlk : (Instr.lookup 58 (.map (some m)) (.string s) false).run Try.prog w.drew = .ok (valOf D s) w.drew := (hmap.same (w' := w.drew) (fun _ _ => rfl)).lookup s hs
  obtain ⟨ib, hi, hz0, hz1, hz2⟩ := info_parts' infoBef
  obtain ⟨a0, n0, c0, hv0⟩ := hmap.shape s hs
  rw [hv0] at hlk
  have HV0 := Lib.hid hv0
  have k7b : (w.alloc (.cells #[.string s, .slice a0 n0 c0] 84)).cell? ⟨b, 7, none⟩ = some (.slice p U.length cap) := (hwd.same (w' := w.alloc _) (by show (w.heap.push _)[b]? = _; rw [Array.getElem?_push, if_neg (by omega)])).c7
  have hsz : (w.alloc (.cells #[.string s, .slice a0 n0 c0] 84)).heap.size = w.heap.size + 1 := by show (w.heap.push _).size = _; simp
  have HSz := Lib.hid hsz
  have HBlk : Hid (∀ k, k < w.heap.size → (w.alloc (.cells #[.string s, .slice a0 n0 c0] 84)).heap[k]? = w.heap[k]?) := Lib.hid (fun k hk => by show (w.heap.push _)[k]? = _; rw [Array.getElem?_push, if_neg (by omega)])
  have eqm : ∀ W : World, (binOp .eql 58 (.map (some m)) (.map none)).run Try.prog W = .ok (.bool false) W := fun W => eql_map 58 _ _ (some m) Try.underlying58 W
  clear hwd hmap hun hom hv0 hsz
  go_enter Try.func46, Try.ntmps46
  go_wp2
  go_region_law (refine step_append_lies _ (by rfl) _ _ _ (by rfl) B 84 ib (.agg #[.string ⟨#[]⟩, .slice none 0 0]) 2 40 Try.underlying59 hi hz0 hz1 hz2 rfl (by decide) (.slice p U.length cap) U.length (U.flatMap befCells) (by rfl) (World.ownsRow.alloc HUn.out _) ⟨w.heap.size, 0, none⟩ 1 1 [.string s, .slice a0 n0 c0] (by rfl) rfl (new_cells2 _ _ _ _) (by simp [Value.oneCell']) (by decide) (by unfold maxLen; omega) (by omega) (by show B ≤ (w.heap.push _).size; simp; omega) (w.heap.size + 1) (by show (w.heap.push _).size = _; simp) ?_; intro g4 cap4 w4 hown4 hg4 hat4 hlt4; have HBlk4 : Hid (∀ k, k < w.heap.size → (∀ q, p = some q → k ≠ q.block) → w4.heap[k]? = w.heap[k]?) := Lib.hid (fun k hk hq => (hg4.block k (by show k < (w.heap.push _).size; simp; omega) (fun e => by cases p with | none => cases e | some q => exact hq q rfl (Option.some.inj e))).trans (HBlk.out k hk)); have HW4 : Hid (WD w4 b c (some m) syn (.slice p U.length cap)) := Lib.hid (HWD.out.same (HBlk4.out b hbl (fun q e => (hne q e).1.symm))); have HOm4 : Hid (w4.ownsMap Try.prog 9 R33 m N D) := Lib.hid (by obtain ⟨es, clock, h1, h2⟩ := HOm.out; exact ⟨es, clock, (HBlk4.out m hml (fun q e => (hne q e).2.symm)).trans h1, h2⟩); have hf4 := HW4.out.free 7; have hc4 := HW4.out.c7)
  all_goals
    have HG4 := Lib.hid hg4
    have HO4 := Lib.hid hown4
    have HA4 := Lib.hid hat4
    have hs4 : w.heap.size + 1 ≤ w4.heap.size := by have := hg4.size; rw [← HSz.out]; exact this
    have HW5 : Hid (WD (w4.setCell ⟨b, 7, none⟩ (.slice (some ⟨g4, 0, none⟩) (U.length + 1) cap4)) b c (some m) syn (.slice (some ⟨g4, 0, none⟩) (U.length + 1) cap4)) := Lib.hid (HW4.out.set7 _)
    have HOm5 : Hid ((w4.setCell ⟨b, 7, none⟩ (.slice (some ⟨g4, 0, none⟩) (U.length + 1) cap4)).ownsMap Try.prog 9 R33 m N D) := Lib.hid (HOm4.out.setCell (fun e => hbm e.symm) _)
    have hgb : g4 ≠ b := by
      rcases hat4 with h | h
      · cases p with
        | none => cases h
        | some q => exact fun e => (hne q rfl).1 ((Option.some.inj h).trans e)
      · omega
    have hgm : g4 ≠ m := by
      rcases hat4 with h | h
      · cases p with
        | none => cases h
        | some q => exact fun e => (hne q rfl).2 ((Option.some.inj h).trans e)
      · omega
    have HO5 : Hid ((w4.setCell ⟨b, 7, none⟩ (.slice (some ⟨g4, 0, none⟩) (U.length + 1) cap4)).ownsRow B 84 2 (.slice (some ⟨g4, 0, none⟩) (U.length + 1) cap4) (U.length + 1) (U.flatMap befCells ++ [.string s, .slice a0 n0 c0])) := Lib.hid (by
      obtain ⟨h1, h2⟩ := hown4
      refine ⟨h1, ?_⟩
      rcases h2 with h2 | ⟨g, cap, cur, e, r1, r2, r3⟩
      · exact .inl h2
      · cases e
        exact .inr ⟨g4, cap4, cur, rfl, r1, (heap_setCell_ne _ _ _ _ _ hgb).trans r2, r3⟩)
    have hs5 : (w4.setCell ⟨b, 7, none⟩ (.slice (some ⟨g4, 0, none⟩) (U.length + 1) cap4)).heap.size = w4.heap.size := size_setCell' _ _ _
    have HF5 : Hid (∀ k, k < w.heap.size → k ≠ b → (∀ q, p = some q → k ≠ q.block) → (w4.setCell ⟨b, 7, none⟩ (.slice (some ⟨g4, 0, none⟩) (U.length + 1) cap4)).heap[k]? = w.heap[k]?) := Lib.hid (fun k hk hkb hq => (heap_setCell_ne _ _ _ _ _ hkb).trans (HBlk4.out k hk hq))
    have ho5 : (w4.setCell ⟨b, 7, none⟩ (.slice (some ⟨g4, 0, none⟩) (U.length + 1) cap4)).os = w.os ∧ (w4.setCell ⟨b, 7, none⟩ (.slice (some ⟨g4, 0, none⟩) (U.length + 1) cap4)).tape = w.tape ∧ (w4.setCell ⟨b, 7, none⟩ (.slice (some ⟨g4, 0, none⟩) (U.length + 1) cap4)).output = w.output := ⟨hg4.os, hg4.tape, hg4.output⟩
    clear hg4 hown4 hat4 hf4 hc4
    generalize w4.setCell ⟨b, 7, none⟩ (.slice (some ⟨g4, 0, none⟩) (U.length + 1) cap4) = w5 at *
    have k5' := HW5.out.c5
    go_wp2_with (at_mapUpdate; refine wpList_mapUpdate_own _ rfl _ _ _ 58 rfl 9 33 law9 Try.underlying58 R33 m N D rfl HOm5.out (by unfold maxLen; omega) (.string s) (.slice a1 n1 c1) (keyL s) rfl rfl (Go.WideMaps.keyOf_string_mk Try.underlying9 hs) (.held (.slice a1 n1 c1)) [] rfl ?_; intro w6 hom6 hg6)
    go_end0
    have hl5 : g4 < w5.heap.size := (World.ownsRow.lt HO5.out g4 rfl).2
    refine ⟨rfl, g4, cap4, m, HW5.out.same (hg6.block b (by have := HW5.out.lt; exact this) (fun e => hbm (Option.some.inj e))), ?_, .inr ⟨m, N + 1, rfl, hBm, hom6, by omega⟩, ?_, .inl rfl, hg6.os.trans ho5.1, hg6.tape.trans ho5.2.1, hg6.output.trans ho5.2.2, by have := hg6.size; omega, fun k hk hkb hkm hq => (hg6.block k (by omega) (fun e => hkm e.symm)).trans (HF5.out k hk hkb hq)⟩
    · unfold UndoAt
      rw [List.length_append, List.flatMap_append, HV0.out]
      exact HO5.out.kept hg6 (.inr (fun e => hgm (Option.some.inj e)))
    · rcases HA4.out with h | h
      · cases p with
        | none => cases h
        | some q => exact .inl ⟨q, rfl, (Option.some.inj h).symm⟩
      · exact .inr (by omega)
end Go.Proofs.Ytaaiicfclaeapaa

namespace Go.Proofs.Ytaaiicfclaeapaa
open Go.RowKit Go.Mp Go.Rb Go.Lib
set_option maxHeartbeats 4000000 in
set_option maxRecDepth 100000 in
theorem write_none (b B K : Nat) (c : Value × Value × Value × Value × Value) (D : DataW Value) (syn : Nat) (U : List (ByteArray × Value)) (p : Option Addr) (cap : Nat) (s : ByteArray) (a1 : Option Addr) (n1 c1 : Nat) (w : World)
    (hwd : WD w b c none syn (.slice p U.length cap)) (hB : B ≤ b) (hmap : MapD w B K none D) (hK : K ≤ 1000000) (hun : UndoAt w B p cap U) (hU : U.length ≤ 100000) (hs : s.size ≤ maxLen) (hne : ∀ q, p = some q → q.block ≠ b) (hBs : B ≤ w.heap.size) :
    Calls Try.prog 46 #[.pointer (some ⟨b, 5, none⟩), .string s, .slice a1 n1 c1] w (WriteR w b B K c none D syn U p s (.slice a1 n1 c1)) := by
  obtain rfl : D = .map [] := by
    rcases hmap with ⟨_, e⟩ | ⟨m', N, e, h1, h2, h3⟩
    · exact e
    · cases e
  have hbl := hwd.lt
  have hpl : ∀ q, p = some q → B ≤ q.block ∧ q.block < w.heap.size := fun q e => by subst e; exact World.ownsRow.lt hun q.block rfl
  have HWD := Lib.hid hwd
  have HUn := Lib.hid hun
  have k7 := hwd.c7
  have k5 := hwd.c5
  have f7 := hwd.free 7
  have hlk : (Instr.lookup 58 (.map none) (.string s) false).run Try.prog w.drew = .ok (valOf (.map [] : DataW Value) s) w.drew := (hmap.same (w' := w.drew) (fun _ _ => rfl)).lookup s hs
  obtain ⟨ib, hi, hz0, hz1, hz2⟩ := info_parts' infoBef
  obtain ⟨a0, n0, c0, hv0⟩ := hmap.shape s hs
  rw [hv0] at hlk
  have HV0 := Lib.hid hv0
  have k7b : (w.alloc (.cells #[.string s, .slice a0 n0 c0] 84)).cell? ⟨b, 7, none⟩ = some (.slice p U.length cap) := (hwd.same (w' := w.alloc _) (by show (w.heap.push _)[b]? = _; rw [Array.getElem?_push, if_neg (by omega)])).c7
  have hsz : (w.alloc (.cells #[.string s, .slice a0 n0 c0] 84)).heap.size = w.heap.size + 1 := by show (w.heap.push _).size = _; simp
  have HSz := Lib.hid hsz
  have HBlk : Hid (∀ k, k < w.heap.size → (w.alloc (.cells #[.string s, .slice a0 n0 c0] 84)).heap[k]? = w.heap[k]?) := Lib.hid (fun k hk => by show (w.heap.push _)[k]? = _; rw [Array.getElem?_push, if_neg (by omega)])
  have hmm := @run_makeMap Try.prog
  have eqm : ∀ W : World, (binOp .eql 58 (.map none) (.map none)).run Try.prog W = .ok (.bool true) W := fun W => eql_map 58 _ _ none Try.underlying58 W
  clear hwd hmap hun hv0 hsz
  go_enter Try.func46, Try.ntmps46
  go_wp2
  go_region_law (refine step_append_lies _ (by rfl) _ _ _ (by rfl) B 84 ib (.agg #[.string ⟨#[]⟩, .slice none 0 0]) 2 40 Try.underlying59 hi hz0 hz1 hz2 rfl (by decide) (.slice p U.length cap) U.length (U.flatMap befCells) (by rfl) (World.ownsRow.alloc HUn.out _) ⟨w.heap.size, 0, none⟩ 1 1 [.string s, .slice a0 n0 c0] (by rfl) rfl (new_cells2 _ _ _ _) (by simp [Value.oneCell']) (by decide) (by unfold maxLen; omega) (by omega) (by show B ≤ (w.heap.push _).size; simp; omega) (w.heap.size + 1) (by show (w.heap.push _).size = _; simp) ?_; intro g4 cap4 w4 hown4 hg4 hat4 hlt4; have HBlk4 : Hid (∀ k, k < w.heap.size → (∀ q, p = some q → k ≠ q.block) → w4.heap[k]? = w.heap[k]?) := Lib.hid (fun k hk hq => (hg4.block k (by show k < (w.heap.push _).size; simp; omega) (fun e => by cases p with | none => cases e | some q => exact hq q rfl (Option.some.inj e))).trans (HBlk.out k hk)); have HW4 : Hid (WD w4 b c none syn (.slice p U.length cap)) := Lib.hid (HWD.out.same (HBlk4.out b hbl (fun q e => (hne q e).symm))); have hf4 := HW4.out.free 7; have hc4 := HW4.out.c7)
  all_goals
    have HG4 := Lib.hid hg4
    have HO4 := Lib.hid hown4
    have HA4 := Lib.hid hat4
    have hs4 : w.heap.size + 1 ≤ w4.heap.size := by have := hg4.size; rw [← HSz.out]; exact this
    have HW5 : Hid (WD (w4.setCell ⟨b, 7, none⟩ (.slice (some ⟨g4, 0, none⟩) (U.length + 1) cap4)) b c none syn (.slice (some ⟨g4, 0, none⟩) (U.length + 1) cap4)) := Lib.hid (HW4.out.set7 _)
    have hgb : g4 ≠ b := by
      rcases hat4 with h | h
      · cases p with
        | none => cases h
        | some q => exact fun e => (hne q rfl) ((Option.some.inj h).trans e)
      · omega
    have HO5 : Hid ((w4.setCell ⟨b, 7, none⟩ (.slice (some ⟨g4, 0, none⟩) (U.length + 1) cap4)).ownsRow B 84 2 (.slice (some ⟨g4, 0, none⟩) (U.length + 1) cap4) (U.length + 1) (U.flatMap befCells ++ [.string s, .slice a0 n0 c0])) := Lib.hid (by
      obtain ⟨h1, h2⟩ := hown4
      refine ⟨h1, ?_⟩
      rcases h2 with h2 | ⟨g, cap, cur, e, r1, r2, r3⟩
      · exact .inl h2
      · cases e
        exact .inr ⟨g4, cap4, cur, rfl, r1, (heap_setCell_ne _ _ _ _ _ hgb).trans r2, r3⟩)
    have hs5 : (w4.setCell ⟨b, 7, none⟩ (.slice (some ⟨g4, 0, none⟩) (U.length + 1) cap4)).heap.size = w4.heap.size := size_setCell' _ _ _
    have HF5 : Hid (∀ k, k < w.heap.size → k ≠ b → (∀ q, p = some q → k ≠ q.block) → (w4.setCell ⟨b, 7, none⟩ (.slice (some ⟨g4, 0, none⟩) (U.length + 1) cap4)).heap[k]? = w.heap[k]?) := Lib.hid (fun k hk hkb hq => (heap_setCell_ne _ _ _ _ _ hkb).trans (HBlk4.out k hk hq))
    have ho5 : (w4.setCell ⟨b, 7, none⟩ (.slice (some ⟨g4, 0, none⟩) (U.length + 1) cap4)).os = w.os ∧ (w4.setCell ⟨b, 7, none⟩ (.slice (some ⟨g4, 0, none⟩) (U.length + 1) cap4)).tape = w.tape ∧ (w4.setCell ⟨b, 7, none⟩ (.slice (some ⟨g4, 0, none⟩) (U.length + 1) cap4)).output = w.output := ⟨hg4.os, hg4.tape, hg4.output⟩
    clear hg4 hown4 hat4 hf4 hc4
    generalize w4.setCell ⟨b, 7, none⟩ (.slice (some ⟨g4, 0, none⟩) (U.length + 1) cap4) = w5 at *
    have HS5 := Lib.hid hs5
    clear hs5
    have k5' := HW5.out.c5
    have k5a : (w5.alloc (.map #[] 0)).cell? ⟨b, 5, none⟩ = some (.map none) := (HW5.out.same (w' := w5.alloc (.map #[] 0)) (heap_alloc_lt _ _ _ HW5.out.lt)).c5
    have f5a : (w5.alloc (.map #[] 0)).frozen? ⟨b, 5, none⟩ = false := (HW5.out.same (w' := w5.alloc (.map #[] 0)) (heap_alloc_lt _ _ _ HW5.out.lt)).free 5
    have f5' := HW5.out.free 5
    have hl5 : g4 < w5.heap.size := (World.ownsRow.lt HO5.out g4 rfl).2
    have hlb5 := HW5.out.lt
    have hsS : (w5.setCell ⟨b, 5, none⟩ (.map (some w5.heap.size))).heap.size = w5.heap.size := size_setCell' _ _ _
    have hsz6 : ((w5.setCell ⟨b, 5, none⟩ (.map (some w5.heap.size))).alloc (.map #[] 0)).heap.size = w5.heap.size + 1 := by show (Array.push _ _).size = _; rw [Array.size_push, hsS]
    have HOm6 : Hid (((w5.setCell ⟨b, 5, none⟩ (.map (some w5.heap.size))).alloc (.map #[] 0)).ownsMap (H := Value) Try.prog 9 R33 w5.heap.size 0 (.map [])) := Lib.hid (by
      have := World.ownsMap_made (H := Value) (w5.setCell ⟨b, 5, none⟩ (.map (some w5.heap.size))) Try.prog 9 R33
      rw [hsS] at this
      exact this)
    have HW6 : Hid (WD ((w5.setCell ⟨b, 5, none⟩ (.map (some w5.heap.size))).alloc (.map #[] 0)) b c (some w5.heap.size) syn (.slice (some ⟨g4, 0, none⟩) (U.length + 1) cap4)) := Lib.hid ((HW5.out.set5 _).same (heap_alloc_lt _ _ _ (by rw [hsS]; exact hlb5)))
    have HF6 : Hid (∀ k, k < w5.heap.size → k ≠ b → ((w5.setCell ⟨b, 5, none⟩ (.map (some w5.heap.size))).alloc (.map #[] 0)).heap[k]? = w5.heap[k]?) := Lib.hid (fun k hk hkb => (heap_alloc_lt _ _ _ (by rw [hsS]; exact hk)).trans (heap_setCell_ne _ _ _ _ _ hkb))
    have ho6 : ((w5.setCell ⟨b, 5, none⟩ (.map (some w5.heap.size))).alloc (.map #[] 0)).os = w5.os ∧ ((w5.setCell ⟨b, 5, none⟩ (.map (some w5.heap.size))).alloc (.map #[] 0)).tape = w5.tape ∧ ((w5.setCell ⟨b, 5, none⟩ (.map (some w5.heap.size))).alloc (.map #[] 0)).output = w5.output := ⟨rfl, rfl, rfl⟩
    have HS6 := Lib.hid hsz6
    have HO6 : Hid (((w5.setCell ⟨b, 5, none⟩ (.map (some w5.heap.size))).alloc (.map #[] 0)).ownsRow B 84 2 (.slice (some ⟨g4, 0, none⟩) (U.length + 1) cap4) (U.length + 1) (U.flatMap befCells ++ [.string s, .slice a0 n0 c0])) := Lib.hid (by
      obtain ⟨h1, h2⟩ := HO5.out
      refine ⟨h1, ?_⟩
      rcases h2 with h2 | ⟨g, cap, cur, e, r1, r2, r3⟩
      · exact .inl h2
      · cases e
        exact .inr ⟨g4, cap4, cur, rfl, r1, (HF6.out g4 hl5 hgb).trans r2, r3⟩)
    clear hsz6 hsS
    go_upto_region 3 with (fail)
    obtain ⟨mN, hmN⟩ : ∃ q, w5.heap.size = q := ⟨_, rfl⟩
    have hmb : mN ≠ b := by omega
    have hgm : g4 ≠ mN := by omega
    have hmw : w.heap.size ≤ mN := by have := HS5.out; omega
    have hBm : B ≤ mN := by omega
    have HMN := Lib.hid hmN
    rw [hmN] at HOm6 HW6 HO6 HF6 HS6 ho6 ⊢
    clear k5' f5' k5a f5a hlb5 hl5 hmN
    generalize (w5.setCell ⟨b, 5, none⟩ (.map (some mN))).alloc (.map #[] 0) = w6 at *
    have k5' := HW6.out.c5
    go_wp2_with (at_mapUpdate; refine wpList_mapUpdate_own _ rfl _ _ _ 58 rfl 9 33 law9 Try.underlying58 R33 mN 0 (.map []) rfl HOm6.out (by decide) (.string s) (.slice a1 n1 c1) (keyL s) rfl rfl (Go.WideMaps.keyOf_string_mk Try.underlying9 hs) (.held (.slice a1 n1 c1)) [] rfl ?_; intro w7 hom7 hg7)
    go_end0
    refine ⟨rfl, g4, cap4, mN, HW6.out.same (hg7.block b HW6.out.lt (fun e => hmb (Option.some.inj e).symm)), ?_, .inr ⟨mN, 1, rfl, hBm, hom7, by omega⟩, ?_, .inr hmw, hg7.os.trans (ho6.1.trans ho5.1), hg7.tape.trans (ho6.2.1.trans ho5.2.1), hg7.output.trans (ho6.2.2.trans ho5.2.2), by have := hg7.size; have := HS6.out; omega, fun k hk hkb _ hq => (hg7.block k (by have := HS6.out; omega) (fun e => by have := Option.some.inj e; omega)).trans ((HF6.out k (by have := HMN.out; omega) hkb).trans (HF5.out k hk hkb hq))⟩
    · unfold UndoAt
      rw [List.length_append, List.flatMap_append, HV0.out]
      exact HO6.out.kept hg7 (.inr (fun e => hgm (Option.some.inj e)))
    · rcases HA4.out with h | h
      · cases p with
        | none => cases h
        | some q => exact .inl ⟨q, rfl, (Option.some.inj h).symm⟩
      · exact .inr (by omega)
end Go.Proofs.Ytaaiicfclaeapaa

namespace Go.Proofs.Ytaaiicfclaeapaa
open Go.RowKit Go.Mp Go.Rb Go.Lib
/-- A disk: its map and its undo list in memory, and what they say: F, what each file holds; UL, what each file held ahead of each write that may be undone. -/
structure DI (w : World) (b B K : Nat) (c : Value × Value × Value × Value × Value) (mp : Option Nat) (D : DataW Value) (syn : Nat) (V : List (ByteArray × Value)) (p : Option Addr) (cap : Nat) (F : ByteArray → List UInt8) (UL : List (ByteArray × List UInt8)) : Prop where
  wd : WD w b c mp syn (.slice p V.length cap)
  base : B ≤ b
  map : MapD w B K mp D
  undo : UndoAt w B p cap V
  body : ∀ s, s.size ≤ maxLen → RB B w (valOf D s) (F s)
  len : UL.length = V.length
  old : ∀ (j : Nat) e l, V[j]? = some e → UL[j]? = some l → e.1 = l.1 ∧ RB B w e.2 l.2
  apart : ∀ s t a n c a' n' c', s.size ≤ maxLen → t.size ≤ maxLen → s ≠ t → valOf D s = .slice (some a) n c → valOf D t = .slice (some a') n' c' → a.block ≠ a'.block
  elder : ∀ s (j : Nat) e a n c a' n' c', s.size ≤ maxLen → V[j]? = some e → valOf D s = .slice (some a) n c → e.2 = .slice (some a') n' c' → a.block = a'.block → n' ≤ n
  named : ∀ (j : Nat) e, V[j]? = some e → e.1.size ≤ maxLen ∧ Go.Maps.has D (keyL e.1) = true ∧ ∃ a n c, e.2 = .slice a n c
theorem MapD.obj {w : World} {B K m : Nat} {D : DataW Value} (h : MapD w B K (some m) D) : ∃ es cl, w.heap[m]? = some (.map es cl) := by
  rcases h with ⟨e, _⟩ | ⟨m', N, e, _, ⟨es, cl, h, _⟩, _⟩
  · cases e
  · cases e; exact ⟨es, cl, h⟩
theorem MapD.base {w : World} {B K m : Nat} {D : DataW Value} (h : MapD w B K (some m) D) : B ≤ m := by
  rcases h with ⟨e, _⟩ | ⟨m', N, e, h, _⟩
  · cases e
  · cases e; exact h
theorem UndoAt.obj {w : World} {B cap : Nat} {q : Addr} {V : List (ByteArray × Value)} (h : UndoAt w B (some q) cap V) : B ≤ q.block ∧ ∃ cur, w.heap[q.block]? = some (.cells cur 84 (0, 0)) := by
  rcases h with ⟨_, ⟨e, _⟩ | ⟨g, cp, cur, e, hB, hg, _⟩⟩
  · cases e
  · cases e; exact ⟨hB, cur, hg⟩
theorem RB.obj {B : Nat} {w : World} {a : Addr} {n c : Nat} {l : List UInt8} (h : RB B w (.slice (some a) n c) l) : a = ⟨a.block, 0, none⟩ ∧ n = l.length ∧ B ≤ a.block ∧ c ≤ 9223372036854775807 ∧ RowB 5 w a.block c l ∧ ∃ cur fr, w.heap[a.block]? = some (.cells cur 5 fr) := by
  rcases h with ⟨e, _⟩ | ⟨g, cp, e, hB, hc, hr⟩
  · cases e
  · cases e
    obtain ⟨arr, lo, hi, h1, h2⟩ := hr
    exact ⟨rfl, rfl, hB, hc, ⟨arr, lo, hi, h1, h2⟩, arr, _, h1⟩
theorem u8_ne : 5 ≠ 63 ∧ 5 ≠ 84 ∧ 84 ≠ 63 := by decide
section
variable {w : World} {b B K : Nat} {c : Value × Value × Value × Value × Value} {mp : Option Nat} {D : DataW Value} {syn : Nat} {V : List (ByteArray × Value)} {p : Option Addr} {cap : Nat} {F : ByteArray → List UInt8} {UL : List (ByteArray × List UInt8)}
theorem DI.sep (h : DI w b B K c mp D syn V p cap F UL) (q : Addr) (e : p = some q) : q.block ≠ b ∧ mp ≠ some q.block := by
  subst e
  obtain ⟨_, cur, hc⟩ := h.undo.obj
  refine ⟨fun e => ?_, fun e => ?_⟩
  · have := h.wd
    unfold WD at this
    rw [e, this] at hc
    injection hc with hc
    injection hc with _ hc
    exact u8_ne.2.2 hc.symm
  · subst e
    obtain ⟨es, cl, hm⟩ := h.map.obj
    rw [hm] at hc
    cases hc
theorem DI.mpb (h : DI w b B K c mp D syn V p cap F UL) : mp ≠ some b := fun e => by
  subst e
  obtain ⟨es, cl, hm⟩ := h.map.obj
  have := h.wd
  unfold WD at this
  rw [this] at hm
  cases hm
/-- A row of bytes is none of the disk's own blocks. -/
theorem DI.other (h : DI w b B K c mp D syn V p cap F UL) {g : Nat} {cur : Array Value} {fr : Nat × Nat} (hg : w.heap[g]? = some (.cells cur 5 fr)) : g ≠ b ∧ mp ≠ some g ∧ ∀ q, p = some q → g ≠ q.block := by
  refine ⟨fun e => ?_, fun e => ?_, fun q e e2 => ?_⟩
  · have := h.wd
    unfold WD at this
    rw [e, this] at hg
    injection hg with hg
    injection hg with _ hg
    exact u8_ne.1 hg.symm
  · subst e
    obtain ⟨es, cl, hm⟩ := h.map.obj
    rw [hm] at hg
    cases hg
  · subst e
    obtain ⟨_, cur2, hc⟩ := h.undo.obj
    rw [← e2, hg] at hc
    injection hc with hc
    injection hc with _ hc
    exact u8_ne.2.1 hc
theorem RB.same {B : Nat} {w w' : World} {v : Value} {l : List UInt8} (h : RB B w v l) (hh : ∀ a n c, v = .slice (some a) n c → w'.heap[a.block]? = w.heap[a.block]?) : RB B w' v l := by
  rcases h with h | ⟨g, cp, rfl, hB, hc, arr, lo, hi, h1, h2⟩
  · exact .inl h
  · exact .inr ⟨g, cp, rfl, hB, hc, arr, lo, hi, (hh _ _ _ rfl).trans h1, h2⟩
/-- Nothing of what was there has turned. -/
theorem DI.below (h : DI w b B K c mp D syn V p cap F UL) {w' : World} (hb : Below w.heap.size w w') : DI w' b B K c mp D syn V p cap F UL where
  wd := h.wd.same (hb.block b h.wd.lt)
  base := h.base
  map := h.map.same (fun m e => hb.block m (by subst e; exact h.map.lt))
  undo := by
    obtain ⟨h1, h2⟩ := h.undo
    refine ⟨h1, h2.imp id (fun ⟨g, cp, cur, e, hB, hg, h3⟩ => ⟨g, cp, cur, e, hB, (hb.block g (Array.getElem?_eq_some_iff.1 hg).1).trans hg, h3⟩)⟩
  body := fun s hs => (h.body s hs).below hb
  len := h.len
  old := fun j e l h1 h2 => ⟨(h.old j e l h1 h2).1, (h.old j e l h1 h2).2.below hb⟩
  apart := h.apart
  elder := h.elder
  named := h.named
end
end Go.Proofs.Ytaaiicfclaeapaa

namespace Go.Proofs.Ytaaiicfclaeapaa
open Go.RowKit Go.Mp Go.Rb Go.Lib
theorem MapD.isMap {w : World} {B K : Nat} {mp : Option Nat} {D : DataW Value} (h : MapD w B K mp D) : Go.Maps.IsMap D := by
  rcases h with ⟨_, rfl⟩ | ⟨m', N, e, _, h, _⟩
  · exact Go.Maps.isMap_empty
  · exact h.isMap
def updF (F : ByteArray → List UInt8) (s : ByteArray) (l : List UInt8) : ByteArray → List UInt8 := fun t => if t = s then l else F t
theorem RB.kg {B : Nat} {w w' : World} {v : Value} {l : List UInt8} {g n : Nat} (h : RB B w v l) (hk : KG g n w w') (hn : ∀ a m c, v = .slice (some a) m c → a.block = g → m ≤ n) : RB B w' v l := by
  rcases h with h | ⟨b, cp, rfl, hB, hc, hr⟩
  · exact .inl h
  · exact .inr ⟨b, cp, rfl, hB, hc, hr.kg hk (fun e => hn _ _ _ rfl e)⟩
section
variable {w : World} {b B K : Nat} {c : Value × Value × Value × Value × Value} {mp : Option Nat} {D : DataW Value} {syn : Nat} {V : List (ByteArray × Value)} {p : Option Addr} {cap : Nat} {F : ByteArray → List UInt8} {UL : List (ByteArray × List UInt8)}
theorem DI.kg (h : DI w b B K c mp D syn V p cap F UL) {s : ByteArray} (hs : s.size ≤ maxLen) {a : Addr} {n c0 : Nat} (hv : valOf D s = .slice (some a) n c0) {w' : World} (hk : KG a.block n w w') : DI w' b B K c mp D syn V p cap F UL := by
  have hb := h.body s hs
  rw [hv] at hb
  obtain ⟨_, _, _, _, _, cur, fr, hcur⟩ := RB.obj hb
  obtain ⟨n1, n2, n3⟩ := h.other hcur
  exact {
    wd := h.wd.same (hk.block b h.wd.lt (fun e => n1 e.symm))
    base := h.base
    map := h.map.same (fun m e => hk.block m (by subst e; exact h.map.lt) (fun e2 => n2 (by rw [e, e2])))
    undo := by
      obtain ⟨h1, h2⟩ := h.undo
      refine ⟨h1, h2.imp id (fun ⟨g, cp, cur, e, hB, hg, h3⟩ => ⟨g, cp, cur, e, hB, (hk.block g (Array.getElem?_eq_some_iff.1 hg).1 (fun e2 => ?_)).trans hg, h3⟩)⟩
      injection e with e3 e4 e5
      exact n3 _ e3 e2.symm
    body := fun t ht => RB.kg (h.body t ht) hk (fun a' m' c' e e2 => by
      by_cases hts : t = s
      · subst hts
        rw [hv] at e
        cases e
        exact Nat.le_refl _
      · exact absurd e2 (h.apart t s _ _ _ _ _ _ ht hs hts e hv))
    len := h.len
    old := fun j e l h1 h2 => ⟨(h.old j e l h1 h2).1, RB.kg (h.old j e l h1 h2).2 hk (fun a' m' c' e e2 => h.elder s j _ _ _ _ _ _ _ hs h1 hv e e2.symm)⟩
    apart := h.apart
    elder := h.elder
    named := h.named }
theorem DI.write (h : DI w b B K c mp D syn V p cap F UL) {s : ByteArray} (hs : s.size ≤ maxLen) {a1 : Option Addr} {n1 c1 : Nat} {l1 : List UInt8} (h1 : RB B w (.slice a1 n1 c1) l1) {e : Ending} {w' : World} (hw : WriteR w b B K c mp D syn V p s (.slice a1 n1 c1) e w')
    (hap : ∀ t a n c' a', t.size ≤ maxLen → t ≠ s → valOf D t = .slice (some a) n c' → a1 = some a' → a.block ≠ a'.block)
    (hel : ∀ (j : Nat) x a a' n' c', V[j]? = some x → a1 = some a → x.2 = .slice (some a') n' c' → a.block = a'.block → n' ≤ n1)
    (hes : ∀ a a' n' c', a1 = some a → valOf D s = .slice (some a') n' c' → a.block = a'.block → n' ≤ n1) :
    e = .returned (.tuple #[]) ∧ (∃ mp' D' V' p' cap', DI w' b B (K + 1) c mp' D' syn V' p' cap' (updF F s l1) (UL ++ [(s, F s)]) ∧ V'.length = V.length + 1) ∧ w'.os = w.os ∧ w'.tape = w.tape ∧ w'.output = w.output ∧ w.heap.size ≤ w'.heap.size ∧ (B ≤ w.heap.size → ∀ k, k < B → w'.heap[k]? = w.heap[k]?) := by
  obtain ⟨he, g, cap', m', k1, k2, k3, k4, k5, k6, k7, k8, k9, k10⟩ := hw
  have keep : ∀ v l, RB B w v l → RB B w' v l := fun v l hr => RB.same hr (fun a n c' e => by
    subst e
    obtain ⟨_, _, _, _, _, cur, fr, hcur⟩ := RB.obj hr
    obtain ⟨x1, x2, x3⟩ := h.other hcur
    exact k10 _ (Array.getElem?_eq_some_iff.1 hcur).1 x1 x2 x3)
  have hvs : valOf (D.put (keyL s) (.held (.slice a1 n1 c1))) s = .slice a1 n1 c1 := valOf_put_same h.map.isMap s a1 n1 c1
  have hvo : ∀ t, t ≠ s → valOf (D.put (keyL s) (.held (.slice a1 n1 c1))) t = valOf D t := fun t ht => valOf_put_other ht _
  refine ⟨he, ⟨some m', D.put (keyL s) (.held (.slice a1 n1 c1)), V ++ [(s, valOf D s)], some ⟨g, 0, none⟩, cap', ?_, by simp⟩, k6, k7, k8, k9, fun hBs k hk => k10 k (by omega) (by have := h.base; omega) (fun e => ?_) (fun q e => ?_)⟩
  · exact {
      wd := by rw [List.length_append]; exact k1
      base := h.base
      map := k3
      undo := k2
      body := fun t ht => by
        unfold updF
        by_cases hts : t = s
        · subst hts
          rw [hvs, if_pos rfl]
          exact keep _ _ h1
        · rw [hvo t hts, if_neg hts]
          exact keep _ _ (h.body t ht)
      len := by rw [List.length_append, List.length_append, h.len]; rfl
      old := fun j x l hj hl => by
        by_cases hjl : j < V.length
        · rw [List.getElem?_append_left hjl] at hj
          rw [List.getElem?_append_left (by rw [h.len]; exact hjl)] at hl
          exact ⟨(h.old j x l hj hl).1, keep _ _ (h.old j x l hj hl).2⟩
        · rw [List.getElem?_append_right (by omega)] at hj
          rw [List.getElem?_append_right (by rw [h.len]; omega), h.len] at hl
          obtain hz : j - V.length = 0 := by
            have := (List.getElem?_eq_some_iff.1 hj).1
            simp at this
            omega
          rw [hz] at hj hl
          cases hj
          cases hl
          exact ⟨rfl, keep _ _ (h.body s hs)⟩
      apart := fun t u a n ca a' n' ca' ht hu htu e1 e2 => by
        by_cases hts : t = s
        · subst hts
          rw [hvs] at e1
          rw [hvo u (fun e => htu e.symm)] at e2
          injection e1 with q1
          exact fun e => hap u _ _ _ _ hu (fun e => htu e.symm) e2 q1 e.symm
        · rw [hvo t hts] at e1
          by_cases hus : u = s
          · subst hus
            rw [hvs] at e2
            injection e2 with q1
            exact hap t _ _ _ _ ht hts e1 q1
          · rw [hvo u hus] at e2
            exact h.apart t u _ _ _ _ _ _ ht hu htu e1 e2
      elder := fun t j x a n ca a' n' ca' ht hj e1 e2 e3 => by
        by_cases hjl : j < V.length
        · rw [List.getElem?_append_left hjl] at hj
          by_cases hts : t = s
          · subst hts
            rw [hvs] at e1
            injection e1 with q1 q2
            subst q2
            exact hel j x a a' n' ca' hj q1 e2 e3
          · rw [hvo t hts] at e1
            exact h.elder t j x _ _ _ _ _ _ ht hj e1 e2 e3
        · rw [List.getElem?_append_right (by omega)] at hj
          obtain hz : j - V.length = 0 := by
            have := (List.getElem?_eq_some_iff.1 hj).1
            simp at this
            omega
          rw [hz] at hj
          cases hj
          by_cases hts : t = s
          · subst hts
            rw [hvs] at e1
            injection e1 with q1 q2
            subst q2
            exact hes a a' n' ca' q1 e2 e3
          · rw [hvo t hts] at e1
            exact absurd e3 (h.apart t s _ _ _ _ _ _ ht hs hts e1 e2)
      named := fun j x hj => by
        by_cases hjl : j < V.length
        · rw [List.getElem?_append_left hjl] at hj
          obtain ⟨q1, q2, q3⟩ := h.named j x hj
          refine ⟨q1, ?_, q3⟩
          by_cases hx : x.1 = s
          · rw [hx]
            exact Go.Maps.has_put_same h.map.isMap (show Go.WideAt.IsKeyLit (keyL s) from trivial) _
          · rw [Go.Maps.has_put_other (fun e => hx (keyL_inj e)) _]
            exact q2
        · rw [List.getElem?_append_right (by omega)] at hj
          obtain hz : j - V.length = 0 := by
            have := (List.getElem?_eq_some_iff.1 hj).1
            simp at this
            omega
          rw [hz] at hj
          cases hj
          exact ⟨hs, Go.Maps.has_put_same h.map.isMap (show Go.WideAt.IsKeyLit (keyL s) from trivial) _, h.map.shape s hs⟩ }
  · subst e
    have := h.map.base
    omega
  · subst e
    have := h.undo.obj.1
    omega
end
end Go.Proofs.Ytaaiicfclaeapaa

namespace Go.Proofs.Ytaaiicfclaeapaa
open Go.RowKit Go.Mp Go.Rb Go.Lib
/-- A disk says: syn raw writes are synced, F is what its files hold, UL what they held ahead of each write behind. -/
def DKS (w : World) (b B K : Nat) (c : Value × Value × Value × Value × Value) (syn : Nat) (F : ByteArray → List UInt8) (UL : List (ByteArray × List UInt8)) : Prop :=
  ∃ mp D V p cap, DI w b B K c mp D syn V p cap F UL
section
variable {b B K : Nat} {c : Value × Value × Value × Value × Value} {syn : Nat} {F : ByteArray → List UInt8} {UL : List (ByteArray × List UInt8)}
theorem write_di {w : World} {mp : Option Nat} {D : DataW Value} {V : List (ByteArray × Value)} {p : Option Addr} {cap : Nat} (h : DI w b B K c mp D syn V p cap F UL) (hK : K ≤ 1000000) (hU : V.length ≤ 100000) (s : ByteArray) (hs : s.size ≤ maxLen) (a1 : Option Addr) (n1 c1 : Nat) :
    Calls Try.prog 46 #[.pointer (some ⟨b, 5, none⟩), .string s, .slice a1 n1 c1] w (WriteR w b B K c mp D syn V p s (.slice a1 n1 c1)) := by
  have hmpb := h.mpb
  have hsep := h.sep
  cases mp with
  | none => exact write_none b B K c D syn V p cap s a1 n1 c1 w h.wd h.base h.map hK h.undo hU hs (fun q e => (hsep q e).1) (by have := h.wd.lt; have := h.base; omega)
  | some m => exact write_some b B K m c D syn V p cap s a1 n1 c1 w h.wd h.base h.map hK h.undo hU hs (fun q e => ⟨(hsep q e).1, fun e2 => (hsep q e).2 (by rw [e2])⟩) (fun e => hmpb (by rw [e]))
set_option maxHeartbeats 2000000 in
set_option maxRecDepth 100000 in
theorem extend_any {w : World} (h : DKS w b B K c syn F UL) (hK : K ≤ 1000000) (hU : UL.length ≤ 100000) (s : ByteArray) (hs : s.size ≤ maxLen) (p3 : Option Addr) (n3 c3 : Nat) (m : List UInt8) (hsrc : Src Try.prog w (.slice p3 n3 c3) m) (hm : (F s).length + m.length ≤ 1000000) :
    Calls Try.prog 35 #[.pointer (some ⟨b, 5, none⟩), .string s, .slice p3 n3 c3] w fun e w' => e = .returned (.tuple #[]) ∧ DKS w' b B (K + 1) c syn (updF F s (F s ++ m)) (UL ++ [(s, F s)]) ∧ Below B w w' := by
  obtain ⟨mp, D, V, p, cap, hd⟩ := h
  have hVl := hd.len
  obtain ⟨a0, n0, c0, hv0⟩ := hd.map.shape s hs
  have k5 := hd.wd.c5
  have hlk := hd.map.lookup s hs
  rw [hv0] at hlk
  have hbB : B ≤ w.heap.size := by have := hd.wd.lt; have := hd.base; omega
  have hrb := hd.body s hs
  rw [hv0] at hrb
  have HRb := Lib.hid hrb
  have HSrc := Lib.hid hsrc
  have HD := Lib.hid hd
  have HV0 := Lib.hid hv0
  obtain ⟨i8, hi, hz0, hz1, hz2⟩ := info_parts' (show (Try.prog.info? 5).map (fun i => (i.zero, i.size, i.bytes)) = some (some (.int .u8 0), 1, 1) by kernel_rfl)
  have HWr : Hid (∀ w2 p1 c1, RB B w2 (.slice p1 ((F s).length + m.length) c1) (F s ++ m) → ((∃ a n c', (.slice a0 n0 c0 : Value) = .slice (some a) n c' ∧ KG a.block (F s).length w w2 ∧ blk (.slice p1 ((F s).length + m.length) c1) = a.block) ∨ (Below w.heap.size w w2 ∧ (p1 = none ∨ blk (.slice p1 ((F s).length + m.length) c1) = w.heap.size))) →
      Calls Try.prog 46 #[.pointer (some ⟨b, 5, none⟩), .string s, .slice p1 ((F s).length + m.length) c1] w2 fun e w' => e = .returned (.tuple #[]) ∧ DKS w' b B (K + 1) c syn (updF F s (F s ++ m)) (UL ++ [(s, F s)]) ∧ Below B w w') := Lib.hid (by
    intro w2 p1 c1 hr2 hk2
    have hlt : ∀ t a n ca, t.size ≤ maxLen → valOf D t = .slice (some a) n ca → a.block < w.heap.size := fun t a n ca ht e => by
      have := hd.body t ht
      rw [e] at this
      obtain ⟨_, _, _, _, _, cur, fr, hc⟩ := RB.obj this
      exact (Array.getElem?_eq_some_iff.1 hc).1
    have hlo : ∀ (j : Nat) x a n ca, V[j]? = some x → x.2 = .slice (some a) n ca → a.block < w.heap.size := fun j x a n ca hj e => by
      obtain ⟨l, hl⟩ : ∃ l, UL[j]? = some l := ⟨_, List.getElem?_eq_getElem (by rw [hd.len]; exact (List.getElem?_eq_some_iff.1 hj).1)⟩
      have := (hd.old j x l hj hl).2
      rw [e] at this
      obtain ⟨_, _, _, _, _, cur, fr, hc⟩ := RB.obj this
      exact (Array.getElem?_eq_some_iff.1 hc).1
    have fin : ∀ (hd2 : DI w2 b B K c mp D syn V p cap F UL) (hb2 : Below B w w2)
        (hap : ∀ t a n c' a', t.size ≤ maxLen → t ≠ s → valOf D t = .slice (some a) n c' → p1 = some a' → a.block ≠ a'.block)
        (hel : ∀ (j : Nat) x a a' n' c', V[j]? = some x → p1 = some a → x.2 = .slice (some a') n' c' → a.block = a'.block → n' ≤ (F s).length + m.length)
        (hes : ∀ a a' n' c', p1 = some a → valOf D s = .slice (some a') n' c' → a.block = a'.block → n' ≤ (F s).length + m.length),
        Calls Try.prog 46 #[.pointer (some ⟨b, 5, none⟩), .string s, .slice p1 ((F s).length + m.length) c1] w2 fun e w' => e = .returned (.tuple #[]) ∧ DKS w' b B (K + 1) c syn (updF F s (F s ++ m)) (UL ++ [(s, F s)]) ∧ Below B w w' := fun hd2 hb2 hap hel hes => by
      refine (write_di hd2 hK (by omega) s hs p1 _ c1).mono ?_
      intro e w3 hw
      obtain ⟨he, ⟨mp', D', V', p', cap', hd3, _⟩, h1, h2, h3, h4, h5⟩ := hd2.write hs hr2 hw hap hel hes
      exact ⟨he, ⟨mp', D', V', p', cap', hd3⟩, h1.trans hb2.os, h2.trans hb2.tape, h3.trans hb2.output, Nat.le_trans hb2.size h4, fun k hk => (h5 (Nat.le_trans hbB hb2.size) k hk).trans (hb2.block k hk)⟩
    rcases hk2 with ⟨a, n, c', e, hkg, hblk⟩ | ⟨hbl, hx⟩
    · have hv : valOf D s = .slice (some a) n c' := hv0.trans e
      have hbs := hd.body s hs
      rw [hv] at hbs
      obtain ⟨_, hnl, hBa, _⟩ := RB.obj hbs
      have hp1 : ∀ q, p1 = some q → q.block = a.block := fun q e => by subst e; exact hblk
      refine fin (hd.kg hs hv (hnl ▸ hkg)) (hkg.below hBa hbB) (fun t a2 n2 c2 a' ht hts e2 e3 => ?_) (fun j x a2 a' n' c2 hj e2 e3 e4 => ?_) (fun a2 a' n' c2 e2 e3 e4 => ?_)
      · rw [hp1 a' e3]
        exact hd.apart t s _ _ _ _ _ _ ht hs hts e2 hv
      · have := hd.elder s j x _ _ _ _ _ _ hs hj hv e3 (by rw [← hp1 a2 e2]; exact e4)
        omega
      · rw [hv] at e3
        cases e3
        omega
    · have hp1 : ∀ q, p1 = some q → q.block = w.heap.size := fun q e => by
        subst e
        rcases hx with hx | hx
        · cases hx
        · exact hx
      refine fin (hd.below hbl) (hbl.mono hbB) (fun t a2 n2 c2 a' ht hts e2 e3 => ?_) (fun j x a2 a' n' c2 hj e2 e3 e4 => ?_) (fun a2 a' n' c2 e2 e3 e4 => ?_)
      · have := hlt t _ _ _ ht e2
        have := hp1 a' e3
        omega
      · have := hlo j x _ _ _ hj e3
        have := hp1 a2 e2
        omega
      · have := hlt s _ _ _ hs e3
        have := hp1 a2 e2
        omega)
  clear hd hrb hsrc hv0
  go_enter Try.func35, Try.ntmps35
  go_wp2_with (first | (at_builtin; refine wpList_append_kg rfl _ _ 33 33 rfl Try.underlying33 Try.underlying33 (fun k e => by cases e) hi hz0 hz1 hz2 rfl rfl HRb.out HSrc.out hbB hm ?_; intro p1 c1 w2 hr2 hk2; have HR2 := Lib.hid hr2; have HK2 := Lib.hid hk2; clear hr2 hk2) | (go_at_call 46; refine (HWr.out w2 p1 c1 HR2.out HK2.out).mono ?_; rintro e w3 ⟨rfl, hks, hb3⟩; have HKs := Lib.hid hks; have HB3 := Lib.hid hb3; clear hks hb3))
  go_end0
  exact ⟨rfl, HKs.out, HB3.out⟩
set_option maxRecDepth 100000 in
theorem sync_any {w : World} (h : DKS w b B K c syn F UL) (hsyn : syn ≤ 100000) (hU : UL.length ≤ 100000) :
    Calls Try.prog 37 #[.pointer (some ⟨b, 5, none⟩)] w fun e w' => e = .returned (.tuple #[]) ∧ DKS w' b B K c (syn + UL.length) F [] ∧ Below B w w' := by
  obtain ⟨mp, D, V, p, cap, hd⟩ := h
  have hVl := hd.len
  have hbl := hd.wd.lt
  have HWs := Lib.hid (writes_any b c mp syn p V.length cap w hd.wd (by omega) (by omega))
  have HD := Lib.hid hd
  clear hd
  go_enter Try.func37, Try.ntmps37
  go_wp2_with (go_at_call 45; refine HWs.out.mono ?_; rintro e w2 ⟨rfl, q, hw2⟩; have hb2 : Below w.heap.size w w2 := hw2 ▸ bel_drewN (Below.refl _ w) q; have HB2 := Lib.hid hb2; have HD2 := Lib.hid (HD.out.below hb2); have k6 := HD2.out.wd.c6; have k7 := HD2.out.wd.c7; have f6 := HD2.out.wd.free 6; have f7 := HD2.out.wd.free 7; clear hw2 hb2)
  go_end0
  have hbB : B ≤ w.heap.size := by have := HD.out.base; omega
  have hd2 := HD2.out
  have hsum : ((syn : Int) + (V.length : Int)) = ((syn + UL.length : Nat) : Int) := by omega
  rw [hsum]
  have hx : ∀ k, k ≠ b → ((w2.setCell ⟨b, 6, none⟩ (.int .i64 ((syn + UL.length : Nat) : Int))).setCell ⟨b, 7, none⟩ (.slice none 0 0)).heap[k]? = w2.heap[k]? := fun k hk => (heap_setCell_ne _ _ _ _ _ hk).trans (heap_setCell_ne _ _ _ _ _ hk)
  have keep : ∀ v l, RB B w2 v l → RB B ((w2.setCell ⟨b, 6, none⟩ (.int .i64 ((syn + UL.length : Nat) : Int))).setCell ⟨b, 7, none⟩ (.slice none 0 0)) v l := fun v l hr => RB.same hr (fun a n c' e => by
    subst e
    obtain ⟨_, _, _, _, _, cur, fr, hcur⟩ := RB.obj hr
    exact hx _ (hd2.other hcur).1)
  refine ⟨rfl, ⟨mp, D, [], none, 0, ?_⟩, HB2.out.os, HB2.out.tape, HB2.out.output, ?_, fun k hk => (hx k (by have := hd2.base; omega)).trans (HB2.out.block k (by omega))⟩
  · exact {
      wd := (hd2.wd.set6 _).set7 _
      base := hd2.base
      map := hd2.map.same (fun m e => hx m (fun e2 => hd2.mpb (by rw [e, e2])))
      undo := World.ownsRow_nil _ _ _ _
      body := fun t ht => keep _ _ (hd2.body t ht)
      len := rfl
      old := fun j e l h1 _ => by simp at h1
      apart := hd2.apart
      elder := fun t j x a n c' a' n' c'' _ h1 => by simp at h1
      named := fun j x h1 => by simp at h1 }
  · rw [size_setCell', size_setCell']
    exact HB2.out.size
end
end Go.Proofs.Ytaaiicfclaeapaa

namespace Go.Proofs.Ytaaiicfclaeapaa
open Go.RowKit Go.Mp Go.Rb Go.Lib
theorem rowB_made (w : World) (e : TypeId) : RowB e (w.alloc (.cells #[] e)) w.heap.size 0 [] :=
  ⟨#[], 0, 0, heap_alloc_new w _, .inr rfl, rfl, Nat.le_refl _, fun j c h => by simp at h⟩
set_option maxRecDepth 100000 in
theorem clone_rb {B : Nat} {w : World} {a : Option Addr} {n c : Nat} {l : List UInt8} (h : RB B w (.slice a n c) l) (hl : l.length ≤ 1000000) :
    Calls Try.prog 31 #[.slice a n c] w fun e w' => ∃ p c', e = .returned (.slice p l.length c') ∧ RB w.heap.size w' (.slice p l.length c') l ∧ Below w.heap.size w w' := by
  cases a with
  | none =>
    have hl0 : n = 0 ∧ c = 0 ∧ l = [] := by
      rcases h with ⟨e, rfl⟩ | ⟨g, cp, e, _⟩
      · cases e; exact ⟨rfl, rfl, rfl⟩
      · cases e
    obtain ⟨rfl, rfl, rfl⟩ := hl0
    exact (clone_nil w).mono (fun e w' ⟨he, hw⟩ => ⟨none, 0, he, .inl ⟨rfl, rfl⟩, hw ▸ Below.refl _ _⟩)
  | some x =>
    obtain ⟨hx, hn, hB, hc, hrow, cur, fr, hcur⟩ := RB.obj h
    subst hn
    obtain ⟨g, rfl⟩ : ∃ g, x = ⟨g, 0, none⟩ := ⟨x.block, hx⟩
    clear hx
    have k33 := eql33 (some ⟨g, 0, none⟩) l.length c
    obtain ⟨i8, hi, hz0, hz1, hz2⟩ := info_parts' (show (Try.prog.info? 5).map (fun i => (i.zero, i.size, i.bytes)) = some (some (.int .u8 0), 1, 1) by kernel_rfl)
    have hb0 : Below w.heap.size w (w.alloc (.cells #[] 5)) := (Below.refl _ w).alloc (Nat.le_refl _) _
    have hsrc : Src Try.prog (w.alloc (.cells #[] 5)) (.slice (some ⟨g, 0, none⟩) l.length c) l := by
      exact Src.row (hrow.below hb0 (Array.getElem?_eq_some_iff.1 hcur).1)
    have hs0 : (w.alloc (.cells #[] 5)).heap.size = w.heap.size + 1 := by show (w.heap.push _).size = _; simp
    have HS := Lib.hid hsrc
    have HR : Hid (RB w.heap.size (w.alloc (.cells #[] 5)) (.slice (some ⟨w.heap.size, 0, none⟩) 0 0) []) := Lib.hid (.inr ⟨w.heap.size, 0, rfl, Nat.le_refl _, by omega, rowB_made w _⟩)
    have HB := Lib.hid hb0
    have HS0 := Lib.hid hs0
    have HN : Hid (([] : List UInt8).length + l.length = l.length) := Lib.hid (by simp)
    clear h hsrc hb0 hrow hcur hs0
    go_enter Try.func31, Try.ntmps31
    go_wp2_with (at_builtin; refine wpList_append_kg (l := []) (m := l) (v := .slice (some ⟨g, 0, none⟩) l.length c) (B := w.heap.size) rfl _ _ 33 33 rfl Try.underlying33 Try.underlying33 (by intro k hk; cases hk) hi hz0 hz1 hz2 rfl (by first | rfl | (simp only [Act.eval, Act.put]; rfl)) HR.out HS.out (by rw [HS0.out]; omega) (by simp; omega) ?_; intro p1 c1 w2 hr2 hk2; rw [HN.out] at hr2 hk2 ⊢; have HR2 := Lib.hid hr2; have HK2 := Lib.hid hk2; clear hr2 hk2)
    go_ret
    refine ⟨p1, c1, rfl, HR2.out, ?_⟩
    rcases HK2.out with ⟨a, n', c', e, hkg, _⟩ | ⟨hbl, _⟩
    · cases e
      exact HB.out.trans (hkg.below (Nat.le_refl _) (by rw [HS0.out]; omega))
    · exact HB.out.trans (hbl.mono (by rw [HS0.out]; omega))
section
variable {b B K : Nat} {c : Value × Value × Value × Value × Value} {syn : Nat} {F : ByteArray → List UInt8} {UL : List (ByteArray × List UInt8)}
set_option maxRecDepth 100000 in
theorem load_any {w : World} (h : DKS w b B K c syn F UL) (s : ByteArray) (hs : s.size ≤ maxLen) (hl : (F s).length ≤ 1000000) :
    Calls Try.prog 29 #[.pointer (some ⟨b, 0, none⟩), .string s] w fun e w' => ∃ p c', e = .returned (.slice p (F s).length c') ∧ RB w.heap.size w' (.slice p (F s).length c') (F s) ∧ Below w.heap.size w w' := by
  obtain ⟨mp, D, V, p, cap, hd⟩ := h
  obtain ⟨a0, n0, c0, hv0⟩ := hd.map.shape s hs
  have k5 := hd.wd.c5
  have hlk := hd.map.lookup s hs
  rw [hv0] at hlk
  have hrb := hd.body s hs
  rw [hv0] at hrb
  have HCl := Lib.hid (clone_rb hrb hl)
  clear hd hrb hv0
  go_enter Try.func29, Try.ntmps29
  go_wp2_with (go_at_call 31; refine HCl.out.mono ?_; rintro e w2 ⟨p2, c2, rfl, hr, hb⟩; have HR := Lib.hid hr; have HB := Lib.hid hb; clear hr hb)
  go_ret
  exact ⟨p2, c2, rfl, HR.out, HB.out⟩
set_option maxRecDepth 100000 in
theorem append_any {w : World} (h : DKS w b B K c syn F UL) (hK : K ≤ 1000000) (hU : UL.length ≤ 100000) (s : ByteArray) (hs : s.size ≤ maxLen) (p3 : Option Addr) (n3 c3 : Nat) (m : List UInt8) (hsrc : Src Try.prog w (.slice p3 n3 c3) m) (hm : (F s).length + m.length ≤ 1000000) :
    Calls Try.prog 20 #[.pointer (some ⟨b, 0, none⟩), .string s, .slice p3 n3 c3] w fun e w' => e = .returned (.tuple #[]) ∧ DKS w' b B (K + 1) c syn (updF F s (F s ++ m)) (UL ++ [(s, F s)]) ∧ Below B w w' := by
  have HE := Lib.hid (extend_any h hK hU s hs p3 n3 c3 m hsrc hm)
  clear h hsrc hm
  go_enter Try.func20, Try.ntmps20
  go_wp2_with (go_at_call 35; refine HE.out.mono ?_; rintro e w2 ⟨rfl, hks, hb⟩; have HKs := Lib.hid hks; have HB := Lib.hid hb; clear hks hb)
  go_end0
  exact ⟨rfl, HKs.out, HB.out⟩
set_option maxRecDepth 100000 in
theorem wsync_any {w : World} (h : DKS w b B K c syn F UL) (hsyn : syn ≤ 100000) (hU : UL.length ≤ 100000) :
    Calls Try.prog 22 #[.pointer (some ⟨b, 0, none⟩)] w fun e w' => e = .returned (.tuple #[]) ∧ DKS w' b B K c (syn + UL.length) F [] ∧ Below B w w' := by
  have HE := Lib.hid (sync_any h hsyn hU)
  clear h
  go_enter Try.func22, Try.ntmps22
  go_wp2_with (go_at_call 37; refine HE.out.mono ?_; rintro e w2 ⟨rfl, hks, hb⟩; have HKs := Lib.hid hks; have HB := Lib.hid hb; clear hks hb)
  go_end0
  exact ⟨rfl, HKs.out, HB.out⟩
set_option maxRecDepth 100000 in
theorem raw_any {w : World} (h : DKS w b B K c syn F UL) (hsyn : syn ≤ 100000) (hU : UL.length ≤ 100000) :
    Calls Try.prog 28 #[.pointer (some ⟨b, 0, none⟩)] w fun e w' => e = .returned (.int .i64 ((syn : Int) + (UL.length : Int))) ∧ ∃ q, w' = w.drewN q := by
  obtain ⟨mp, D, V, p, cap, hd⟩ := h
  have hVl := hd.len
  have HE := Lib.hid (writes_any b c mp syn p V.length cap w hd.wd (by omega) (by omega))
  rw [← hVl] at HE
  clear hd
  go_enter Try.func28, Try.ntmps28
  go_wp2_with (go_at_call 45; refine HE.out.mono ?_; rintro e w2 ⟨rfl, q, rfl⟩)
  go_ret
  exact ⟨by rw [hVl]; rfl, q, rfl⟩
end
end Go.Proofs.Ytaaiicfclaeapaa

namespace Go.Proofs.Ytaaiicfclaeapaa
open Go.RowKit Go.Mp Go.Rb Go.Lib
structure OutD (w : World) (B : Nat) (Dout D : DataW Value) (G : ByteArray → List UInt8) (left : Lit → Bool) : Prop where
  isMap : Go.Maps.IsMap Dout
  has : ∀ t : ByteArray, Go.Maps.has Dout (keyL t) = (Go.Maps.has D (keyL t) && !left (keyL t))
  body : ∀ t : ByteArray, t.size ≤ maxLen → Go.Maps.has Dout (keyL t) = true → RB B w (valOf Dout t) (G t)
  apart : ∀ s t a n c a' n' c', s ≠ t → valOf Dout s = .slice (some a) n c → valOf Dout t = .slice (some a') n' c' → a.block ≠ a'.block
  low : ∀ t a n c, valOf Dout t = .slice (some a) n c → a.block < w.heap.size
theorem valOf_none {D : DataW Value} {t : ByteArray} (h : Go.Maps.has D (keyL t) = false) : valOf D t = nilS := by
  unfold valOf
  rw [Go.Maps.atKey_of_not_has h]
theorem OutD.start (w : World) (B : Nat) (D : DataW Value) (G : ByteArray → List UInt8) : OutD w B (.map []) D G (Go.Maps.has D) where
  isMap := Go.Maps.isMap_empty
  has := fun t => by
    show false = _
    cases Go.Maps.has D (keyL t) <;> rfl
  body := fun t _ h => by cases h
  apart := fun s t a n c a' n' c' _ h => by cases h
  low := fun t a n c h => by cases h
theorem OutD.below {w w' : World} {B : Nat} {Dout D : DataW Value} {G : ByteArray → List UInt8} {left : Lit → Bool} (h : OutD w B Dout D G left) (hb : Below w.heap.size w w') : OutD w' B Dout D G left where
  isMap := h.isMap
  has := h.has
  body := fun t ht hh => (h.body t ht hh).below hb
  apart := h.apart
  low := fun t a n c e => Nat.lt_of_lt_of_le (h.low t a n c e) hb.size
theorem OutD.same {w w' : World} {B : Nat} {Dout D : DataW Value} {G : ByteArray → List UInt8} {left : Lit → Bool} (h : OutD w B Dout D G left) {r : Nat} (hg : w.grownBy w' (some r)) (hr : ∀ cur e fr, w.heap[r]? ≠ some (.cells cur e fr)) : OutD w' B Dout D G left where
  isMap := h.isMap
  has := h.has
  body := fun t ht hh => RB.same (h.body t ht hh) (fun a n c e => by
    have := h.body t ht hh
    rw [e] at this
    obtain ⟨_, _, _, _, _, cur, fr, hc⟩ := RB.obj this
    exact hg.block _ (Array.getElem?_eq_some_iff.1 hc).1 (fun e2 => hr _ _ _ (by rw [← Option.some.inj e2]; exact hc)))
  apart := h.apart
  low := fun t a n c e => Nat.lt_of_lt_of_le (h.low t a n c e) hg.size
theorem OutD.put {w : World} {B : Nat} {Dout D : DataW Value} {G : ByteArray → List UInt8} {left : Lit → Bool} (h : OutD w B Dout D G left) {x : ByteArray} (hx : Go.Maps.has D (keyL x) = true) {p : Option Addr} {n c : Nat} (hb : RB B w (.slice p n c) (G x)) (hp : ∀ q, p = some q → q.block < w.heap.size ∧ ∀ t a m d, valOf Dout t = .slice (some a) m d → a.block ≠ q.block) :
    OutD w B (Dout.put (keyL x) (.held (.slice p n c))) D G (fun z => left z && !z.sameKey (keyL x)) := by
  have hs : valOf (Dout.put (keyL x) (.held (.slice p n c))) x = .slice p n c := valOf_put_same h.isMap x p n c
  have ho : ∀ t, t ≠ x → valOf (Dout.put (keyL x) (.held (.slice p n c))) t = valOf Dout t := fun t ht => valOf_put_other ht _
  refine ⟨h.isMap.put _ _, fun t => ?_, fun t ht hh => ?_, fun s t a m d a' m' d' hst e1 e2 => ?_, fun t a m d e => ?_⟩
  · by_cases ht : t = x
    · subst ht
      rw [Go.Maps.has_put_same h.isMap (show Go.WideAt.IsKeyLit (keyL t) from trivial), hx]
      have : (keyL t).sameKey (keyL t) = true := by simp [keyL, Lit.sameKey]
      simp [this]
    · rw [Go.Maps.has_put_other (fun e => ht (keyL_inj e)), h.has t]
      have : (keyL t).sameKey (keyL x) = false := Go.Maps.sameKey_ne (fun e => ht (keyL_inj e))
      simp [this]
  · by_cases htx : t = x
    · subst htx; rw [hs]; exact hb
    · rw [ho t htx]
      rw [Go.Maps.has_put_other (fun e => htx (keyL_inj e))] at hh
      exact h.body t ht hh
  · by_cases h1 : s = x
    · subst h1
      rw [hs] at e1
      rw [ho t (fun e => hst e.symm)] at e2
      injection e1 with q1
      exact fun e => (hp a q1).2 t a' m' d' e2 e.symm
    · rw [ho s h1] at e1
      by_cases h2 : t = x
      · subst h2
        rw [hs] at e2
        injection e2 with q1
        exact (hp a' q1).2 s a m d e1
      · rw [ho t h2] at e2
        exact h.apart s t a m d a' m' d' hst e1 e2
  · by_cases ht : t = x
    · subst ht
      rw [hs] at e
      injection e with q1
      exact (hp a q1).1
    · rw [ho t ht] at e
      exact h.low t a m d e
theorem RB.base {B B' : Nat} {w : World} {v : Value} {l : List UInt8} (h : RB B w v l) (hb : B' ≤ B) : RB B' w v l := by
  rcases h with h | ⟨g, cp, e, hB, hc, hr⟩
  · exact .inl h
  · exact .inr ⟨g, cp, e, by omega, hc, hr⟩
theorem OutD.mono {w w' : World} {B B' : Nat} {Dout D : DataW Value} {G : ByteArray → List UInt8} {left : Lit → Bool} (h : OutD w B Dout D G left) (hB : B' ≤ B) (hh : ∀ k, B ≤ k → w'.heap[k]? = w.heap[k]?) (hs : w'.heap.size = w.heap.size) : OutD w' B' Dout D G left where
  isMap := h.isMap
  has := h.has
  body := fun t ht hx => RB.base (RB.same (h.body t ht hx) (fun a n c e => by
    have := h.body t ht hx
    rw [e] at this
    obtain ⟨_, _, hBa, _⟩ := RB.obj this
    exact hh _ hBa)) hB
  apart := h.apart
  low := fun t a n c e => by rw [hs]; exact h.low t a n c e
end Go.Proofs.Ytaaiicfclaeapaa

namespace Go.Proofs.Ytaaiicfclaeapaa
open Go.RowKit Go.Mp Go.Rb Go.Lib
/-- What a file held ahead of the first of these writes to it. -/
def fstV (L : List (ByteArray × Value)) (t : ByteArray) : Option Value := (L.find? fun e => decide (e.1 = t)).map (·.2)
theorem fstV_cons (nm t : ByteArray) (v : Value) (L : List (ByteArray × Value)) : fstV ((nm, v) :: L) t = if t = nm then some v else fstV L t := by
  unfold fstV
  rw [List.find?_cons]
  by_cases h : t = nm
  · subst h; simp
  · have h2 : ¬ nm = t := fun e => h e.symm
    simp [h, h2]
/-- A map of what some writes overwrote. -/
def HeldD (D1 : DataW Value) (L : List (ByteArray × Value)) : Prop := Go.Maps.IsMap D1 ∧ ∀ t : ByteArray, Go.Maps.has D1 (keyL t) = (fstV L t).isSome ∧ ∀ v, fstV L t = some v → valOf D1 t = v
theorem HeldD.nil : HeldD (.map []) [] := ⟨Go.Maps.isMap_empty, fun t => ⟨rfl, fun v h => by cases h⟩⟩
theorem HeldD.put {D1 : DataW Value} {L : List (ByteArray × Value)} (h : HeldD D1 L) (nm : ByteArray) (a : Option Addr) (n c : Nat) : HeldD (D1.put (keyL nm) (.held (.slice a n c))) ((nm, .slice a n c) :: L) := by
  refine ⟨h.1.put _ _, fun t => ?_⟩
  rw [fstV_cons]
  by_cases ht : t = nm
  · subst ht
    rw [if_pos rfl, Go.Maps.has_put_same h.1 (show Go.WideAt.IsKeyLit (keyL t) from trivial)]
    exact ⟨rfl, fun v e => by cases e; exact valOf_put_same h.1 t a n c⟩
  · rw [if_neg ht, Go.Maps.has_put_other (fun e => ht (keyL_inj e))]
    exact ⟨(h.2 t).1, fun v e => by rw [valOf_put_other ht]; exact (h.2 t).2 v e⟩
theorem befCells_get : ∀ (V : List (ByteArray × Value)) (i : Nat) (e : ByteArray × Value) (j : Nat), V[i]? = some e → j < 2 → (V.flatMap befCells)[i * 2 + j]? = (befCells e)[j]?
  | [], i, r, j, h, _ => by simp at h
  | x :: rs, 0, r, j, h, hj => by
    simp at h
    subst h
    rw [List.flatMap_cons, Nat.zero_mul, Nat.zero_add, List.getElem?_append_left (by simp [befCells]; exact hj)]
  | x :: rs, i + 1, r, j, h, hj => by
    rw [List.getElem?_cons_succ] at h
    have ih := befCells_get rs i r j h hj
    rw [List.flatMap_cons, List.getElem?_append_right (by simp [befCells]; omega), ← ih]
    congr 1
    simp [befCells]; omega
theorem UndoAt.at {w : World} {B cap : Nat} {p : Option Addr} {V : List (ByteArray × Value)} (h : UndoAt w B p cap V) {i : Nat} {e : ByteArray × Value} (hi : V[i]? = some e) : ∃ g, p = some ⟨g, 0, none⟩ ∧ w.cell? ⟨g, i * 2, none⟩ = some (.string e.1) ∧ w.cell? ⟨g, i * 2 + 1, none⟩ = some e.2 ∧ V.length ≤ cap ∧ cap ≤ 9223372036854775807 := by
  rcases h.2 with ⟨_, b⟩ | ⟨g, cp, cur, a, hb, hg, hn, hc, hs, ht⟩
  · have := (List.getElem?_eq_some_iff.1 hi).1
    omega
  · injection a with a1 a2 a3
    have cl : ∀ j y, j < 2 → (befCells e)[j]? = some y → w.cell? ⟨g, i * 2 + j, none⟩ = some y := fun j y hj hy => by
      have ha : ({ block := g, off := 0 } : Addr).add (i * 2 + j) = ⟨g, i * 2 + j, none⟩ := by unfold Addr.add; split <;> simp_all
      rw [← ha]
      exact World.ownsRow.cells h (g := g) (by rw [a1]; rfl) (i * 2 + j) y (by rw [befCells_get V i e j hi hj]; exact hy)
    exact ⟨g, a1, cl 0 _ (by omega) rfl, cl 1 _ (by omega) rfl, by omega, by unfold maxLen at hc; omega⟩
theorem cell_of' {W : World} {b : Nat} {arr : Array Value} {e : TypeId} {fr : Nat × Nat} (h : W.heap[b]? = some (.cells arr e fr)) {j : Nat} {v : Value} (hj : arr[j]? = some v) : W.cell? ⟨b, j, none⟩ = some v := by simp [World.cell?, h, hj]
theorem free_of' {W : World} {b : Nat} {arr : Array Value} {e : TypeId} (h : W.heap[b]? = some (.cells arr e (0, 0))) (j : Nat) : W.frozen? ⟨b, j, none⟩ = false := by simp [World.frozen?, h]
theorem grown_of {w w' : World} (h : Below w.heap.size w w') (row : Option Nat) : w.grownBy w' row := ⟨h.os, h.tape, h.output, h.size, fun k hk _ => h.block k hk⟩
theorem string_key {x : ByteArray} {kl : Lit} (h : keyOf Try.prog 9 (.string x) = some kl) : kl = keyL x ∧ x.size ≤ maxLen := by
  obtain ⟨s, e1, e2, e3⟩ := Go.WideMaps.string_of_keyOf Try.underlying9 h
  cases e1
  exact ⟨e2, e3⟩
section
variable {b B K : Nat} {c : Value × Value × Value × Value × Value} {mp : Option Nat} {D : DataW Value} {syn : Nat} {V : List (ByteArray × Value)} {p : Option Addr} {cap : Nat} {F : ByteArray → List UInt8} {UL : List (ByteArray × List UInt8)}
set_option maxHeartbeats 4000000 in
set_option maxRecDepth 100000 in
theorem cut_any {w : World} (h : DI w b B K c mp D syn V p cap F UL) (hmp : mp ≠ none) (n : Int) (hn : -9223372036854775808 ≤ n ∧ n ≤ 9223372036854775807) (hsyn : syn ≤ 100000) (hV : V.length ≤ 100000) (hK : K ≤ 1000000) (G : ByteArray → List UInt8) (N : Nat) (hG : ∀ t, t.size ≤ maxLen → Go.Maps.has D (keyL t) = true → RB B w ((fstV (V.drop (N - syn)) t).getD (valOf D t)) (G t) ∧ (G t).length ≤ 1000000) (hN : min (max n (syn : Int)) ((syn : Int) + (V.length : Int)) = (N : Int)) :
    Calls Try.prog 39 #[.pointer (some ⟨b, 5, none⟩), .int .i64 n] w fun e w' => ∃ mf, ∃ D' : DataW Value, e = .returned (.agg #[.map (some mf), .int .i64 (N : Int), .slice none 0 0]) ∧ MapD w' w.heap.size K (some mf) D' ∧ (∃ left, OutD w' w.heap.size D' D G left ∧ ∀ kl, left kl = false) ∧ Below w.heap.size w w' := by
  have hmm := @run_makeMap Try.prog
  have HD := Lib.hid h
  have HG := Lib.hid hG
  clear h hG
  go_enter Try.func39, Try.ntmps39
  go_upto_region 1 with (fail)
  have HB1 : Hid (Below w.heap.size w (w.alloc (.cells #[.map none, .int .i64 0, .slice none 0 0] 61))) := Lib.hid ((Below.refl _ w).alloc (Nat.le_refl _) _)
  have HZ1 : Hid ((w.alloc (.cells #[.map none, .int .i64 0, .slice none 0 0] 61)).heap[w.heap.size]? = some (.cells #[.map none, .int .i64 0, .slice none 0 0] 61 (0, 0))) := Lib.hid (heap_alloc_new w _)
  have HD1 := Lib.hid (HD.out.below HB1.out)
  have hs1 : (w.alloc (.cells #[.map none, .int .i64 0, .slice none 0 0] 61)).heap.size = w.heap.size + 1 := by show (w.heap.push _).size = _; simp
  have HS1 := Lib.hid hs1
  obtain ⟨bz, hbz⟩ : ∃ q, w.heap.size = q := ⟨_, rfl⟩
  have HBz := Lib.hid hbz
  clear hs1
  rw [hbz] at HZ1 ⊢
  clear hbz
  generalize w.alloc (.cells #[.map none, .int .i64 0, .slice none 0 0] 61) = W1 at *
  have HWr : Hid (Calls Try.prog 45 #[.pointer (some ⟨b, 5, none⟩)] W1.drew fun e w' => e = .returned (.int .i64 ((syn : Int) + (V.length : Int))) ∧ ∃ k, w' = W1.drew.drewN k) := Lib.hid (writes_any b c mp syn p V.length cap W1.drew (HD1.out.below ((Below.refl _ W1).drew)).wd (by omega) (by omega))
  have k6 : ∀ q, (W1.drew.drewN q).cell? ⟨b, 6, none⟩ = some (.int .i64 (syn : Int)) := fun q => HD1.out.wd.c6
  have HK : Hid (W1.drew.cell? ⟨b, 6, none⟩ = some (.int .i64 (syn : Int))) := Lib.hid HD1.out.wd.c6
  obtain ⟨M, hM⟩ : ∃ M, max n (syn : Int) = M := ⟨_, rfl⟩
  have hmx : ∀ ats ty W, (Builtin.max_ ats ty #[.int .i64 n, .int .i64 (syn : Int)]).run Try.prog W = .ok (.int .i64 M) W := fun ats ty W => by
    rw [← hM]
    simp [Builtin.max_, Builtin.max2]
    omega
  have hmn : ∀ ats ty W, (Builtin.min_ ats ty #[.int .i64 M, .int .i64 ((syn : Int) + (V.length : Int))]).run Try.prog W = .ok (.int .i64 (N : Int)) W := fun ats ty W => by
    rw [← hN, hM]
    simp [Builtin.min_, Builtin.min2]
    omega
  have hNs : syn ≤ N := by omega
  have hNle0 : (N : Int) ≤ (syn : Int) + (V.length : Int) := by omega
  clear hM hN
  go_region_held3 (fun w' => w'.cell? ⟨b, 6, none⟩ = some (.int .i64 (syn : Int))) (first | exact HK.out) (first | (go_at_call 45; refine HWr.out.mono ?_; rintro e w2 ⟨rfl, hq⟩; have HK : Hid (w2.cell? ⟨b, 6, none⟩ = some (.int .i64 (syn : Int))) := Lib.hid (by obtain ⟨q, rfl⟩ := hq; exact k6 q); have HQ := Lib.hid hq; clear hq))
  all_goals
    have HB2 : Hid (Below w.heap.size w w2) := Lib.hid (by obtain ⟨q, hq⟩ := HQ.out; rw [hq]; exact bel_drewN ((HB1.out.trans ((Below.refl _ W1).drew.mono HB1.out.size))) q)
    have HD2 := Lib.hid (HD.out.below HB2.out)
    have HZ2 : Hid (w2.heap[bz]? = some (.cells #[.map none, .int .i64 0, .slice none 0 0] 61 (0, 0))) := Lib.hid (by obtain ⟨q, hq⟩ := HQ.out; rw [hq]; exact HZ1.out)
    have k7 := HD2.out.wd.c7
    have k7a : (w2.alloc (.map #[] 0)).cell? ⟨b, 7, none⟩ = some (.slice p V.length cap) := (HD2.out.below ((Below.refl _ w2).alloc (Nat.le_refl _) _)).wd.c7
    have hNle : N ≤ syn + V.length := by omega
    clear hmx hmn
    go_wp2
    go_loopw [6] (fun iv wr => ∃ (k : Nat) (D1 : DataW Value), k ≤ V.length ∧ N ≤ syn + k ∧ iv = .int .i64 ((k : Int) - 1) ∧ wr.ownsMap Try.prog 9 R33 w2.heap.size (V.length - k) D1 ∧ HeldD D1 (V.drop k) ∧ Below w2.heap.size w2 wr) (fun iv _ => (intOf iv + 1).toNat)
    case atStart => exact ⟨V.length, .map [], Nat.le_refl _, hNle, rfl, (World.ownsMap_made w2 _ _ _).mono (Nat.zero_le _), by rw [List.drop_length]; exact HeldD.nil, (Below.refl _ w2).alloc (Nat.le_refl _) _⟩
    case round =>
      obtain ⟨k, D1, hk, hNk, rfl, hom, hheld, hbr⟩ := hrel
      have HOm := Lib.hid hom
      have HHe := Lib.hid hheld
      have HBr := Lib.hid hbr
      have HDr := Lib.hid (HD2.out.below hbr)
      have k6r := HDr.out.wd.c6
      have k7r := HDr.out.wd.c7
      have k5r := HDr.out.wd.c5
      clear hom hheld hbr
      by_cases hgo : N < syn + k
      · obtain ⟨j, rfl⟩ : ∃ j, k = j + 1 := ⟨k - 1, by omega⟩
        have hge : (N : Int) - (syn : Int) ≤ ((j + 1 : Nat) : Int) - 1 := by omega
        obtain ⟨x, hx⟩ : ∃ x, V[j]? = some x := ⟨_, List.getElem?_eq_getElem (by omega)⟩
        obtain ⟨g, hp, q0, q1, hcap1, hcap2⟩ := HDr.out.undo.at hx
        obtain ⟨hxs, _, ax, nx, cx, hx2⟩ := HDr.out.named j x hx
        obtain ⟨xs, xv⟩ := x
        simp only at hx2 hxs q0 q1
        subst hx2
        subst hp
        go_upto_region 6 with (fail)
        have hj0 : (0 : Int) ≤ (j : Int) := by omega
        have hj1 : (j : Int) < (V.length : Int) := by omega
        refine region_tail 17 (by kernel_rfl) (by kernel_rfl) ?_
        simp only [List.take_succ_cons, List.take_zero, List.drop_succ_cons, List.drop_zero]
        repeat still_step
        refine wpStill_nil ?_
        refine wpList_mapUpdate_own _ rfl _ _ _ 58 rfl 9 33 law9 Try.underlying58 R33 w2.heap.size (V.length - (j + 1)) D1 rfl (World.ownsMap.drew HOm.out) (by unfold maxLen; omega) (.string xs) (.slice ax nx cx) (keyL xs) rfl rfl (Go.WideMaps.keyOf_string_mk Try.underlying9 hxs) (.held (.slice ax nx cx)) [] rfl ?_
        intro w6 hom6 hg6
        have HB6 : Hid (Below w2.heap.size w2 w6) := Lib.hid (HBr.out.drew.grown hg6 HBr.out.size (fun k e => by cases e; exact Nat.le_refl _))
        have HOm6 := Lib.hid hom6
        clear hom6 hg6
        go_wp2
        go_roundw
        case rel =>
          refine ⟨j, D1.put (keyL xs) (.held (.slice ax nx cx)), by omega, by omega, by go_num, HOm6.out.mono (by omega), ?_, HB6.out⟩
          have hdrop : V.drop j = (xs, .slice ax nx cx) :: V.drop (j + 1) := by
            rw [List.drop_eq_getElem_cons (by omega)]
            congr 1
            have := (List.getElem?_eq_some_iff.1 hx).2
            exact this
          rw [hdrop]
          exact HHe.out.put xs ax nx cx
        case measure => first | (simp [intOf]; done) | (simp [intOf]; omega)
      · have HNk : Hid (N = syn + k) := Lib.hid (by omega)
        have hlt : ¬ ((N : Int) - (syn : Int) ≤ (k : Int) - 1) := by omega
        go_upto_region 8 with (fail)
        have HBm : Hid (Below wr.heap.size wr (wr.alloc (.map #[] 0))) := Lib.hid ((Below.refl _ wr).alloc (Nat.le_refl _) _)
        have HDm := Lib.hid (HDr.out.below HBm.out)
        have HOh : Hid ((wr.alloc (.map #[] 0)).ownsMap Try.prog 9 R33 w2.heap.size (V.length - k) D1) := Lib.hid (HOm.out.alloc _)
        have HOf : Hid ((wr.alloc (.map #[] 0)).ownsMap (H := Value) Try.prog 9 R33 wr.heap.size 0 (.map [])) := Lib.hid (World.ownsMap_made wr _ _ _)
        have HZm : Hid ((wr.alloc (.map #[] 0)).heap[bz]? = some (.cells #[.map none, .int .i64 0, .slice none 0 0] 61 (0, 0))) := Lib.hid (by
          have h1 := (Array.getElem?_eq_some_iff.1 HZ2.out).1
          have h2 := (HBr.out.block bz h1).trans HZ2.out
          exact (HBm.out.block bz (Array.getElem?_eq_some_iff.1 h2).1).trans h2)
        have hbzh : bz < w2.heap.size := (Array.getElem?_eq_some_iff.1 HZ2.out).1
        have hsm : (wr.alloc (.map #[] 0)).heap.size = wr.heap.size + 1 := by show (wr.heap.push _).size = _; simp
        have hmh : w2.heap.size < wr.heap.size := HOm.out.lt
        have hbw : Below w.heap.size w (wr.alloc (.map #[] 0)) := (HB2.out.trans (HBr.out.mono HB2.out.size)).alloc (by have := HBr.out.size; have := HB2.out.size; omega) _
        have HBw := Lib.hid hbw
        have HSm := Lib.hid hsm
        obtain ⟨mf, hmf⟩ : ∃ q, wr.heap.size = q := ⟨_, rfl⟩
        obtain ⟨mh, hmhq⟩ : ∃ q, w2.heap.size = q := ⟨_, rfl⟩
        have k5m := HDm.out.wd.c5
        have hww : w.heap.size ≤ mh := by rw [← hmhq]; exact HB2.out.size
        rw [hmf] at HOf hsm hmh ⊢
        rw [hmhq] at HOh hmh hbzh ⊢
        clear hbw k6r k7r k5r hmf hmhq hlt HOm HBm
        generalize wr.alloc (.map #[] 0) = wm at *
        have HG2 : Hid (∀ t, t.size ≤ maxLen → Go.Maps.has D (keyL t) = true → RB B w ((fstV (V.drop k) t).getD (valOf D t)) (G t) ∧ (G t).length ≤ 1000000) := Lib.hid ((show N - syn = k by have := HNk.out; omega) ▸ HG.out)
        cases mp with
        | none => exact absurd rfl hmp
        | some m =>
          obtain ⟨N0, hBm, hom, hN0⟩ : ∃ N0, B ≤ m ∧ wm.ownsMap Try.prog 9 R33 m N0 D ∧ N0 ≤ K := by
            rcases HDm.out.map with ⟨e, _⟩ | ⟨m', N0, e, h1, h2, h3⟩
            · cases e
            · cases e; exact ⟨N0, h1, h2, h3⟩
          have hml := HD.out.map.lt
          have HOD := Lib.hid hom
          clear hom
          go_wp2_with (first | (at_range; refine wpList_range_own _ rfl _ 58 rfl 9 33 law9 Try.underlying58 R33 m N0 D rfl HOD.out ?_; intro w0 hrg0 hg0 hs0) | go_in)
          go_frame
          rw [hsm] at hrg0 hs0 ⊢
          have HG0 := Lib.hid hg0
          go_loopw [8] (fun _ wr => ∃ (left : Lit → Bool) (cnt : Nat) (Dout : DataW Value), wr.ranges Try.prog 9 R33 m (mf + 1) N0 D left cnt ∧ cnt ≤ N0 ∧ wr.ownsMap Try.prog 9 R33 mf (N0 - cnt) Dout ∧ wr.ownsMap Try.prog 9 R33 mh (V.length - k) D1 ∧ OutD wr (mf + 2) Dout D G left ∧ (∀ j, j < mf → wr.heap[j]? = wm.heap[j]?) ∧ Below w.heap.size w wr ∧ mf + 2 ≤ wr.heap.size) (fun _ wr => wr.rangeLeft m (mf + 1))
          case atStart =>
            exact ⟨_, _, .map [], hrg0, HOD.out.size_le, (HOf.out.kept hg0 (by simp)).mono (Nat.zero_le _), HOh.out.kept hg0 (by simp), OutD.start _ _ _ _, fun j hj => hg0.block j (by omega) (by simp), HBw.out.grown hg0 HBw.out.size (fun j hj => by cases hj), by omega⟩
          case round =>
            obtain ⟨left, cnt, Dout, hrg, hcs, hout, hhe, hO, hkeep, hbw, hsz⟩ := hrel
            go_wp2_with (first
              | (at_next; refine wpList_next_ranges _ rfl _ rfl 9 law9 R33 Value.string (fun (q : Option Addr × Nat × Nat) => Value.slice q.1 q.2.1 q.2.2) (fun key kl hkey => by obtain ⟨s, e, _⟩ := Go.WideMaps.string_of_keyOf Try.underlying9 hkey; exact ⟨s, e⟩) (fun v y hv => by obtain ⟨a, n, c, e, _⟩ := R33_inv hv; exact ⟨(a, n, c), e⟩) m (mf + 1) N0 D left cnt rfl hrg ?_ ?_)
              | go_in)
            · intro hc0 hl0
              have HZr : wr.heap[bz]? = some (.cells #[.map none, .int .i64 0, .slice none 0 0] 61 (0, 0)) := (hkeep bz (by omega)).trans HZm.out
              have z0 := cell_of' HZr (j := 0) rfl
              have z1 := cell_of' HZr (j := 1) rfl
              have z2 := cell_of' HZr (j := 2) rfl
              have y0 := free_of' HZr 0
              have y1 := free_of' HZr 1
              have y2 := free_of' HZr 2
              have HR := Lib.hid (show wr.ownsMap Try.prog 9 R33 mf (N0 - cnt) Dout ∧ OutD wr (mf + 2) Dout D G left ∧ Below w.heap.size w wr ∧ (∀ kl, left kl = false) from ⟨hout, hO, hbw, hl0⟩)
              have HZr2 := Lib.hid HZr
              clear hout hO hbw hl0 hhe hrg hkeep HZr
              go_wp2
              have hrow : (((wr.setCell ⟨bz, 0, none⟩ (.map (some mf))).setCell ⟨bz, 1, none⟩ (.int .i64 (N : Int))).setCell ⟨bz, 2, none⟩ (.slice none 0 0)).heap[bz]? = some (.cells #[.map (some mf), .int .i64 (N : Int), .slice none 0 0] 61 (0, 0)) := heap_setCell_eq _ _ _ _ _ _ _ (heap_setCell_eq _ _ _ _ _ _ _ (heap_setCell_eq _ _ _ _ _ _ _ HZr2.out))
              have hoth : ∀ j, j ≠ bz → (((wr.setCell ⟨bz, 0, none⟩ (.map (some mf))).setCell ⟨bz, 1, none⟩ (.int .i64 (N : Int))).setCell ⟨bz, 2, none⟩ (.slice none 0 0)).heap[j]? = wr.heap[j]? := fun j hj => (heap_setCell_ne _ _ _ _ _ hj).trans ((heap_setCell_ne _ _ _ _ _ hj).trans (heap_setCell_ne _ _ _ _ _ hj))
              have hsze : (((wr.setCell ⟨bz, 0, none⟩ (.map (some mf))).setCell ⟨bz, 1, none⟩ (.int .i64 (N : Int))).setCell ⟨bz, 2, none⟩ (.slice none 0 0)).heap.size = wr.heap.size := by rw [size_setCell', size_setCell', size_setCell']
              obtain ⟨r1, r2, r3, r4⟩ := HR.out
              refine bodyPost_ret (results_cell_row rfl _ _ _ _ _ _ _ rfl hrow Try.underlying61 rfl (by kernel_rfl)) rfl ?_
              have hbzw := HBz.out
              refine ⟨mf, Dout, rfl, .inr ⟨mf, N0 - cnt, rfl, by omega, ?_, by omega⟩, ⟨left, r2.mono (by omega) (fun j hj => hoth j (by omega)) hsze, r4⟩, ⟨r3.os, r3.tape, r3.output, by rw [hsze]; exact r3.size, fun j hj => (hoth j (by omega)).trans (r3.block j hj)⟩⟩
              obtain ⟨es, cl, x1, x2⟩ := r1
              exact ⟨es, cl, (hoth mf (by omega)).trans x1, x2⟩
            · intro x qa qn qc kl y1 y2 w1 cnt1 hkey hlx hv hat hrg1 hlt hg1 hs1 hen
              obtain ⟨rfl, hxs⟩ := string_key hkey
              cases hv
              have hxv : valOf D x = .slice qa qn qc := by unfold valOf; rw [hat]
              have hxD : Go.Maps.has D (keyL x) = true := Go.Maps.has_true_of_atKey hat
              have hh1 := hhe.kept hg1 (fun e => by have := Option.some.inj e; omega)
              have ho1 := hout.kept hg1 (fun e => by have := Option.some.inj e; omega)
              obtain ⟨vh, ps, hlk2, hvh⟩ := hh1.look_ok law9 Try.underlying58 (zero33 w1) (zd := .held nilS) (zp := []) rfl (key := .string x) (kl := keyL x) (Go.WideMaps.keyOf_string_mk Try.underlying9 hxs)
              obtain ⟨ha, hn2, hc2, rfl, hvh2⟩ := R33_inv hvh
              have hvD1 : valOf D1 x = .slice ha hn2 hc2 := by
                unfold valOf
                rw [(Prod.mk.inj hvh2).1]
              have hiter : ∀ cur e fr, wr.heap[mf + 1]? ≠ some (.cells cur e fr) := by
                obtain ⟨_, _, _, _, _, _, _, _, _, hr, _⟩ := hrg
                intro cur e fr hc
                rw [hr] at hc
                cases hc
              have hO1 := hO.same hg1 hiter
              have hb1 : Below w.heap.size w w1 := hbw.grown hg1 hbw.size (fun j e => by cases e; omega)
              have hkeep1 : ∀ j, j < mf → w1.heap[j]? = wm.heap[j]? := fun j hj => (hg1.block j (by omega) (fun e => by have := Option.some.inj e; omega)).trans (hkeep j hj)
              have hs1' : mf + 2 ≤ w1.heap.size := by omega
              obtain ⟨hbody0, hGl⟩ := HG2.out x hxs hxD
              have hhas := (HHe.out.2 x).1
              have hval := (HHe.out.2 x).2
              cases hf : fstV (V.drop k) x with
              | none =>
                rw [hf] at hbody0 hhas
                simp only [Option.getD_none, Option.isSome_none] at hbody0 hhas
                rw [hxv] at hbody0
                rw [hhas] at hlk2
                have hbody := hbody0.below hb1
                clear hbody0 hval hf hhas
                have HCl := Lib.hid (clone_rb hbody hGl)
                have HX := Lib.hid (show OutD w1 (mf + 2) Dout D G left ∧ w1.ranges Try.prog 9 R33 m (mf + 1) N0 D (fun z => left z && !z.sameKey (keyL x)) cnt1 ∧ w1.ownsMap Try.prog 9 R33 mh (V.length - k) D1 ∧ Below w.heap.size w w1 from ⟨hO1, hrg1, hh1, hb1⟩)
                have HOo := Lib.hid ho1
                have HKp := Lib.hid hkeep1
                clear hO1 hrg1 hh1 hb1 ho1 hkeep1 hbody hhe hout hO hkeep hbw hat hkey hvh hvh2
                go_wp2_with (first
                  | (go_at_call 31; refine HCl.out.mono ?_; rintro e w3 ⟨p3, c3, rfl, hr3, hb3⟩; have HR3 := Lib.hid hr3; have HB3 := Lib.hid hb3; have HOo3 := Lib.hid (HOo.out.kept (grown_of hb3 none) (by simp)); clear hr3 hb3)
                  | (at_mapUpdate; refine wpList_mapUpdate_own _ rfl _ _ _ 58 rfl 9 33 law9 Try.underlying58 R33 mf (N0 - cnt) Dout rfl HOo3.out (by unfold maxLen; omega) (.string x) (.slice p3 (G x).length c3) (keyL x) rfl rfl (Go.WideMaps.keyOf_string_mk Try.underlying9 hxs) (.held (.slice p3 (G x).length c3)) [] rfl ?_; intro w5 hom5 hg5; go_frame)
                  | go_in)
                have hb3 := HB3.out
                have hrg5 := (HX.out.2.1.kept (grown_of hb3 none) (by simp) (by simp)).kept hg5 (fun e => by have := Option.some.inj e; omega) (fun e => by have := Option.some.inj e; omega)
                go_roundw
                case rel =>
                  obtain ⟨hO1, hrg1, hh1, hb1⟩ := HX.out
                  have hmfw : mf < w3.heap.size := HOo3.out.lt
                  refine ⟨_, cnt1, _, hrg5, by omega, hom5.mono (by omega), (hh1.kept (grown_of hb3 none) (by simp)).kept hg5 (fun e => by have := Option.some.inj e; omega), ?_, fun j hj => (hg5.block j (by omega) (fun e => by have := Option.some.inj e; omega)).trans ((hb3.block j (by omega)).trans (HKp.out j hj)), (hb1.trans (hb3.mono hb1.size)).grown hg5 (by have := hb1.size; have := hb3.size; omega) (fun j e => by cases e; omega), by have := hb3.size; have := hg5.size; omega⟩
                  refine ((hO1.below hb3).put hxD (RB.base HR3.out (by omega)) (fun q e => ?_)).same hg5 (fun cur e fr hc => ?_)
                  · subst e
                    obtain ⟨_, _, hBq, _, _, cur, fr, hcq⟩ := RB.obj HR3.out
                    exact ⟨(Array.getElem?_eq_some_iff.1 hcq).1, fun t a m' d e2 e3 => by have := hO1.low t a m' d e2; omega⟩
                  · obtain ⟨es, cl, x1, _⟩ := HOo3.out
                    rw [x1] at hc
                    cases hc
                case measure => rw [hrg5.left_eq, hrg.left_eq]; exact hlt
              | some v =>
                rw [hf] at hbody0 hhas
                have hv1 := hval v hf
                rw [hvD1] at hv1
                subst hv1
                simp only [Option.getD_some, Option.isSome_some] at hbody0 hhas
                rw [hhas] at hlk2
                have hbody := hbody0.below hb1
                clear hbody0 hval hf hhas
                have HCl := Lib.hid (clone_rb hbody hGl)
                have HX := Lib.hid (show OutD w1 (mf + 2) Dout D G left ∧ w1.ranges Try.prog 9 R33 m (mf + 1) N0 D (fun z => left z && !z.sameKey (keyL x)) cnt1 ∧ w1.ownsMap Try.prog 9 R33 mh (V.length - k) D1 ∧ Below w.heap.size w w1 from ⟨hO1, hrg1, hh1, hb1⟩)
                have HOo := Lib.hid ho1
                have HKp := Lib.hid hkeep1
                clear hO1 hrg1 hh1 hb1 ho1 hkeep1 hbody hhe hout hO hkeep hbw hat hkey hvh hvh2
                go_wp2_with (first
                  | (go_at_call 31; refine HCl.out.mono ?_; rintro e w3 ⟨p3, c3, rfl, hr3, hb3⟩; have HR3 := Lib.hid hr3; have HB3 := Lib.hid hb3; have HOo3 := Lib.hid (HOo.out.kept (grown_of hb3 none) (by simp)); clear hr3 hb3)
                  | (at_mapUpdate; refine wpList_mapUpdate_own _ rfl _ _ _ 58 rfl 9 33 law9 Try.underlying58 R33 mf (N0 - cnt) Dout rfl HOo3.out (by unfold maxLen; omega) (.string x) (.slice p3 (G x).length c3) (keyL x) rfl rfl (Go.WideMaps.keyOf_string_mk Try.underlying9 hxs) (.held (.slice p3 (G x).length c3)) [] rfl ?_; intro w5 hom5 hg5; go_frame)
                  | go_in)
                have hb3 := HB3.out
                have hrg5 := (HX.out.2.1.kept (grown_of hb3 none) (by simp) (by simp)).kept hg5 (fun e => by have := Option.some.inj e; omega) (fun e => by have := Option.some.inj e; omega)
                go_roundw
                case rel =>
                  obtain ⟨hO1, hrg1, hh1, hb1⟩ := HX.out
                  have hmfw : mf < w3.heap.size := HOo3.out.lt
                  refine ⟨_, cnt1, _, hrg5, by omega, hom5.mono (by omega), (hh1.kept (grown_of hb3 none) (by simp)).kept hg5 (fun e => by have := Option.some.inj e; omega), ?_, fun j hj => (hg5.block j (by omega) (fun e => by have := Option.some.inj e; omega)).trans ((hb3.block j (by omega)).trans (HKp.out j hj)), (hb1.trans (hb3.mono hb1.size)).grown hg5 (by have := hb1.size; have := hb3.size; omega) (fun j e => by cases e; omega), by have := hb3.size; have := hg5.size; omega⟩
                  refine ((hO1.below hb3).put hxD (RB.base HR3.out (by omega)) (fun q e => ?_)).same hg5 (fun cur e fr hc => ?_)
                  · subst e
                    obtain ⟨_, _, hBq, _, _, cur, fr, hcq⟩ := RB.obj HR3.out
                    exact ⟨(Array.getElem?_eq_some_iff.1 hcq).1, fun t a m' d e2 e3 => by have := hO1.low t a m' d e2; omega⟩
                  · obtain ⟨es, cl, x1, _⟩ := HOo3.out
                    rw [x1] at hc
                    cases hc
                case measure => rw [hrg5.left_eq, hrg.left_eq]; exact hlt
end
end Go.Proofs.Ytaaiicfclaeapaa

namespace Go.Proofs.Ytaaiicfclaeapaa
open Go.RowKit Go.Mp Go.Rb Go.Lib
section
variable {b B K : Nat} {c : Value × Value × Value × Value × Value} {mp : Option Nat} {D : DataW Value} {syn : Nat} {V : List (ByteArray × Value)} {p : Option Addr} {cap : Nat} {F : ByteArray → List UInt8} {UL : List (ByteArray × List UInt8)}
set_option maxHeartbeats 4000000 in
set_option maxRecDepth 100000 in
theorem cut_none {w : World} (h : DI w b B K c none D syn V p cap F UL) (n : Int) (hn : -9223372036854775808 ≤ n ∧ n ≤ 9223372036854775807) (hsyn : syn ≤ 100000) (hV : V.length ≤ 100000) (hK : K ≤ 1000000) (G : ByteArray → List UInt8) (N : Nat) (hG : ∀ t, t.size ≤ maxLen → Go.Maps.has D (keyL t) = true → RB B w ((fstV (V.drop (N - syn)) t).getD (valOf D t)) (G t) ∧ (G t).length ≤ 1000000) (hN : min (max n (syn : Int)) ((syn : Int) + (V.length : Int)) = (N : Int)) :
    Calls Try.prog 39 #[.pointer (some ⟨b, 5, none⟩), .int .i64 n] w fun e w' => ∃ mf, ∃ D' : DataW Value, e = .returned (.agg #[.map (some mf), .int .i64 (N : Int), .slice none 0 0]) ∧ MapD w' w.heap.size K (some mf) D' ∧ (∃ left, OutD w' w.heap.size D' D G left ∧ ∀ kl, left kl = false) ∧ Below w.heap.size w w' := by
  have hmm := @run_makeMap Try.prog
  have HD := Lib.hid h
  have HG := Lib.hid hG
  clear h hG
  go_enter Try.func39, Try.ntmps39
  go_upto_region 1 with (fail)
  have HB1 : Hid (Below w.heap.size w (w.alloc (.cells #[.map none, .int .i64 0, .slice none 0 0] 61))) := Lib.hid ((Below.refl _ w).alloc (Nat.le_refl _) _)
  have HZ1 : Hid ((w.alloc (.cells #[.map none, .int .i64 0, .slice none 0 0] 61)).heap[w.heap.size]? = some (.cells #[.map none, .int .i64 0, .slice none 0 0] 61 (0, 0))) := Lib.hid (heap_alloc_new w _)
  have HD1 := Lib.hid (HD.out.below HB1.out)
  have hs1 : (w.alloc (.cells #[.map none, .int .i64 0, .slice none 0 0] 61)).heap.size = w.heap.size + 1 := by show (w.heap.push _).size = _; simp
  have HS1 := Lib.hid hs1
  obtain ⟨bz, hbz⟩ : ∃ q, w.heap.size = q := ⟨_, rfl⟩
  have HBz := Lib.hid hbz
  clear hs1
  rw [hbz] at HZ1 ⊢
  clear hbz
  generalize w.alloc (.cells #[.map none, .int .i64 0, .slice none 0 0] 61) = W1 at *
  have HWr : Hid (Calls Try.prog 45 #[.pointer (some ⟨b, 5, none⟩)] W1.drew fun e w' => e = .returned (.int .i64 ((syn : Int) + (V.length : Int))) ∧ ∃ k, w' = W1.drew.drewN k) := Lib.hid (writes_any b c none syn p V.length cap W1.drew (HD1.out.below ((Below.refl _ W1).drew)).wd (by omega) (by omega))
  have k6 : ∀ q, (W1.drew.drewN q).cell? ⟨b, 6, none⟩ = some (.int .i64 (syn : Int)) := fun q => HD1.out.wd.c6
  have HK : Hid (W1.drew.cell? ⟨b, 6, none⟩ = some (.int .i64 (syn : Int))) := Lib.hid HD1.out.wd.c6
  obtain ⟨M, hM⟩ : ∃ M, max n (syn : Int) = M := ⟨_, rfl⟩
  have hmx : ∀ ats ty W, (Builtin.max_ ats ty #[.int .i64 n, .int .i64 (syn : Int)]).run Try.prog W = .ok (.int .i64 M) W := fun ats ty W => by
    rw [← hM]
    simp [Builtin.max_, Builtin.max2]
    omega
  have hmn : ∀ ats ty W, (Builtin.min_ ats ty #[.int .i64 M, .int .i64 ((syn : Int) + (V.length : Int))]).run Try.prog W = .ok (.int .i64 (N : Int)) W := fun ats ty W => by
    rw [← hN, hM]
    simp [Builtin.min_, Builtin.min2]
    omega
  have hNs : syn ≤ N := by omega
  have hNle0 : (N : Int) ≤ (syn : Int) + (V.length : Int) := by omega
  clear hM hN
  go_region_held3 (fun w' => w'.cell? ⟨b, 6, none⟩ = some (.int .i64 (syn : Int))) (first | exact HK.out) (first | (go_at_call 45; refine HWr.out.mono ?_; rintro e w2 ⟨rfl, hq⟩; have HK : Hid (w2.cell? ⟨b, 6, none⟩ = some (.int .i64 (syn : Int))) := Lib.hid (by obtain ⟨q, rfl⟩ := hq; exact k6 q); have HQ := Lib.hid hq; clear hq))
  all_goals
    have HB2 : Hid (Below w.heap.size w w2) := Lib.hid (by obtain ⟨q, hq⟩ := HQ.out; rw [hq]; exact bel_drewN ((HB1.out.trans ((Below.refl _ W1).drew.mono HB1.out.size))) q)
    have HD2 := Lib.hid (HD.out.below HB2.out)
    have HZ2 : Hid (w2.heap[bz]? = some (.cells #[.map none, .int .i64 0, .slice none 0 0] 61 (0, 0))) := Lib.hid (by obtain ⟨q, hq⟩ := HQ.out; rw [hq]; exact HZ1.out)
    have k7 := HD2.out.wd.c7
    have k7a : (w2.alloc (.map #[] 0)).cell? ⟨b, 7, none⟩ = some (.slice p V.length cap) := (HD2.out.below ((Below.refl _ w2).alloc (Nat.le_refl _) _)).wd.c7
    have hNle : N ≤ syn + V.length := by omega
    clear hmx hmn
    go_wp2
    go_loopw [6] (fun iv wr => ∃ (k : Nat) (D1 : DataW Value), k ≤ V.length ∧ N ≤ syn + k ∧ iv = .int .i64 ((k : Int) - 1) ∧ wr.ownsMap Try.prog 9 R33 w2.heap.size (V.length - k) D1 ∧ HeldD D1 (V.drop k) ∧ Below w2.heap.size w2 wr) (fun iv _ => (intOf iv + 1).toNat)
    case atStart => exact ⟨V.length, .map [], Nat.le_refl _, hNle, rfl, (World.ownsMap_made w2 _ _ _).mono (Nat.zero_le _), by rw [List.drop_length]; exact HeldD.nil, (Below.refl _ w2).alloc (Nat.le_refl _) _⟩
    case round =>
      obtain ⟨k, D1, hk, hNk, rfl, hom, hheld, hbr⟩ := hrel
      have HOm := Lib.hid hom
      have HHe := Lib.hid hheld
      have HBr := Lib.hid hbr
      have HDr := Lib.hid (HD2.out.below hbr)
      have k6r := HDr.out.wd.c6
      have k7r := HDr.out.wd.c7
      have k5r := HDr.out.wd.c5
      clear hom hheld hbr
      by_cases hgo : N < syn + k
      · obtain ⟨j, rfl⟩ : ∃ j, k = j + 1 := ⟨k - 1, by omega⟩
        have hge : (N : Int) - (syn : Int) ≤ ((j + 1 : Nat) : Int) - 1 := by omega
        obtain ⟨x, hx⟩ : ∃ x, V[j]? = some x := ⟨_, List.getElem?_eq_getElem (by omega)⟩
        obtain ⟨g, hp, q0, q1, hcap1, hcap2⟩ := HDr.out.undo.at hx
        obtain ⟨hxs, _, ax, nx, cx, hx2⟩ := HDr.out.named j x hx
        obtain ⟨xs, xv⟩ := x
        simp only at hx2 hxs q0 q1
        subst hx2
        subst hp
        go_upto_region 6 with (fail)
        have hj0 : (0 : Int) ≤ (j : Int) := by omega
        have hj1 : (j : Int) < (V.length : Int) := by omega
        refine region_tail 17 (by kernel_rfl) (by kernel_rfl) ?_
        simp only [List.take_succ_cons, List.take_zero, List.drop_succ_cons, List.drop_zero]
        repeat still_step
        refine wpStill_nil ?_
        refine wpList_mapUpdate_own _ rfl _ _ _ 58 rfl 9 33 law9 Try.underlying58 R33 w2.heap.size (V.length - (j + 1)) D1 rfl (World.ownsMap.drew HOm.out) (by unfold maxLen; omega) (.string xs) (.slice ax nx cx) (keyL xs) rfl rfl (Go.WideMaps.keyOf_string_mk Try.underlying9 hxs) (.held (.slice ax nx cx)) [] rfl ?_
        intro w6 hom6 hg6
        have HB6 : Hid (Below w2.heap.size w2 w6) := Lib.hid (HBr.out.drew.grown hg6 HBr.out.size (fun k e => by cases e; exact Nat.le_refl _))
        have HOm6 := Lib.hid hom6
        clear hom6 hg6
        go_wp2
        go_roundw
        case rel =>
          refine ⟨j, D1.put (keyL xs) (.held (.slice ax nx cx)), by omega, by omega, by go_num, HOm6.out.mono (by omega), ?_, HB6.out⟩
          have hdrop : V.drop j = (xs, .slice ax nx cx) :: V.drop (j + 1) := by
            rw [List.drop_eq_getElem_cons (by omega)]
            congr 1
            have := (List.getElem?_eq_some_iff.1 hx).2
            exact this
          rw [hdrop]
          exact HHe.out.put xs ax nx cx
        case measure => first | (simp [intOf]; done) | (simp [intOf]; omega)
      · have HNk : Hid (N = syn + k) := Lib.hid (by omega)
        have hlt : ¬ ((N : Int) - (syn : Int) ≤ (k : Int) - 1) := by omega
        go_upto_region 8 with (fail)
        have HBm : Hid (Below wr.heap.size wr (wr.alloc (.map #[] 0))) := Lib.hid ((Below.refl _ wr).alloc (Nat.le_refl _) _)
        have HDm := Lib.hid (HDr.out.below HBm.out)
        have HOh : Hid ((wr.alloc (.map #[] 0)).ownsMap Try.prog 9 R33 w2.heap.size (V.length - k) D1) := Lib.hid (HOm.out.alloc _)
        have HOf : Hid ((wr.alloc (.map #[] 0)).ownsMap (H := Value) Try.prog 9 R33 wr.heap.size 0 (.map [])) := Lib.hid (World.ownsMap_made wr _ _ _)
        have HZm : Hid ((wr.alloc (.map #[] 0)).heap[bz]? = some (.cells #[.map none, .int .i64 0, .slice none 0 0] 61 (0, 0))) := Lib.hid (by
          have h1 := (Array.getElem?_eq_some_iff.1 HZ2.out).1
          have h2 := (HBr.out.block bz h1).trans HZ2.out
          exact (HBm.out.block bz (Array.getElem?_eq_some_iff.1 h2).1).trans h2)
        have hbzh : bz < w2.heap.size := (Array.getElem?_eq_some_iff.1 HZ2.out).1
        have hsm : (wr.alloc (.map #[] 0)).heap.size = wr.heap.size + 1 := by show (wr.heap.push _).size = _; simp
        have hmh : w2.heap.size < wr.heap.size := HOm.out.lt
        have hbw : Below w.heap.size w (wr.alloc (.map #[] 0)) := (HB2.out.trans (HBr.out.mono HB2.out.size)).alloc (by have := HBr.out.size; have := HB2.out.size; omega) _
        have HBw := Lib.hid hbw
        have HSm := Lib.hid hsm
        obtain ⟨mf, hmf⟩ : ∃ q, wr.heap.size = q := ⟨_, rfl⟩
        obtain ⟨mh, hmhq⟩ : ∃ q, w2.heap.size = q := ⟨_, rfl⟩
        have k5m := HDm.out.wd.c5
        have hww : w.heap.size ≤ mh := by rw [← hmhq]; exact HB2.out.size
        rw [hmf] at HOf hsm hmh ⊢
        rw [hmhq] at HOh hmh hbzh ⊢
        clear hbw k6r k7r k5r hmf hmhq hlt HOm HBm
        generalize wr.alloc (.map #[] 0) = wm at *
        have HG2 : Hid (∀ t, t.size ≤ maxLen → Go.Maps.has D (keyL t) = true → RB B w ((fstV (V.drop k) t).getD (valOf D t)) (G t) ∧ (G t).length ≤ 1000000) := Lib.hid ((show N - syn = k by have := HNk.out; omega) ▸ HG.out)
        have hD0 : D = .map [] := by
          rcases HDm.out.map with ⟨_, e⟩ | ⟨m', N0, e, _⟩
          · exact e
          · cases e
        have hrg0 := run_range_nilMap (P := Try.prog) wm 58 9 33 Try.underlying58
        have hnx : ∀ ty, (Instr.next (.pointer (some ⟨wm.heap.size, 0, none⟩)) false ty).run Try.prog (wm.alloc (.mapIter none 0 #[] 0)) = _ := fun ty => run_next_nilMap wm ty 0 0 #[]
        have HZr : (wm.alloc (.mapIter none 0 #[] 0)).heap[bz]? = some (.cells #[.map none, .int .i64 0, .slice none 0 0] 61 (0, 0)) := (heap_alloc_lt _ _ _ (Array.getElem?_eq_some_iff.1 HZm.out).1).trans HZm.out
        have HBi := Lib.hid (HBw.out.alloc HBw.out.size (.mapIter none 0 #[] 0))
        have HOi := Lib.hid (HOf.out.alloc (.mapIter none 0 #[] 0))
        obtain ⟨wr2, hwr2⟩ : ∃ q, wm.alloc (.mapIter none 0 #[] 0) = q := ⟨_, rfl⟩
        have hsr : wr2.heap.size = mf + 2 := by rw [← hwr2]; show (wm.heap.push _).size = _; simp [hsm]
        rw [hwr2] at hrg0 hnx HZr HBi HOi
        rw [hsm] at hrg0 hnx
        have HSr := Lib.hid hsr
        clear hwr2
        have z0 := cell_of' HZr (j := 0) rfl
        have z1 := cell_of' HZr (j := 1) rfl
        have z2 := cell_of' HZr (j := 2) rfl
        have y0 := free_of' HZr 0
        have y1 := free_of' HZr 1
        have y2 := free_of' HZr 2
        have HZr2 := Lib.hid HZr
        clear HZr
        go_wp2
        refine wp_loop_rounds 1 ?_
        rw [rounds_succ]
        go_wp2
        have hrow : (((wr2.setCell ⟨bz, 0, none⟩ (.map (some mf))).setCell ⟨bz, 1, none⟩ (.int .i64 (N : Int))).setCell ⟨bz, 2, none⟩ (.slice none 0 0)).heap[bz]? = some (.cells #[.map (some mf), .int .i64 (N : Int), .slice none 0 0] 61 (0, 0)) := heap_setCell_eq _ _ _ _ _ _ _ (heap_setCell_eq _ _ _ _ _ _ _ (heap_setCell_eq _ _ _ _ _ _ _ HZr2.out))
        have hoth : ∀ j, j ≠ bz → (((wr2.setCell ⟨bz, 0, none⟩ (.map (some mf))).setCell ⟨bz, 1, none⟩ (.int .i64 (N : Int))).setCell ⟨bz, 2, none⟩ (.slice none 0 0)).heap[j]? = wr2.heap[j]? := fun j hj => (heap_setCell_ne _ _ _ _ _ hj).trans ((heap_setCell_ne _ _ _ _ _ hj).trans (heap_setCell_ne _ _ _ _ _ hj))
        have hsze : (((wr2.setCell ⟨bz, 0, none⟩ (.map (some mf))).setCell ⟨bz, 1, none⟩ (.int .i64 (N : Int))).setCell ⟨bz, 2, none⟩ (.slice none 0 0)).heap.size = wr2.heap.size := by rw [size_setCell', size_setCell', size_setCell']
        refine bodyPost_ret (results_cell_row rfl _ _ _ _ _ _ _ rfl hrow Try.underlying61 rfl (by kernel_rfl)) rfl ?_
        have hbzw := HBz.out
        have r3 := HBi.out
        subst hD0
        refine ⟨mf, .map [], rfl, .inr ⟨mf, 0, rfl, by omega, ?_, by omega⟩, ⟨_, (OutD.start wr2 (mf + 2) (.map []) G).mono (by omega) (fun j hj => hoth j (by omega)) hsze, fun kl => rfl⟩, ⟨r3.os, r3.tape, r3.output, by rw [hsze]; exact r3.size, fun j hj => (hoth j (by omega)).trans (r3.block j hj)⟩⟩
        obtain ⟨es, cl, x1, x2⟩ := HOi.out
        exact ⟨es, cl, (hoth mf (by omega)).trans x1, x2⟩
end
end Go.Proofs.Ytaaiicfclaeapaa

namespace Go.Proofs.Ytaaiicfclaeapaa
open Go.RowKit Go.Mp Go.Rb Go.Lib
theorem mclone_nil (w : World) : Calls Try.prog 38 #[.map none] w fun e w' => e = .returned (.map none) ∧ w = w' := by
  have e79 := eql79_none
  go_enter Try.func38, Try.ntmps38
  go_wp2
  go_ret
  exact ⟨rfl, rfl⟩
section
variable {b B K : Nat} {c : Value × Value × Value × Value × Value} {mp : Option Nat} {D : DataW Value} {syn : Nat} {V : List (ByteArray × Value)} {p : Option Addr} {cap : Nat} {F : ByteArray → List UInt8} {UL : List (ByteArray × List UInt8)}
theorem cut_both {w : World} (h : DI w b B K c mp D syn V p cap F UL) (n : Int) (hn : -9223372036854775808 ≤ n ∧ n ≤ 9223372036854775807) (hsyn : syn ≤ 100000) (hV : V.length ≤ 100000) (hK : K ≤ 1000000) (G : ByteArray → List UInt8) (N : Nat) (hG : ∀ t, t.size ≤ maxLen → Go.Maps.has D (keyL t) = true → RB B w ((fstV (V.drop (N - syn)) t).getD (valOf D t)) (G t) ∧ (G t).length ≤ 1000000) (hN : min (max n (syn : Int)) ((syn : Int) + (V.length : Int)) = (N : Int)) :
    Calls Try.prog 39 #[.pointer (some ⟨b, 5, none⟩), .int .i64 n] w fun e w' => ∃ mf, ∃ D' : DataW Value, e = .returned (.agg #[.map (some mf), .int .i64 (N : Int), .slice none 0 0]) ∧ MapD w' w.heap.size K (some mf) D' ∧ (∃ left, OutD w' w.heap.size D' D G left ∧ ∀ kl, left kl = false) ∧ Below w.heap.size w w' := by
  cases mp with
  | none => exact cut_none h n hn hsyn hV hK G N hG hN
  | some m => exact cut_any h (by simp) n hn hsyn hV hK G N hG hN
end
section
variable {b B K : Nat} {now stamp : Int} {sent streams : Value} {mp : Option Nat} {D : DataW Value} {syn : Nat} {V : List (ByteArray × Value)} {p : Option Addr} {cap : Nat} {F : ByteArray → List UInt8} {UL : List (ByteArray × List UInt8)}
set_option maxHeartbeats 4000000 in
set_option maxRecDepth 100000 in
theorem wcut_any {w : World} (h : DI w b B K (.int .i64 now, .int .i64 stamp, .map none, sent, streams) mp D syn V p cap F UL) (n : Int) (hn : -9223372036854775808 ≤ n ∧ n ≤ 9223372036854775807) (hsyn : syn ≤ 100000) (hV : V.length ≤ 100000) (hK : K ≤ 1000000) (G : ByteArray → List UInt8) (N : Nat)
    (hG : ∀ t, t.size ≤ maxLen → Go.Maps.has D (keyL t) = true → RB B w ((fstV (V.drop (N - syn)) t).getD (valOf D t)) (G t) ∧ (G t).length ≤ 1000000) (hN : min (max n (syn : Int)) ((syn : Int) + (V.length : Int)) = (N : Int)) :
    Calls Try.prog 23 #[.pointer (some ⟨b, 0, none⟩), .int .i64 n] w fun e w' => ∃ bn mf, ∃ D' : DataW Value, e = .returned (.pointer (some ⟨bn, 0, none⟩)) ∧ w.heap.size ≤ bn ∧ WD w' bn (.int .i64 now, .int .i64 stamp, .map none, .slice none 0 0, .slice none 0 0) (some mf) N (.slice none 0 0) ∧ MapD w' w.heap.size K (some mf) D' ∧ (∃ left, OutD w' w.heap.size D' D G left ∧ ∀ kl, left kl = false) ∧ Below w.heap.size w w' := by
  have HD := Lib.hid h
  have HG := Lib.hid hG
  have hwd := h.wd
  unfold WD at hwd
  have k0 : w.drew.cell? ⟨b, 0, none⟩ = some (.int .i64 now) := by show w.cell? _ = _; simp [World.cell?, hwd]
  have k1 : w.drew.cell? ⟨b, 1, none⟩ = some (.int .i64 stamp) := by show w.cell? _ = _; simp [World.cell?, hwd]
  have k2 : w.drew.cell? ⟨b, 2, none⟩ = some (.map none) := by show w.cell? _ = _; simp [World.cell?, hwd]
  have hb0 : Below w.heap.size w w.drew := (Below.refl _ w).drew
  have HCut := Lib.hid (cut_both (h.below hb0) n hn hsyn hV hK G N (fun t ht hx => ⟨(hG t ht hx).1.below hb0, (hG t ht hx).2⟩) hN)
  have HK : Hid (w.drew.cell? ⟨b, 0, none⟩ = some (.int .i64 now) ∧ w.drew.cell? ⟨b, 1, none⟩ = some (.int .i64 stamp) ∧ w.drew.cell? ⟨b, 2, none⟩ = some (.map none)) := Lib.hid ⟨k0, k1, k2⟩
  have hbl := h.wd.lt
  have HCl : Hid (∀ W, Below w.heap.size w.drew W → W.cell? ⟨b, 0, none⟩ = some (.int .i64 now) ∧ W.cell? ⟨b, 1, none⟩ = some (.int .i64 stamp) ∧ W.cell? ⟨b, 2, none⟩ = some (.map none)) := Lib.hid (fun W hW => ⟨by rw [hW.cell (p := ⟨b, 0, none⟩) hbl]; exact k0, by rw [hW.cell (p := ⟨b, 1, none⟩) hbl]; exact k1, by rw [hW.cell (p := ⟨b, 2, none⟩) hbl]; exact k2⟩)
  clear h hG hwd hb0
  go_enter Try.func23, Try.ntmps23
  go_upto_region 3 with (fail)
  go_region_held3 (fun w' => w'.cell? ⟨b, 0, none⟩ = some (.int .i64 now) ∧ w'.cell? ⟨b, 1, none⟩ = some (.int .i64 stamp) ∧ w'.cell? ⟨b, 2, none⟩ = some (.map none)) (first | exact HK.out | exact HKa.out _) (first | (go_at_call 38; refine (mclone_nil _).mono ?_; rintro e w2 ⟨rfl, hw2⟩; obtain rfl := hw2) | (go_at_call 39; refine HCut.out.mono ?_; rintro e w3 ⟨mf, D', rfl, hm3, hl3, hb3⟩; have HK := Lib.hid (HCl.out w3 hb3); have HKa := Lib.hid (fun o => HCl.out (w3.alloc o) (hb3.alloc hb3.size o)); have HM3 := Lib.hid hm3; have HL3 := Lib.hid hl3; have HB3 := Lib.hid hb3; clear hm3 hl3 hb3))
  go_wp2
  go_ret
  have hsz : w.heap.size ≤ w3.heap.size := HB3.out.size
  have hal : Below w3.heap.size w3 (w3.alloc (.cells #[.int .i64 now, .int .i64 stamp, .map none, .slice none 0 0, .slice none 0 0, .map (some mf), .int .i64 (N : Int), .slice none 0 0] 63)) := (Below.refl _ w3).alloc (Nat.le_refl _) _
  obtain ⟨left, hO, hl⟩ := HL3.out
  have hm := HM3.out
  refine ⟨w3.heap.size, mf, D', rfl, hsz, heap_alloc_new w3 _, hm.same (fun q hq => ?_), ⟨left, hO.below hal, hl⟩, ?_⟩
  · obtain rfl := Option.some.inj hq
    exact heap_alloc_lt _ _ _ hm.lt
  · exact (((Below.refl _ w).drew).trans HB3.out).alloc hsz _
end
end Go.Proofs.Ytaaiicfclaeapaa

namespace Go.Proofs.Ytaaiicfclaeapaa
open Go.RowKit Go.Mp Go.Rb Go.Lib
theorem OutD.di {w : World} {B bn K mf N : Nat} {c : Value × Value × Value × Value × Value} {D D' : DataW Value} {G : ByteArray → List UInt8} {left : Lit → Bool} (hw : WD w bn c (some mf) N (.slice none 0 0)) (hbn : B ≤ bn) (hm : MapD w B K (some mf) D') (hO : OutD w B D' D G left) (hl : ∀ kl, left kl = false) :
    DI w bn B K c (some mf) D' N [] none 0 (fun t => if Go.Maps.has D (keyL t) then G t else []) [] where
  wd := hw
  base := hbn
  map := hm
  undo := World.ownsRow_nil _ _ _ _
  body := fun s hs => by
    have e := hO.has s
    rw [hl, Bool.not_false, Bool.and_true] at e
    cases hx : Go.Maps.has D (keyL s) with
    | true => simpa using hO.body s hs (e.trans hx)
    | false =>
      rw [valOf_none (e.trans hx)]
      exact .inl ⟨rfl, by simp⟩
  len := rfl
  old := fun j e l h => by cases h
  apart := fun s t a n c a' n' c' _ _ => hO.apart s t a n c a' n' c'
  elder := fun s j e a n c a' n' c' _ h => by cases h
  named := fun j e h => by cases h
end Go.Proofs.Ytaaiicfclaeapaa

namespace Go.Proofs.Ytaaiicfclaeapaa
open Go.RowKit Go.Mp Go.Rb Go.Lib
def fstB (L : List (ByteArray × List UInt8)) (t : ByteArray) : Option (List UInt8) := (L.find? fun e => decide (e.1 = t)).map (·.2)
theorem fstB_cons (nm t : ByteArray) (v : List UInt8) (L : List (ByteArray × List UInt8)) : fstB ((nm, v) :: L) t = if t = nm then some v else fstB L t := by
  unfold fstB
  by_cases h : t = nm
  · subst h; simp
  · have h2 : ¬ nm = t := fun e => h e.symm
    simp [h, h2]
theorem fst_pair {R : Value → List UInt8 → Prop} : ∀ (V : List (ByteArray × Value)) (UL : List (ByteArray × List UInt8)), UL.length = V.length → (∀ (j : Nat) e l, V[j]? = some e → UL[j]? = some l → e.1 = l.1 ∧ R e.2 l.2) → ∀ t, (fstV V t = none ∧ fstB UL t = none) ∨ ∃ v l, fstV V t = some v ∧ fstB UL t = some l ∧ R v l
  | [], [], _, _, _ => .inl ⟨rfl, rfl⟩
  | [], _ :: _, h, _, _ => by cases h
  | _ :: _, [], h, _, _ => by cases h
  | (nm, v) :: V, (nb, l) :: UL, h, hr, t => by
    obtain ⟨h1, h2⟩ := hr 0 _ _ rfl rfl
    dsimp only at h1 h2
    subst h1
    rw [fstV_cons, fstB_cons]
    by_cases ht : t = nm
    · rw [if_pos ht, if_pos ht]; exact .inr ⟨v, l, rfl, rfl, h2⟩
    · rw [if_neg ht, if_neg ht]; exact fst_pair V UL (Nat.succ.inj h) (fun j e l he hl => hr (j + 1) e l he hl) t
section
variable {w : World} {b B K : Nat} {c : Value × Value × Value × Value × Value} {mp : Option Nat} {D : DataW Value} {syn : Nat} {V : List (ByteArray × Value)} {p : Option Addr} {cap : Nat} {F : ByteArray → List UInt8} {UL : List (ByteArray × List UInt8)}
theorem DI.ahead (h : DI w b B K c mp D syn V p cap F UL) (k : Nat) (t : ByteArray) (ht : t.size ≤ maxLen) : RB B w ((fstV (V.drop k) t).getD (valOf D t)) ((fstB (UL.drop k) t).getD (F t)) := by
  rcases fst_pair (R := RB B w) (V.drop k) (UL.drop k) (by simp [h.len]) (fun j e l he hl => h.old (k + j) e l (by simpa using he) (by simpa using hl)) t with ⟨h1, h2⟩ | ⟨v, l, h1, h2, hr⟩
  · rw [h1, h2]; exact h.body t ht
  · rw [h1, h2]; exact hr
theorem RB.of_nil {B : Nat} {w : World} {l : List UInt8} (h : RB B w nilS l) : l = [] := by
  rcases h with ⟨_, h⟩ | ⟨g, cp, e, _⟩
  · exact h
  · cases e
theorem DI.ahead_none (h : DI w b B K c mp D syn V p cap F UL) (k : Nat) (t : ByteArray) (ht : t.size ≤ maxLen) (hx : Go.Maps.has D (keyL t) = false) : (fstB (UL.drop k) t).getD (F t) = [] := by
  have hr := h.ahead k t ht
  have hv : fstV (V.drop k) t = none := by
    cases hf : fstV (V.drop k) t with
    | none => rfl
    | some v =>
      exfalso
      unfold fstV at hf
      obtain ⟨e, he, _⟩ := Option.map_eq_some_iff.1 hf
      have hm := List.mem_of_find?_eq_some he
      have hn := List.find?_some he
      obtain ⟨j, hj⟩ := List.getElem?_of_mem hm
      have := (h.named (k + j) e (by simpa using hj)).2.1
      rw [of_decide_eq_true hn, hx] at this
      cases this
  rw [hv, Option.getD_none, valOf_none hx] at hr
  exact RB.of_nil hr
theorem DI.congr (h : DI w b B K c mp D syn V p cap F UL) {F' : ByteArray → List UInt8} (hF : ∀ s, s.size ≤ maxLen → F' s = F s) : DI w b B K c mp D syn V p cap F' UL :=
  ⟨h.wd, h.base, h.map, h.undo, fun s hs => by rw [hF s hs]; exact h.body s hs, h.len, h.old, h.apart, h.elder, h.named⟩
theorem wcut_bytes {now stamp : Int} {sent streams : Value} (h : DI w b B K (.int .i64 now, .int .i64 stamp, .map none, sent, streams) mp D syn V p cap F UL) (n : Int) (hn : -9223372036854775808 ≤ n ∧ n ≤ 9223372036854775807) (hsyn : syn ≤ 100000) (hU : UL.length ≤ 100000) (hK : K ≤ 1000000)
    (hlen : ∀ k t, t.size ≤ maxLen → ((fstB (UL.drop k) t).getD (F t)).length ≤ 1000000) (N : Nat) (hN : min (max n (syn : Int)) ((syn : Int) + (UL.length : Int)) = (N : Int)) :
    Calls Try.prog 23 #[.pointer (some ⟨b, 0, none⟩), .int .i64 n] w fun e w' => ∃ bn mf, ∃ D' : DataW Value, e = .returned (.pointer (some ⟨bn, 0, none⟩)) ∧ w.heap.size ≤ bn ∧ DI w' bn w.heap.size K (.int .i64 now, .int .i64 stamp, .map none, .slice none 0 0, .slice none 0 0) (some mf) D' N [] none 0 (fun t => (fstB (UL.drop (N - syn)) t).getD (F t)) [] ∧ Below w.heap.size w w' := by
  refine (wcut_any h n hn hsyn (h.len ▸ hU) hK (fun t => (fstB (UL.drop (N - syn)) t).getD (F t)) N (fun t ht _ => ⟨h.ahead _ t ht, hlen _ t ht⟩) (h.len ▸ hN)).mono ?_
  rintro e w' ⟨bn, mf, D', he, hb, hw, hm, ⟨left, hO, hl⟩, hbl⟩
  refine ⟨bn, mf, D', he, hb, (OutD.di hw hb hm hO hl).congr (fun s hs => ?_), hbl⟩
  cases hx : Go.Maps.has D (keyL s) with
  | true => simp
  | false => simpa using h.ahead_none (N - syn) s hs hx
theorem wcut_dks {now stamp : Int} {sent streams : Value} (h : DKS w b B K (.int .i64 now, .int .i64 stamp, .map none, sent, streams) syn F UL) (n : Int) (hn : -9223372036854775808 ≤ n ∧ n ≤ 9223372036854775807) (hsyn : syn ≤ 100000) (hU : UL.length ≤ 100000) (hK : K ≤ 1000000)
    (hlen : ∀ k t, t.size ≤ maxLen → ((fstB (UL.drop k) t).getD (F t)).length ≤ 1000000) (N : Nat) (hN : min (max n (syn : Int)) ((syn : Int) + (UL.length : Int)) = (N : Int)) :
    Calls Try.prog 23 #[.pointer (some ⟨b, 0, none⟩), .int .i64 n] w fun e w' => ∃ bn, e = .returned (.pointer (some ⟨bn, 0, none⟩)) ∧ w.heap.size ≤ bn ∧ DKS w' bn w.heap.size K (.int .i64 now, .int .i64 stamp, .map none, .slice none 0 0, .slice none 0 0) N (fun t => (fstB (UL.drop (N - syn)) t).getD (F t)) [] ∧ Below w.heap.size w w' := by
  obtain ⟨mp, D, V, p, cap, hd⟩ := h
  refine (wcut_bytes hd n hn hsyn hU hK hlen N hN).mono ?_
  rintro e w' ⟨bn, mf, D', he, hb, hd', hbl⟩
  exact ⟨bn, he, hb, ⟨_, _, _, _, _, hd'⟩, hbl⟩
end
end Go.Proofs.Ytaaiicfclaeapaa

namespace Go.Proofs.Ytaaiicfclaeapaa
open Go.RowKit Go.Mp Go.Rb Go.Lib
section
variable {w : World} {b B K : Nat} {c : Value × Value × Value × Value × Value} {mp : Option Nat} {D : DataW Value} {syn : Nat} {V : List (ByteArray × Value)} {p : Option Addr} {cap : Nat} {F : ByteArray → List UInt8} {UL : List (ByteArray × List UInt8)}
theorem DI.write2 (h : DI w b B K c mp D syn V p cap F UL) {s : ByteArray} (hs : s.size ≤ maxLen) {a1 : Option Addr} {n1 c1 : Nat} {l1 : List UInt8} (h1 : RB B w (.slice a1 n1 c1) l1) {e : Ending} {w' : World} (hw : WriteR w b B K c mp D syn V p s (.slice a1 n1 c1) e w')
    (hap : ∀ t a n c' a', t.size ≤ maxLen → t ≠ s → valOf D t = .slice (some a) n c' → a1 = some a' → a.block ≠ a'.block)
    (hel : ∀ (j : Nat) x a a' n' c', V[j]? = some x → a1 = some a → x.2 = .slice (some a') n' c' → a.block = a'.block → n' ≤ n1)
    (hes : ∀ a a' n' c', a1 = some a → valOf D s = .slice (some a') n' c' → a.block = a'.block → n' ≤ n1) :
    e = .returned (.tuple #[]) ∧ (∃ g cap' m', DI w' b B (K + 1) c (some m') (D.put (keyL s) (.held (.slice a1 n1 c1))) syn (V ++ [(s, valOf D s)]) (some ⟨g, 0, none⟩) cap' (updF F s l1) (UL ++ [(s, F s)]) ∧ ((∃ q, p = some q ∧ g = q.block) ∨ w.heap.size ≤ g) ∧ (mp = some m' ∨ w.heap.size ≤ m')) ∧ w'.os = w.os ∧ w'.tape = w.tape ∧ w'.output = w.output ∧ w.heap.size ≤ w'.heap.size ∧ (B ≤ w.heap.size → ∀ k, k < B → w'.heap[k]? = w.heap[k]?) := by
  obtain ⟨he, g, cap', m', k1, k2, k3, k4, k5, k6, k7, k8, k9, k10⟩ := hw
  have keep : ∀ v l, RB B w v l → RB B w' v l := fun v l hr => RB.same hr (fun a n c' e => by
    subst e
    obtain ⟨_, _, _, _, _, cur, fr, hcur⟩ := RB.obj hr
    obtain ⟨x1, x2, x3⟩ := h.other hcur
    exact k10 _ (Array.getElem?_eq_some_iff.1 hcur).1 x1 x2 x3)
  have hvs : valOf (D.put (keyL s) (.held (.slice a1 n1 c1))) s = .slice a1 n1 c1 := valOf_put_same h.map.isMap s a1 n1 c1
  have hvo : ∀ t, t ≠ s → valOf (D.put (keyL s) (.held (.slice a1 n1 c1))) t = valOf D t := fun t ht => valOf_put_other ht _
  refine ⟨he, ⟨g, cap', m', ?_, k4, k5⟩, k6, k7, k8, k9, fun hBs k hk => k10 k (by omega) (by have := h.base; omega) (fun e => ?_) (fun q e => ?_)⟩
  · exact {
      wd := by rw [List.length_append]; exact k1
      base := h.base
      map := k3
      undo := k2
      body := fun t ht => by
        unfold updF
        by_cases hts : t = s
        · subst hts
          rw [hvs, if_pos rfl]
          exact keep _ _ h1
        · rw [hvo t hts, if_neg hts]
          exact keep _ _ (h.body t ht)
      len := by rw [List.length_append, List.length_append, h.len]; rfl
      old := fun j x l hj hl => by
        by_cases hjl : j < V.length
        · rw [List.getElem?_append_left hjl] at hj
          rw [List.getElem?_append_left (by rw [h.len]; exact hjl)] at hl
          exact ⟨(h.old j x l hj hl).1, keep _ _ (h.old j x l hj hl).2⟩
        · rw [List.getElem?_append_right (by omega)] at hj
          rw [List.getElem?_append_right (by rw [h.len]; omega), h.len] at hl
          obtain hz : j - V.length = 0 := by
            have := (List.getElem?_eq_some_iff.1 hj).1
            simp at this
            omega
          rw [hz] at hj hl
          cases hj
          cases hl
          exact ⟨rfl, keep _ _ (h.body s hs)⟩
      apart := fun t u a n ca a' n' ca' ht hu htu e1 e2 => by
        by_cases hts : t = s
        · subst hts
          rw [hvs] at e1
          rw [hvo u (fun e => htu e.symm)] at e2
          injection e1 with q1
          exact fun e => hap u _ _ _ _ hu (fun e => htu e.symm) e2 q1 e.symm
        · rw [hvo t hts] at e1
          by_cases hus : u = s
          · subst hus
            rw [hvs] at e2
            injection e2 with q1
            exact hap t _ _ _ _ ht hts e1 q1
          · rw [hvo u hus] at e2
            exact h.apart t u _ _ _ _ _ _ ht hu htu e1 e2
      elder := fun t j x a n ca a' n' ca' ht hj e1 e2 e3 => by
        by_cases hjl : j < V.length
        · rw [List.getElem?_append_left hjl] at hj
          by_cases hts : t = s
          · subst hts
            rw [hvs] at e1
            injection e1 with q1 q2
            subst q2
            exact hel j x a a' n' ca' hj q1 e2 e3
          · rw [hvo t hts] at e1
            exact h.elder t j x _ _ _ _ _ _ ht hj e1 e2 e3
        · rw [List.getElem?_append_right (by omega)] at hj
          obtain hz : j - V.length = 0 := by
            have := (List.getElem?_eq_some_iff.1 hj).1
            simp at this
            omega
          rw [hz] at hj
          cases hj
          by_cases hts : t = s
          · subst hts
            rw [hvs] at e1
            injection e1 with q1 q2
            subst q2
            exact hes a a' n' ca' q1 e2 e3
          · rw [hvo t hts] at e1
            exact absurd e3 (h.apart t s _ _ _ _ _ _ ht hs hts e1 e2)
      named := fun j x hj => by
        by_cases hjl : j < V.length
        · rw [List.getElem?_append_left hjl] at hj
          obtain ⟨q1, q2, q3⟩ := h.named j x hj
          refine ⟨q1, ?_, q3⟩
          by_cases hx : x.1 = s
          · rw [hx]
            exact Go.Maps.has_put_same h.map.isMap (show Go.WideAt.IsKeyLit (keyL s) from trivial) _
          · rw [Go.Maps.has_put_other (fun e => hx (keyL_inj e)) _]
            exact q2
        · rw [List.getElem?_append_right (by omega)] at hj
          obtain hz : j - V.length = 0 := by
            have := (List.getElem?_eq_some_iff.1 hj).1
            simp at this
            omega
          rw [hz] at hj
          cases hj
          exact ⟨hs, Go.Maps.has_put_same h.map.isMap (show Go.WideAt.IsKeyLit (keyL s) from trivial) _, h.map.shape s hs⟩ }
  · subst e
    have := h.map.base
    omega
  · subst e
    have := h.undo.obj.1
    omega
end
/-- What lies in X is left as it was. -/
structure KX (X : Nat → Prop) (w w' : World) : Prop where
  os : w'.os = w.os
  tape : w'.tape = w.tape
  output : w'.output = w.output
  size : w.heap.size ≤ w'.heap.size
  keep : ∀ k, X k → k < w.heap.size → w'.heap[k]? = w.heap[k]?
theorem KX.refl (X : Nat → Prop) (w : World) : KX X w w := ⟨rfl, rfl, rfl, Nat.le_refl _, fun _ _ _ => rfl⟩
theorem KX.trans {X : Nat → Prop} {a b c : World} (h : KX X a b) (k : KX X b c) : KX X a c :=
  ⟨k.os.trans h.os, k.tape.trans h.tape, k.output.trans h.output, Nat.le_trans h.size k.size, fun i hx hi => (k.keep i hx (Nat.lt_of_lt_of_le hi h.size)).trans (h.keep i hx hi)⟩
theorem KX.of {X : Nat → Prop} {w w' : World} (h : Below w.heap.size w w') : KX X w w' := ⟨h.os, h.tape, h.output, h.size, fun k _ hk => h.block k hk⟩
theorem KX.sub {X Y : Nat → Prop} {w w' : World} (h : KX X w w') (hs : ∀ k, k < w.heap.size → Y k → X k) : KX Y w w' := ⟨h.os, h.tape, h.output, h.size, fun k hy hk => h.keep k (hs k hk hy) hk⟩
/-- The disk's own blocks. -/
structure Own (b : Nat) (mp : Option Nat) (D : DataW Value) (V : List (ByteArray × Value)) (p : Option Addr) (k : Nat) : Prop where
  it : k = b ∨ mp = some k ∨ (∃ q, p = some q ∧ k = q.block) ∨ (∃ s a n c, s.size ≤ maxLen ∧ valOf D s = .slice (some a) n c ∧ k = a.block) ∨ (∃ (j : Nat) (e : ByteArray × Value) (a : Addr) (n c : Nat), V[j]? = some e ∧ e.2 = .slice (some a) n c ∧ k = a.block)
section
variable {b B K : Nat} {c : Value × Value × Value × Value × Value} {mp : Option Nat} {D : DataW Value} {syn : Nat} {V : List (ByteArray × Value)} {p : Option Addr} {cap : Nat} {F : ByteArray → List UInt8} {UL : List (ByteArray × List UInt8)}
theorem DI.own_lt {w : World} (h : DI w b B K c mp D syn V p cap F UL) {k : Nat} (hk : Own b mp D V p k) : B ≤ k ∧ k < w.heap.size := by
  rcases hk.it with rfl | e | ⟨q, e, rfl⟩ | ⟨s, a, n, ca, hs, e, rfl⟩ | ⟨j, x, a, n, ca, hj, e, rfl⟩
  · exact ⟨h.base, h.wd.lt⟩
  · subst e; exact ⟨h.map.base, h.map.lt⟩
  · subst e
    obtain ⟨h1, cur, h2⟩ := h.undo.obj
    exact ⟨h1, (Array.getElem?_eq_some_iff.1 h2).1⟩
  · have := h.body s hs
    rw [e] at this
    obtain ⟨_, _, h1, _, _, cur, fr, hc⟩ := RB.obj this
    exact ⟨h1, (Array.getElem?_eq_some_iff.1 hc).1⟩
  · obtain ⟨l, hl⟩ : ∃ l, UL[j]? = some l := ⟨_, List.getElem?_eq_getElem (by rw [h.len]; exact (List.getElem?_eq_some_iff.1 hj).1)⟩
    have := (h.old j x l hj hl).2
    rw [e] at this
    obtain ⟨_, _, h1, _, _, cur, fr, hc⟩ := RB.obj this
    exact ⟨h1, (Array.getElem?_eq_some_iff.1 hc).1⟩
/-- The disk stands where its own blocks stand; the world's other cells may change. -/
theorem DI.at_own {w w' : World} (h : DI w b B K c mp D syn V p cap F UL) {c' : Value × Value × Value × Value × Value} (hwd : WD w' b c' mp syn (.slice p V.length cap)) (hh : ∀ k, k ≠ b → Own b mp D V p k → w'.heap[k]? = w.heap[k]?) : DI w' b B K c' mp D syn V p cap F UL := by
  have keep : ∀ v l, RB B w v l → (∀ a n ca, v = .slice (some a) n ca → Own b mp D V p a.block) → RB B w' v l := fun v l hr ho => RB.same hr (fun a n ca e => by
    have ho2 := ho a n ca e
    subst e
    obtain ⟨_, _, _, _, _, cur, fr, hcur⟩ := RB.obj hr
    exact hh _ (h.other hcur).1 ho2)
  exact {
    wd := hwd
    base := h.base
    map := h.map.same (fun m e => hh m (fun e2 => h.mpb (by rw [e, e2])) ⟨.inr (.inl e)⟩)
    undo := by
      have hs := h.sep
      obtain ⟨h1, h2⟩ := h.undo
      refine ⟨h1, h2.imp id (fun ⟨g, cp, cur, e, hB, hg, h3⟩ => ⟨g, cp, cur, e, hB, ?_, h3⟩)⟩
      injection e with e3 e4 e5
      exact (hh g (hs _ e3).1 ⟨.inr (.inr (.inl ⟨_, e3, rfl⟩))⟩).trans hg
    body := fun t ht => keep _ _ (h.body t ht) (fun a n ca e => ⟨.inr (.inr (.inr (.inl ⟨t, a, n, ca, ht, e, rfl⟩)))⟩)
    len := h.len
    old := fun j e l h1 h2 => ⟨(h.old j e l h1 h2).1, keep _ _ (h.old j e l h1 h2).2 (fun a n ca e2 => ⟨.inr (.inr (.inr (.inr ⟨j, e, a, n, ca, h1, e2, rfl⟩)))⟩)⟩
    apart := h.apart
    elder := h.elder
    named := h.named }
end
/-- A disk that keeps clear of X. -/
def DKX (X : Nat → Prop) (w : World) (b B K : Nat) (c : Value × Value × Value × Value × Value) (syn : Nat) (F : ByteArray → List UInt8) (UL : List (ByteArray × List UInt8)) : Prop :=
  ∃ mp D V p cap, DI w b B K c mp D syn V p cap F UL ∧ ∀ k, Own b mp D V p k → ¬ X k
section
variable {X : Nat → Prop} {b B K : Nat} {c : Value × Value × Value × Value × Value} {syn : Nat} {F : ByteArray → List UInt8} {UL : List (ByteArray × List UInt8)}
theorem DKX.dks {w : World} (h : DKX X w b B K c syn F UL) : DKS w b B K c syn F UL := let ⟨mp, D, V, p, cap, hd, _⟩ := h; ⟨mp, D, V, p, cap, hd⟩
/-- Blocks that came later may be kept clear of, too. -/
theorem DKX.grow {Y : Nat → Prop} {w : World} (h : DKX X w b B K c syn F UL) (hY : ∀ k, B ≤ k → k < w.heap.size → Y k → X k) : DKX Y w b B K c syn F UL := by
  obtain ⟨mp, D, V, p, cap, hd, hx⟩ := h
  exact ⟨mp, D, V, p, cap, hd, fun k hk hy => hx k hk (hY k (hd.own_lt hk).1 (hd.own_lt hk).2 hy)⟩
/-- A disk whose base is all that is old keeps clear of what is old. -/
theorem DKX.of {w : World} (h : DKS w b B K c syn F UL) (hX : ∀ k, X k → k < B) : DKX X w b B K c syn F UL := by
  obtain ⟨mp, D, V, p, cap, hd⟩ := h
  exact ⟨mp, D, V, p, cap, hd, fun k hk hx => by have := hX k hx; have := (hd.own_lt hk).1; omega⟩
/-- What changes in X, and what is new, is nothing to the disk. -/
theorem DKX.same {w w' : World} (h : DKX X w b B K c syn F UL) (hh : ∀ k, k < w.heap.size → ¬ X k → w'.heap[k]? = w.heap[k]?) : DKX X w' b B K c syn F UL := by
  obtain ⟨mp, D, V, p, cap, hd, hx⟩ := h
  exact ⟨mp, D, V, p, cap, hd.at_own (hd.wd.same (hh b hd.wd.lt (hx b ⟨.inl rfl⟩))) (fun k _ hk => hh k (hd.own_lt hk).2 (hx k hk)), hx⟩
theorem write_x {w w' : World} {e : Ending} {mp : Option Nat} {D : DataW Value} {V : List (ByteArray × Value)} {p : Option Addr} {cap : Nat} (h : DI w b B K c mp D syn V p cap F UL) (hx : ∀ k, Own b mp D V p k → ¬ X k) (hX : ∀ k, X k → k < w.heap.size) {s : ByteArray} (hs : s.size ≤ maxLen) {a1 : Option Addr} {n1 c1 : Nat} {l1 : List UInt8} (h1 : RB B w (.slice a1 n1 c1) l1) (hw : WriteR w b B K c mp D syn V p s (.slice a1 n1 c1) e w')
    (hap : ∀ t a n c' a', t.size ≤ maxLen → t ≠ s → valOf D t = .slice (some a) n c' → a1 = some a' → a.block ≠ a'.block)
    (hel : ∀ (j : Nat) x a a' n' c', V[j]? = some x → a1 = some a → x.2 = .slice (some a') n' c' → a.block = a'.block → n' ≤ n1)
    (hes : ∀ a a' n' c', a1 = some a → valOf D s = .slice (some a') n' c' → a.block = a'.block → n' ≤ n1) (ha1 : ∀ a, a1 = some a → ¬ X a.block) :
    e = .returned (.tuple #[]) ∧ DKX X w' b B (K + 1) c syn (updF F s l1) (UL ++ [(s, F s)]) ∧ KX X w w' ∧ (B ≤ w.heap.size → Below B w w') := by
  have hw2 := hw
  obtain ⟨he, ⟨g, cap', m', hd, k4, k5⟩, o1, o2, o3, o4, o5⟩ := h.write2 hs h1 hw hap hel hes
  obtain ⟨_, _, _, _, _, _, _, _, _, _, _, _, _, k10⟩ := hw2
  refine ⟨he, ⟨_, _, _, _, _, hd, fun k hk hxk => ?_⟩, ⟨o1, o2, o3, o4, fun k hk hl => ?_⟩, fun hB => ⟨o1, o2, o3, o4, fun k hk => o5 hB k hk⟩⟩
  · rcases hk.it with rfl | e | ⟨q, e, rfl⟩ | ⟨t, a, n, ca, ht, e, rfl⟩ | ⟨j, x, a, n, ca, hj, e, rfl⟩
    · exact hx _ ⟨.inl rfl⟩ hxk
    · cases e
      rcases k5 with k5 | k5
      · exact hx _ ⟨.inr (.inl k5)⟩ hxk
      · have := hX _ hxk; omega
    · cases e
      rcases k4 with ⟨q, e, e2⟩ | k4
      · exact hx _ ⟨.inr (.inr (.inl ⟨q, e, e2⟩))⟩ hxk
      · have := hX _ hxk
        simp only at this
        omega
    · by_cases hts : t = s
      · subst hts
        rw [valOf_put_same h.map.isMap] at e
        injection e with e1
        exact ha1 a e1 hxk
      · rw [valOf_put_other hts] at e
        exact hx _ ⟨.inr (.inr (.inr (.inl ⟨t, a, n, ca, ht, e, rfl⟩)))⟩ hxk
    · by_cases hjl : j < V.length
      · rw [List.getElem?_append_left hjl] at hj
        exact hx _ ⟨.inr (.inr (.inr (.inr ⟨j, x, a, n, ca, hj, e, rfl⟩)))⟩ hxk
      · rw [List.getElem?_append_right (by omega)] at hj
        obtain hz : j - V.length = 0 := by
          have := (List.getElem?_eq_some_iff.1 hj).1
          simp at this
          omega
        rw [hz] at hj
        cases hj
        exact hx _ ⟨.inr (.inr (.inr (.inl ⟨s, a, n, ca, hs, e, rfl⟩)))⟩ hxk
  · exact k10 k hl (fun e => hx b ⟨.inl rfl⟩ (e ▸ hk)) (fun e => hx k ⟨.inr (.inl e)⟩ hk) (fun q e e2 => hx k ⟨.inr (.inr (.inl ⟨q, e, e2⟩))⟩ hk)
end
end Go.Proofs.Ytaaiicfclaeapaa

namespace Go.Proofs.Ytaaiicfclaeapaa
open Go.RowKit Go.Mp Go.Rb Go.Lib
section
variable {X : Nat → Prop} {b B K : Nat} {c : Value × Value × Value × Value × Value} {syn : Nat} {F : ByteArray → List UInt8} {UL : List (ByteArray × List UInt8)}
set_option maxHeartbeats 2000000 in
set_option maxRecDepth 100000 in
theorem extend_x {w : World} (h : DKX X w b B K c syn F UL) (hX : ∀ k, X k → k < w.heap.size) (hK : K ≤ 1000000) (hU : UL.length ≤ 100000) (s : ByteArray) (hs : s.size ≤ maxLen) (p3 : Option Addr) (n3 c3 : Nat) (m : List UInt8) (hsrc : Src Try.prog w (.slice p3 n3 c3) m) (hm : (F s).length + m.length ≤ 1000000) :
    Calls Try.prog 35 #[.pointer (some ⟨b, 5, none⟩), .string s, .slice p3 n3 c3] w fun e w' => e = .returned (.tuple #[]) ∧ DKX X w' b B (K + 1) c syn (updF F s (F s ++ m)) (UL ++ [(s, F s)]) ∧ Below B w w' ∧ KX X w w' := by
  obtain ⟨mp, D, V, p, cap, hd, hx⟩ := h
  have hVl := hd.len
  obtain ⟨a0, n0, c0, hv0⟩ := hd.map.shape s hs
  have k5 := hd.wd.c5
  have hlk := hd.map.lookup s hs
  rw [hv0] at hlk
  have hbB : B ≤ w.heap.size := by have := hd.wd.lt; have := hd.base; omega
  have hrb := hd.body s hs
  rw [hv0] at hrb
  have HRb := Lib.hid hrb
  have HSrc := Lib.hid hsrc
  have HD := Lib.hid hd
  have HV0 := Lib.hid hv0
  obtain ⟨i8, hi, hz0, hz1, hz2⟩ := info_parts' (show (Try.prog.info? 5).map (fun i => (i.zero, i.size, i.bytes)) = some (some (.int .u8 0), 1, 1) by kernel_rfl)
  have HWr : Hid (∀ w2 p1 c1, RB B w2 (.slice p1 ((F s).length + m.length) c1) (F s ++ m) → ((∃ a n c', (.slice a0 n0 c0 : Value) = .slice (some a) n c' ∧ KG a.block (F s).length w w2 ∧ blk (.slice p1 ((F s).length + m.length) c1) = a.block) ∨ (Below w.heap.size w w2 ∧ (p1 = none ∨ blk (.slice p1 ((F s).length + m.length) c1) = w.heap.size))) →
      Calls Try.prog 46 #[.pointer (some ⟨b, 5, none⟩), .string s, .slice p1 ((F s).length + m.length) c1] w2 fun e w' => e = .returned (.tuple #[]) ∧ DKX X w' b B (K + 1) c syn (updF F s (F s ++ m)) (UL ++ [(s, F s)]) ∧ Below B w w' ∧ KX X w w') := Lib.hid (by
    intro w2 p1 c1 hr2 hk2
    have hlt : ∀ t a n ca, t.size ≤ maxLen → valOf D t = .slice (some a) n ca → a.block < w.heap.size := fun t a n ca ht e => by
      have := hd.body t ht
      rw [e] at this
      obtain ⟨_, _, _, _, _, cur, fr, hc⟩ := RB.obj this
      exact (Array.getElem?_eq_some_iff.1 hc).1
    have hlo : ∀ (j : Nat) x a n ca, V[j]? = some x → x.2 = .slice (some a) n ca → a.block < w.heap.size := fun j x a n ca hj e => by
      obtain ⟨l, hl⟩ : ∃ l, UL[j]? = some l := ⟨_, List.getElem?_eq_getElem (by rw [hd.len]; exact (List.getElem?_eq_some_iff.1 hj).1)⟩
      have := (hd.old j x l hj hl).2
      rw [e] at this
      obtain ⟨_, _, _, _, _, cur, fr, hc⟩ := RB.obj this
      exact (Array.getElem?_eq_some_iff.1 hc).1
    have fin : ∀ (hd2 : DI w2 b B K c mp D syn V p cap F UL) (hb2 : Below B w w2) (hk2 : KX X w w2) (ha2 : ∀ a, p1 = some a → ¬ X a.block)
        (hap : ∀ t a n c' a', t.size ≤ maxLen → t ≠ s → valOf D t = .slice (some a) n c' → p1 = some a' → a.block ≠ a'.block)
        (hel : ∀ (j : Nat) x a a' n' c', V[j]? = some x → p1 = some a → x.2 = .slice (some a') n' c' → a.block = a'.block → n' ≤ (F s).length + m.length)
        (hes : ∀ a a' n' c', p1 = some a → valOf D s = .slice (some a') n' c' → a.block = a'.block → n' ≤ (F s).length + m.length),
        Calls Try.prog 46 #[.pointer (some ⟨b, 5, none⟩), .string s, .slice p1 ((F s).length + m.length) c1] w2 fun e w' => e = .returned (.tuple #[]) ∧ DKX X w' b B (K + 1) c syn (updF F s (F s ++ m)) (UL ++ [(s, F s)]) ∧ Below B w w' ∧ KX X w w' := fun hd2 hb2 hk2 ha2 hap hel hes => by
      refine (write_di hd2 hK (by omega) s hs p1 _ c1).mono ?_
      intro e w3 hw
      obtain ⟨he, h1, h2, h3⟩ := write_x hd2 hx (fun k hk => Nat.lt_of_lt_of_le (hX k hk) hb2.size) hs hr2 hw hap hel hes ha2
      exact ⟨he, h1, hb2.trans (h3 (Nat.le_trans hbB hb2.size)), hk2.trans h2⟩
    rcases hk2 with ⟨a, n, c', e, hkg, hblk⟩ | ⟨hbl, hx⟩
    · have hv : valOf D s = .slice (some a) n c' := hv0.trans e
      have hbs := hd.body s hs
      rw [hv] at hbs
      obtain ⟨_, hnl, hBa, _⟩ := RB.obj hbs
      have hp1 : ∀ q, p1 = some q → q.block = a.block := fun q e => by subst e; exact hblk
      refine fin (hd.kg hs hv (hnl ▸ hkg)) (hkg.below hBa hbB) ⟨hkg.os, hkg.tape, hkg.output, hkg.size, fun k hk hl => hkg.block k hl (fun e2 => hx a.block ⟨.inr (.inr (.inr (.inl ⟨s, a, n, c', hs, hv, rfl⟩)))⟩ (e2 ▸ hk))⟩ (fun q e2 hq => hx a.block ⟨.inr (.inr (.inr (.inl ⟨s, a, n, c', hs, hv, rfl⟩)))⟩ (hp1 q e2 ▸ hq)) (fun t a2 n2 c2 a' ht hts e2 e3 => ?_) (fun j x a2 a' n' c2 hj e2 e3 e4 => ?_) (fun a2 a' n' c2 e2 e3 e4 => ?_)
      · rw [hp1 a' e3]
        exact hd.apart t s _ _ _ _ _ _ ht hs hts e2 hv
      · have := hd.elder s j x _ _ _ _ _ _ hs hj hv e3 (by rw [← hp1 a2 e2]; exact e4)
        omega
      · rw [hv] at e3
        cases e3
        omega
    · have hp1 : ∀ q, p1 = some q → q.block = w.heap.size := fun q e => by
        subst e
        rcases hx with hx | hx
        · cases hx
        · exact hx
      refine fin (hd.below hbl) (hbl.mono hbB) (KX.of hbl) (fun q e2 hq => by have := hX _ hq; have := hp1 q e2; omega) (fun t a2 n2 c2 a' ht hts e2 e3 => ?_) (fun j x a2 a' n' c2 hj e2 e3 e4 => ?_) (fun a2 a' n' c2 e2 e3 e4 => ?_)
      · have := hlt t _ _ _ ht e2
        have := hp1 a' e3
        omega
      · have := hlo j x _ _ _ hj e3
        have := hp1 a2 e2
        omega
      · have := hlt s _ _ _ hs e3
        have := hp1 a2 e2
        omega)
  clear hd hrb hsrc hv0
  go_enter Try.func35, Try.ntmps35
  go_wp2_with (first | (at_builtin; refine wpList_append_kg rfl _ _ 33 33 rfl Try.underlying33 Try.underlying33 (fun k e => by cases e) hi hz0 hz1 hz2 rfl rfl HRb.out HSrc.out hbB hm ?_; intro p1 c1 w2 hr2 hk2; have HR2 := Lib.hid hr2; have HK2 := Lib.hid hk2; clear hr2 hk2) | (go_at_call 46; refine (HWr.out w2 p1 c1 HR2.out HK2.out).mono ?_; rintro e w3 ⟨rfl, hks, hb3, hk3⟩; have HKs := Lib.hid hks; have HB3 := Lib.hid hb3; have HK3 := Lib.hid hk3; clear hks hb3 hk3))
  go_end0
  exact ⟨rfl, HKs.out, HB3.out, HK3.out⟩
set_option maxRecDepth 100000 in
theorem sync_x {w : World} (h : DKX X w b B K c syn F UL) (hsyn : syn ≤ 100000) (hU : UL.length ≤ 100000) :
    Calls Try.prog 37 #[.pointer (some ⟨b, 5, none⟩)] w fun e w' => e = .returned (.tuple #[]) ∧ DKX X w' b B K c (syn + UL.length) F [] ∧ Below B w w' ∧ KX X w w' := by
  obtain ⟨mp, D, V, p, cap, hd, hxo⟩ := h
  have hVl := hd.len
  have hbl := hd.wd.lt
  have HWs := Lib.hid (writes_any b c mp syn p V.length cap w hd.wd (by omega) (by omega))
  have HD := Lib.hid hd
  clear hd
  go_enter Try.func37, Try.ntmps37
  go_wp2_with (go_at_call 45; refine HWs.out.mono ?_; rintro e w2 ⟨rfl, q, hw2⟩; have hb2 : Below w.heap.size w w2 := hw2 ▸ bel_drewN (Below.refl _ w) q; have HB2 := Lib.hid hb2; have HD2 := Lib.hid (HD.out.below hb2); have k6 := HD2.out.wd.c6; have k7 := HD2.out.wd.c7; have f6 := HD2.out.wd.free 6; have f7 := HD2.out.wd.free 7; clear hw2 hb2)
  go_end0
  have hbB : B ≤ w.heap.size := by have := HD.out.base; omega
  have hd2 := HD2.out
  have hsum : ((syn : Int) + (V.length : Int)) = ((syn + UL.length : Nat) : Int) := by omega
  rw [hsum]
  have hx : ∀ k, k ≠ b → ((w2.setCell ⟨b, 6, none⟩ (.int .i64 ((syn + UL.length : Nat) : Int))).setCell ⟨b, 7, none⟩ (.slice none 0 0)).heap[k]? = w2.heap[k]? := fun k hk => (heap_setCell_ne _ _ _ _ _ hk).trans (heap_setCell_ne _ _ _ _ _ hk)
  have keep : ∀ v l, RB B w2 v l → RB B ((w2.setCell ⟨b, 6, none⟩ (.int .i64 ((syn + UL.length : Nat) : Int))).setCell ⟨b, 7, none⟩ (.slice none 0 0)) v l := fun v l hr => RB.same hr (fun a n c' e => by
    subst e
    obtain ⟨_, _, _, _, _, cur, fr, hcur⟩ := RB.obj hr
    exact hx _ (hd2.other hcur).1)
  have hsz : w.heap.size ≤ ((w2.setCell ⟨b, 6, none⟩ (.int .i64 ((syn + UL.length : Nat) : Int))).setCell ⟨b, 7, none⟩ (.slice none 0 0)).heap.size := by rw [size_setCell', size_setCell']; exact HB2.out.size
  refine ⟨rfl, ⟨mp, D, [], none, 0, ?_, fun k hk hxk => ?_⟩, ⟨HB2.out.os, HB2.out.tape, HB2.out.output, hsz, fun k hk => (hx k (by have := hd2.base; omega)).trans (HB2.out.block k (by omega))⟩, ⟨HB2.out.os, HB2.out.tape, HB2.out.output, hsz, fun k hk hl => (hx k (fun e => hxo b ⟨.inl rfl⟩ (e ▸ hk))).trans (HB2.out.block k hl)⟩⟩
  · exact {
      wd := (hd2.wd.set6 _).set7 _
      base := hd2.base
      map := hd2.map.same (fun m e => hx m (fun e2 => hd2.mpb (by rw [e, e2])))
      undo := World.ownsRow_nil _ _ _ _
      body := fun t ht => keep _ _ (hd2.body t ht)
      len := rfl
      old := fun j e l h1 _ => by simp at h1
      apart := hd2.apart
      elder := fun t j x a n c' a' n' c'' _ h1 => by simp at h1
      named := fun j x h1 => by simp at h1 }
  · rcases hk.it with e | e | ⟨q, e, _⟩ | e | ⟨j, x, a, n, ca, hj, _⟩
    · exact hxo k ⟨.inl e⟩ hxk
    · exact hxo k ⟨.inr (.inl e)⟩ hxk
    · cases e
    · exact hxo k ⟨.inr (.inr (.inr (.inl e)))⟩ hxk
    · simp at hj
set_option maxRecDepth 100000 in
theorem replace_x {w : World} (h : DKX X w b B K c syn F UL) (hX : ∀ k, X k → k < w.heap.size) (hK : K ≤ 1000000) (hU : UL.length ≤ 100000) (s : ByteArray) (hs : s.size ≤ maxLen) (p3 : Option Addr) (n3 c3 : Nat) (m : List UInt8) (hsrc : RB 0 w (.slice p3 n3 c3) m) (hm : m.length ≤ 1000000) :
    Calls Try.prog 36 #[.pointer (some ⟨b, 5, none⟩), .string s, .slice p3 n3 c3] w fun e w' => e = .returned (.tuple #[]) ∧ DKX X w' b B (K + 1) c syn (updF F s m) (UL ++ [(s, F s)]) ∧ Below B w w' ∧ KX X w w' := by
  obtain ⟨mp, D, V, p, cap, hd, hx⟩ := h
  have hVl := hd.len
  have hbB : B ≤ w.heap.size := by have := hd.wd.lt; have := hd.base; omega
  have HCl := Lib.hid (clone_rb hsrc hm)
  have HWr : Hid (∀ w2 p1 c1, RB w.heap.size w2 (.slice p1 m.length c1) m → Below w.heap.size w w2 →
      Calls Try.prog 46 #[.pointer (some ⟨b, 5, none⟩), .string s, .slice p1 m.length c1] w2 fun e w' => e = .returned (.tuple #[]) ∧ DKX X w' b B (K + 1) c syn (updF F s m) (UL ++ [(s, F s)]) ∧ Below B w w' ∧ KX X w w') := Lib.hid (by
    intro w2 p1 c1 hr2 hb2
    have hr2' : RB B w2 (.slice p1 m.length c1) m := RB.base hr2 hbB
    have hp1 : ∀ q, p1 = some q → w.heap.size ≤ q.block := fun q e => by
      subst e
      exact (RB.obj hr2).2.2.1
    have hd2 : DI w2 b B K c mp D syn V p cap F UL := hd.below hb2
    refine (write_di hd2 hK (by omega) s hs p1 _ c1).mono ?_
    intro e w3 hw
    obtain ⟨he, h1, h2, h3⟩ := write_x hd2 hx (fun k hk => Nat.lt_of_lt_of_le (hX k hk) hb2.size) hs hr2' hw
      (fun t a n c' a' ht hts e1 e2 => by have := (hd.own_lt ⟨.inr (.inr (.inr (.inl ⟨t, a, n, c', ht, e1, rfl⟩)))⟩).2; have := hp1 a' e2; omega)
      (fun j x a a' n' c' hj e1 e2 e3 => by have := (hd.own_lt ⟨.inr (.inr (.inr (.inr ⟨j, x, a', n', c', hj, e2, rfl⟩)))⟩).2; have := hp1 a e1; omega)
      (fun a a' n' c' e1 e2 e3 => by have := (hd.own_lt ⟨.inr (.inr (.inr (.inl ⟨s, a', n', c', hs, e2, rfl⟩)))⟩).2; have := hp1 a e1; omega)
      (fun a e1 hq => by have := hX _ hq; have := hp1 a e1; omega)
    exact ⟨he, h1, (hb2.mono hbB).trans (h3 (Nat.le_trans hbB hb2.size)), (KX.of hb2).trans h2⟩)
  clear hd hsrc
  go_enter Try.func36, Try.ntmps36
  go_wp2_with (first | (go_at_call 31; refine HCl.out.mono ?_; rintro e w2 ⟨p2, c2, rfl, hr, hb⟩; have HR := Lib.hid hr; have HB := Lib.hid hb; clear hr hb) | (go_at_call 46; refine (HWr.out w2 p2 c2 HR.out HB.out).mono ?_; rintro e w3 ⟨rfl, hks, hb3, hk3⟩; have HKs := Lib.hid hks; have HB3 := Lib.hid hb3; have HK3 := Lib.hid hk3; clear hks hb3 hk3))
  go_end0
  exact ⟨rfl, HKs.out, HB3.out, HK3.out⟩
set_option maxRecDepth 100000 in
theorem append_x {w : World} (h : DKX X w b B K c syn F UL) (hX : ∀ k, X k → k < w.heap.size) (hK : K ≤ 1000000) (hU : UL.length ≤ 100000) (s : ByteArray) (hs : s.size ≤ maxLen) (p3 : Option Addr) (n3 c3 : Nat) (m : List UInt8) (hsrc : Src Try.prog w (.slice p3 n3 c3) m) (hm : (F s).length + m.length ≤ 1000000) :
    Calls Try.prog 20 #[.pointer (some ⟨b, 0, none⟩), .string s, .slice p3 n3 c3] w fun e w' => e = .returned (.tuple #[]) ∧ DKX X w' b B (K + 1) c syn (updF F s (F s ++ m)) (UL ++ [(s, F s)]) ∧ Below B w w' ∧ KX X w w' := by
  have HE := Lib.hid (extend_x h hX hK hU s hs p3 n3 c3 m hsrc hm)
  clear h hsrc hm
  go_enter Try.func20, Try.ntmps20
  go_wp2_with (go_at_call 35; refine HE.out.mono ?_; rintro e w2 ⟨rfl, hks, hb, hk⟩; have HKs := Lib.hid hks; have HB := Lib.hid hb; have HKx := Lib.hid hk; clear hks hb hk)
  go_end0
  exact ⟨rfl, HKs.out, HB.out, HKx.out⟩
set_option maxRecDepth 100000 in
theorem wreplace_x {w : World} (h : DKX X w b B K c syn F UL) (hX : ∀ k, X k → k < w.heap.size) (hK : K ≤ 1000000) (hU : UL.length ≤ 100000) (s : ByteArray) (hs : s.size ≤ maxLen) (p3 : Option Addr) (n3 c3 : Nat) (m : List UInt8) (hsrc : RB 0 w (.slice p3 n3 c3) m) (hm : m.length ≤ 1000000) :
    Calls Try.prog 21 #[.pointer (some ⟨b, 0, none⟩), .string s, .slice p3 n3 c3] w fun e w' => e = .returned (.tuple #[]) ∧ DKX X w' b B (K + 1) c syn (updF F s m) (UL ++ [(s, F s)]) ∧ Below B w w' ∧ KX X w w' := by
  have HE := Lib.hid (replace_x h hX hK hU s hs p3 n3 c3 m hsrc hm)
  clear h hsrc hm
  go_enter Try.func21, Try.ntmps21
  go_wp2_with (go_at_call 36; refine HE.out.mono ?_; rintro e w2 ⟨rfl, hks, hb, hk⟩; have HKs := Lib.hid hks; have HB := Lib.hid hb; have HKx := Lib.hid hk; clear hks hb hk)
  go_end0
  exact ⟨rfl, HKs.out, HB.out, HKx.out⟩
set_option maxRecDepth 100000 in
theorem wsync_x {w : World} (h : DKX X w b B K c syn F UL) (hsyn : syn ≤ 100000) (hU : UL.length ≤ 100000) :
    Calls Try.prog 22 #[.pointer (some ⟨b, 0, none⟩)] w fun e w' => e = .returned (.tuple #[]) ∧ DKX X w' b B K c (syn + UL.length) F [] ∧ Below B w w' ∧ KX X w w' := by
  have HE := Lib.hid (sync_x h hsyn hU)
  clear h
  go_enter Try.func22, Try.ntmps22
  go_wp2_with (go_at_call 37; refine HE.out.mono ?_; rintro e w2 ⟨rfl, hks, hb, hk⟩; have HKs := Lib.hid hks; have HB := Lib.hid hb; have HKx := Lib.hid hk; clear hks hb hk)
  go_end0
  exact ⟨rfl, HKs.out, HB.out, HKx.out⟩
end
end Go.Proofs.Ytaaiicfclaeapaa

namespace Go.Proofs.Ytaaiicfclaeapaa
open Go.RowKit Go.Mp Go.Rb Go.Lib
set_option maxHeartbeats 2000000 in
theorem mclone_some (m : Nat) (es : Array MapEntry) (cl : Nat) (w : World) (hm : w.heap[m]? = some (.map es cl)) : Calls Try.prog 38 #[.map (some m)] w fun e w' => e = .returned (.map (some w.heap.size)) ∧ w' = w.alloc (.map es cl) := by
  have e79 := eql79_some m
  go_enter Try.func38, Try.ntmps38
  go_wp2
  rw [run_callFunc_extern Try.func47 (by kernel_rfl) (by kernel_rfl) (by kernel_rfl) (e := Extern.MapsClone.clone) (by kernel_rfl), run_maps_clone_sl w 57 hm]
  simp only [Result.andThen]
  rw [Oper.upon_value]
  go_wp2
  rw [run_typeAssert_map_sl _ 57 20 _ _ _ Try.underlying57]
  simp only [Result.andThen]
  rw [Oper.upon_value]
  go_wp2
  go_ret
  exact ⟨rfl, rfl⟩
section
variable {b B K : Nat} {c : Value × Value × Value × Value × Value} {mp : Option Nat} {D : DataW Value} {syn : Nat} {V : List (ByteArray × Value)} {p : Option Addr} {cap : Nat} {F : ByteArray → List UInt8} {UL : List (ByteArray × List UInt8)}
theorem DI.weaken {B' : Nat} {w : World} (h : DI w b B K c mp D syn V p cap F UL) (hB : B' ≤ B) : DI w b B' K c mp D syn V p cap F UL := {
  wd := h.wd
  base := Nat.le_trans hB h.base
  map := by
    rcases h.map with ⟨e, h2⟩ | ⟨m, N, e, h1, h2, h3⟩
    · exact .inl ⟨e, h2⟩
    · exact .inr ⟨m, N, e, Nat.le_trans hB h1, h2, h3⟩
  undo := by
    obtain ⟨h1, h2⟩ := h.undo
    exact ⟨h1, h2.imp id (fun ⟨g, cp, cur, e, hg, h3⟩ => ⟨g, cp, cur, e, Nat.le_trans hB hg, h3⟩)⟩
  body := fun s hs => RB.base (h.body s hs) hB
  len := h.len
  old := fun j e l h1 h2 => ⟨(h.old j e l h1 h2).1, RB.base (h.old j e l h1 h2).2 hB⟩
  apart := h.apart
  elder := h.elder
  named := h.named }
end
section
variable {b B K : Nat} {now stamp : Int} {sent streams : Value} {mp : Option Nat} {D : DataW Value} {syn : Nat} {V : List (ByteArray × Value)} {p : Option Addr} {cap : Nat} {F : ByteArray → List UInt8} {UL : List (ByteArray × List UInt8)}
set_option maxHeartbeats 4000000 in
set_option maxRecDepth 100000 in
theorem wcut_some {w : World} {m0 : Nat} {es : Array MapEntry} {cl : Nat} (h : DI w b B K (.int .i64 now, .int .i64 stamp, .map (some m0), sent, streams) mp D syn V p cap F UL) (hm0 : w.heap[m0]? = some (.map es cl)) (n : Int) (hn : -9223372036854775808 ≤ n ∧ n ≤ 9223372036854775807) (hsyn : syn ≤ 100000) (hV : V.length ≤ 100000) (hK : K ≤ 1000000) (G : ByteArray → List UInt8) (N : Nat)
    (hG : ∀ t, t.size ≤ maxLen → Go.Maps.has D (keyL t) = true → RB B w ((fstV (V.drop (N - syn)) t).getD (valOf D t)) (G t) ∧ (G t).length ≤ 1000000) (hN : min (max n (syn : Int)) ((syn : Int) + (V.length : Int)) = (N : Int)) :
    Calls Try.prog 23 #[.pointer (some ⟨b, 0, none⟩), .int .i64 n] w fun e w' => ∃ bn mf, ∃ D' : DataW Value, e = .returned (.pointer (some ⟨bn, 0, none⟩)) ∧ w.heap.size + 1 ≤ bn ∧ WD w' bn (.int .i64 now, .int .i64 stamp, .map (some w.heap.size), .slice none 0 0, .slice none 0 0) (some mf) N (.slice none 0 0) ∧ MapD w' (w.heap.size + 1) K (some mf) D' ∧ (∃ left, OutD w' (w.heap.size + 1) D' D G left ∧ ∀ kl, left kl = false) ∧ Below w.heap.size w w' ∧ w'.heap[w.heap.size]? = some (.map es cl) := by
  have HD := Lib.hid h
  have HG := Lib.hid hG
  have hwd := h.wd
  unfold WD at hwd
  have hbl := h.wd.lt
  have k0 : w.drew.cell? ⟨b, 0, none⟩ = some (.int .i64 now) := by show w.cell? _ = _; simp [World.cell?, hwd]
  have k1 : w.drew.cell? ⟨b, 1, none⟩ = some (.int .i64 stamp) := by show w.cell? _ = _; simp [World.cell?, hwd]
  have k2 : w.drew.cell? ⟨b, 2, none⟩ = some (.map (some m0)) := by show w.cell? _ = _; simp [World.cell?, hwd]
  have hb0 : Below w.heap.size w (w.alloc (.map es cl)).drew := ((Below.refl _ w).alloc (Nat.le_refl _) _).drew
  have hs1 : (w.alloc (.map es cl)).drew.heap.size = w.heap.size + 1 := by show (w.heap.push _).size = _; simp
  have hnew : (w.alloc (.map es cl)).drew.heap[w.heap.size]? = some (.map es cl) := by show (w.heap.push _)[_]? = _; rw [Array.getElem?_push, if_pos rfl]
  have hcut := cut_both (h.below hb0) n hn hsyn hV hK G N (fun t ht hx => ⟨(hG t ht hx).1.below hb0, (hG t ht hx).2⟩) hN
  rw [hs1] at hcut
  have HCut := Lib.hid hcut
  have HCl0 : Hid (Calls Try.prog 38 #[.map (some m0)] w.drew fun e w' => e = .returned (.map (some w.heap.size)) ∧ w' = (w.alloc (.map es cl)).drew) := Lib.hid ((mclone_some m0 es cl w.drew hm0).mono fun e w' h => ⟨h.1, h.2⟩)
  have HK : Hid (w.drew.cell? ⟨b, 0, none⟩ = some (.int .i64 now) ∧ w.drew.cell? ⟨b, 1, none⟩ = some (.int .i64 stamp) ∧ w.drew.cell? ⟨b, 2, none⟩ = some (.map (some m0))) := Lib.hid ⟨k0, k1, k2⟩
  have HCl : Hid (∀ W, Below w.heap.size w.drew W → W.cell? ⟨b, 0, none⟩ = some (.int .i64 now) ∧ W.cell? ⟨b, 1, none⟩ = some (.int .i64 stamp) ∧ W.cell? ⟨b, 2, none⟩ = some (.map (some m0))) := Lib.hid (fun W hW => ⟨by rw [hW.cell (p := ⟨b, 0, none⟩) hbl]; exact k0, by rw [hW.cell (p := ⟨b, 1, none⟩) hbl]; exact k1, by rw [hW.cell (p := ⟨b, 2, none⟩) hbl]; exact k2⟩)
  have hb1 : Below w.heap.size w.drew (w.alloc (.map es cl)).drew := ⟨rfl, rfl, rfl, by show w.heap.size ≤ (w.heap.push _).size; simp, fun k hk => heap_alloc_lt w _ k hk⟩
  have HB1 := Lib.hid hb1
  have HNew := Lib.hid hnew
  have HS1 := Lib.hid hs1
  have HM0 := Lib.hid hm0
  clear h hG hwd hb0 hcut hb1 hnew hm0
  go_enter Try.func23, Try.ntmps23
  go_upto_region 3 with (fail)
  go_region_held3 (fun w' => w'.cell? ⟨b, 0, none⟩ = some (.int .i64 now) ∧ w'.cell? ⟨b, 1, none⟩ = some (.int .i64 stamp) ∧ w'.cell? ⟨b, 2, none⟩ = some (.map (some m0))) (first | with_reducible exact HK.out | with_reducible exact HK1.out | with_reducible exact HKa.out _) (first | (go_at_call 38; refine HCl0.out.mono ?_; rintro e w2 ⟨rfl, hw2⟩; obtain rfl := hw2; have HK1 := Lib.hid (HCl.out _ HB1.out)) | (go_at_call 39; refine HCut.out.mono ?_; rintro e w3 ⟨mf, D', rfl, hm3, hl3, hb3⟩; have hbw3 := HB1.out.trans (hb3.mono (Nat.le_succ _)); have HK := Lib.hid (HCl.out w3 hbw3); have HKa := Lib.hid (fun o => HCl.out (w3.alloc o) (hbw3.alloc hbw3.size o)); have HM3 := Lib.hid hm3; have HL3 := Lib.hid hl3; have HB3 := Lib.hid hb3; clear hm3 hl3 hb3 hbw3))
  go_wp2
  go_ret
  have hsz : w.heap.size + 1 ≤ w3.heap.size := by have := HB3.out.size; rw [HS1.out] at this; exact this
  have hal : Below w3.heap.size w3 (w3.alloc (.cells #[.int .i64 now, .int .i64 stamp, .map (some w.heap.size), .slice none 0 0, .slice none 0 0, .map (some mf), .int .i64 (N : Int), .slice none 0 0] 63)) := (Below.refl _ w3).alloc (Nat.le_refl _) _
  obtain ⟨left, hO, hl⟩ := HL3.out
  have hm := HM3.out
  refine ⟨w3.heap.size, mf, D', rfl, hsz, heap_alloc_new w3 _, hm.same (fun q hq => ?_), ⟨left, hO.below hal, hl⟩, ?_, ?_⟩
  · obtain rfl := Option.some.inj hq
    exact heap_alloc_lt _ _ _ hm.lt
  · exact (((Below.refl _ w).drew).trans (HB1.out.trans (HB3.out.mono (Nat.le_succ _)))).alloc (Nat.le_of_succ_le hsz) _
  · exact (heap_alloc_lt _ _ _ hsz).trans ((HB3.out.block w.heap.size (Nat.lt_succ_self _)).trans HNew.out)
end
end Go.Proofs.Ytaaiicfclaeapaa

namespace Go.Proofs.Ytaaiicfclaeapaa
open Go.RowKit Go.Mp Go.Rb Go.Lib
/-- A world's block. -/
def W8 (w : World) (b : Nat) (c0 : Value) (st : Int) (mp : Option Nat) (c3 c4 c5 c6 c7 : Value) : Prop := w.heap[b]? = some (.cells #[c0, .int .i64 st, .map mp, c3, c4, c5, c6, c7] 63 (0, 0))
def ChangeX (w : World) (b : Nat) (c0 : Value) (st : Int) (mp : Option Nat) (c3 c4 c5 c6 c7 : Value) (F : ByteArray → Option Value) (e : Ending) (w' : World) : Prop :=
  e = .returned (.tuple #[]) ∧ ∃ m, (mp = some m ∨ (mp = none ∧ w.heap.size ≤ m)) ∧ W8 w' b c0 st (some m) c3 c4 c5 c6 c7 ∧ m ≠ b ∧ MapAt w' m F ∧ Turned w w' b mp
set_option maxHeartbeats 1000000 in
set_option maxRecDepth 100000 in
theorem change_some_x (c0 c3 c4 c5 c6 c7 : Value) (b m : Nat) (st : Int) (F : ByteArray → Option Value) (p : ByteArray) (body : Value) (th : Bool) (w : World) (hh : W8 w b c0 st (some m) c3 c4 c5 c6 c7) (hne : m ≠ b) (hm : MapAt w m F) (hst : 0 ≤ st) (hst2 : st ≤ 1000000) :
    Calls Try.prog 30 #[.pointer (some ⟨b, 0, none⟩), .string p, .agg #[body, .int .i64 0, .bool th]] w (ChangeX w b c0 (st + 1) (some m) c3 c4 c5 c6 c7 (upd F p (.agg #[body, .int .i64 (st + 1), .bool th]))) := by
  unfold W8 at hh
  have hb : b < w.heap.size := (Array.getElem?_eq_some_iff.1 hh).1
  have hml := hm.lt
  have k1 : w.cell? ⟨b, 1, none⟩ = some (.int .i64 st) := by simp [World.cell?, hh]
  have k2 : w.cell? ⟨b, 2, none⟩ = some (.map (some m)) := by simp [World.cell?, hh]
  have f1 : w.frozen? ⟨b, 1, none⟩ = false := by simp [World.frozen?, hh]
  have HH := Lib.hid hh
  have HM := Lib.hid hm
  clear hh hm
  have e79 := eql79_some m
  go_enter Try.func30, Try.ntmps30
  go_wp2
  refine region_tail 6 (by kernel_rfl) (by kernel_rfl) ?_
  simp only [List.take_succ_cons, List.take_zero, List.drop_succ_cons, List.drop_zero]
  repeat still_step
  refine wpStill_nil ?_
  refine wpList_mapUpdate_at rfl _ _ _ _ rfl Try.underlying57 Try.underlying9 rfl (HM.out.same (by
    show ((w.setCell _ _).alloc _).heap[m]? = _
    rw [heap_alloc_lt _ _ _ (by rw [size_setCell']; exact hml), heap_setCell_ne _ _ _ _ _ hne])) rfl rfl ?_
  intro w9 hm9 hs9 hh9 ho9 ht9 hu9
  go_wp2
  go_end0
  refine ⟨rfl, m, .inl rfl, ?_, hne, hm9, ?_⟩
  · unfold W8
    rw [hh9 b (fun e => hne e.symm)]
    show ((w.setCell _ _).alloc _).heap[b]? = _
    rw [heap_alloc_lt _ _ _ (by rw [size_setCell']; exact hb), heap_setCell_eq _ _ _ _ _ _ _ HH.out]
    rfl
  · refine ⟨ho9, ht9, hu9, ?_, fun j hj hjb hjm => ?_⟩
    · rw [hs9]
      show w.heap.size ≤ ((w.setCell _ _).heap.push _).size
      rw [Array.size_push, size_setCell']
      omega
    · rw [hh9 j (fun e => hjm (by rw [e]))]
      show ((w.setCell _ _).alloc _).heap[j]? = _
      rw [heap_alloc_lt _ _ _ (by rw [size_setCell']; exact hj), heap_setCell_ne _ _ _ _ _ hjb]
set_option maxHeartbeats 1000000 in
set_option maxRecDepth 100000 in
theorem change_none_x (c0 c3 c4 c5 c6 c7 : Value) (b : Nat) (st : Int) (F : ByteArray → Option Value) (p : ByteArray) (body : Value) (th : Bool) (w : World) (hh : W8 w b c0 st none c3 c4 c5 c6 c7) (hm : ∀ k, F k = none) (hst : 0 ≤ st) (hst2 : st ≤ 1000000) :
    Calls Try.prog 30 #[.pointer (some ⟨b, 0, none⟩), .string p, .agg #[body, .int .i64 0, .bool th]] w (ChangeX w b c0 (st + 1) none c3 c4 c5 c6 c7 (upd F p (.agg #[body, .int .i64 (st + 1), .bool th]))) := by
  unfold W8 at hh
  have hb : b < w.heap.size := (Array.getElem?_eq_some_iff.1 hh).1
  have k1 : w.cell? ⟨b, 1, none⟩ = some (.int .i64 st) := by simp [World.cell?, hh]
  have k2 : w.cell? ⟨b, 2, none⟩ = some (.map none) := by simp [World.cell?, hh]
  have f1 : w.frozen? ⟨b, 1, none⟩ = false := by simp [World.frozen?, hh]
  have f2 : w.frozen? ⟨b, 2, none⟩ = false := by simp [World.frozen?, hh]
  have HH := Lib.hid hh
  have HM := Lib.hid hm
  clear hh hm
  have e79 := eql79_none
  have hmm := @run_makeMap Try.prog
  go_enter Try.func30, Try.ntmps30
  go_wp2
  refine region_tail 6 (by kernel_rfl) (by kernel_rfl) ?_
  simp only [List.take_succ_cons, List.take_zero, List.drop_succ_cons, List.drop_zero]
  repeat still_step
  refine wpStill_nil ?_
  have hsz : (((w.setCell ⟨b, 1, none⟩ (.int .i64 (st + 1))).setCell ⟨b, 2, none⟩ (.map (some (w.heap.size + 1)))).alloc (.cells #[body, .int .i64 (st + 1), .bool th] 67)).heap.size = w.heap.size + 1 := by
    show (Array.push _ _).size = _
    rw [Array.size_push, size_setCell', size_setCell']
  have hF : F = fun _ => none := funext HM.out
  refine wpList_mapUpdate_at (b := w.heap.size + 1) (F := F) rfl _ _ _ _ rfl Try.underlying57 Try.underlying9 rfl (by
    have := MapAt.made (((w.setCell ⟨b, 1, none⟩ (.int .i64 (st + 1))).setCell ⟨b, 2, none⟩ (.map (some (w.heap.size + 1)))).alloc (.cells #[body, .int .i64 (st + 1), .bool th] 67))
    rw [hsz] at this
    rw [hF]
    exact this.same rfl) rfl rfl ?_
  intro w9 hm9 hs9 hh9 ho9 ht9 hu9
  have hold : ∀ j, j < w.heap.size → (((((w.setCell ⟨b, 1, none⟩ (.int .i64 (st + 1))).setCell ⟨b, 2, none⟩ (.map (some (w.heap.size + 1)))).alloc (.cells #[body, .int .i64 (st + 1), .bool th] 67)).alloc (.map #[] 0)).drew).heap[j]? = ((w.setCell ⟨b, 1, none⟩ (.int .i64 (st + 1))).setCell ⟨b, 2, none⟩ (.map (some (w.heap.size + 1)))).heap[j]? := by
    intro j hj
    show (World.alloc _ _).heap[j]? = _
    rw [heap_alloc_lt _ _ _ (by rw [hsz]; omega), heap_alloc_lt _ _ _ (by rw [size_setCell', size_setCell']; exact hj)]
  have HOLD := Lib.hid hold
  have HSZ := Lib.hid hsz
  have HS9 := Lib.hid hs9
  clear hold hsz hs9 hF
  go_wp2
  go_end0
  refine ⟨rfl, w.heap.size + 1, .inr ⟨rfl, by omega⟩, ?_, by omega, hm9, ?_⟩
  · unfold W8
    rw [hh9 b (by omega), HOLD.out b hb, heap_setCell_eq _ _ _ _ _ _ _ (heap_setCell_eq _ _ _ _ _ _ _ HH.out)]
    rfl
  · refine ⟨ho9, ht9, hu9, ?_, fun j hj hjb hjm => ?_⟩
    · rw [HS9.out]
      show w.heap.size ≤ (Array.push _ _).size
      rw [Array.size_push, HSZ.out]
      omega
    · rw [hh9 j (by omega), HOLD.out j hj, heap_setCell_ne _ _ _ _ _ hjb, heap_setCell_ne _ _ _ _ _ hjb]
/-- What a file says: its bytes, its stamp, is it there. -/
abbrev FileT := List UInt8 × Int × Bool
/-- Files that lie in the blocks of S alone. -/
def FilesIn (S : Nat → Prop) (w : World) (b : Nat) (mp : Option Nat) (T : ByteArray → Option FileT) : Prop :=
  ∃ F : ByteArray → Option Value, (match mp with | none => ∀ k, F k = none | some m => m ≠ b ∧ S m ∧ MapAt w m F) ∧
    ∀ k, match T k with
      | none => F k = none
      | some (l, st, th) => ∃ (a : Option Addr) (n c : Nat), F k = some (.agg #[.slice a n c, .int .i64 st, .bool th]) ∧ RB 0 w (.slice a n c) l ∧ ∀ q, a = some q → S q.block
theorem FilesIn.same {S S' : Nat → Prop} {w w' : World} {b : Nat} {mp : Option Nat} {T : ByteArray → Option FileT} (h : FilesIn S w b mp T) (hS : ∀ k, S k → S' k) (hh : ∀ k, S k → w'.heap[k]? = w.heap[k]?) : FilesIn S' w' b mp T := by
  obtain ⟨F, h1, h2⟩ := h
  refine ⟨F, ?_, fun k => ?_⟩
  · cases mp with
    | none => exact h1
    | some m => exact ⟨h1.1, hS _ h1.2.1, h1.2.2.same (hh m h1.2.1)⟩
  · have := h2 k
    cases hT : T k with
    | none => rw [hT] at this; exact this
    | some x =>
      obtain ⟨l, st, th⟩ := x
      rw [hT] at this
      obtain ⟨a, n, c, e, hr, hs⟩ := this
      exact ⟨a, n, c, e, RB.same hr (fun q n' c' e2 => hh _ (hs q (by injection e2))), fun q e2 => hS _ (hs q e2)⟩
def updT (T : ByteArray → Option FileT) (s : ByteArray) (x : FileT) : ByteArray → Option FileT := fun t => if t = s then some x else T t
/-- What changing a file leaves. -/
def FilesR (S : Nat → Prop) (w : World) (b : Nat) (c0 : Value) (st : Int) (mp : Option Nat) (c3 c4 c5 c6 c7 : Value) (T : ByteArray → Option FileT) (e : Ending) (w' : World) : Prop :=
  e = .returned (.tuple #[]) ∧ ∃ m, W8 w' b c0 st (some m) c3 c4 c5 c6 c7 ∧ FilesIn (fun k => S k ∨ (w.heap.size ≤ k ∧ k < w'.heap.size)) w' b (some m) T ∧ w'.os = w.os ∧ w'.tape = w.tape ∧ w'.output = w.output ∧ w.heap.size ≤ w'.heap.size ∧ ∀ k, k < w.heap.size → k ≠ b → ¬ S k → w'.heap[k]? = w.heap[k]?
section
variable {S : Nat → Prop} {c0 c3 c4 c5 c6 c7 : Value} {b : Nat} {st : Int} {mp : Option Nat} {T : ByteArray → Option FileT}
theorem change_x {w : World} (hh : W8 w b c0 st mp c3 c4 c5 c6 c7) (hf : FilesIn S w b mp T) (hSb : ¬ S b) (hSl : ∀ k, S k → k < w.heap.size) (hst : 0 ≤ st) (hst2 : st ≤ 1000000) (p : ByteArray) (a : Option Addr) (n c : Nat) (l : List UInt8) (th : Bool) (hr : RB 0 w (.slice a n c) l) (ha : ∀ q, a = some q → S q.block) :
    Calls Try.prog 30 #[.pointer (some ⟨b, 0, none⟩), .string p, .agg #[.slice a n c, .int .i64 0, .bool th]] w (FilesR S w b c0 (st + 1) mp c3 c4 c5 c6 c7 (updT T p (l, st + 1, th))) := by
  obtain ⟨F, h1, h2⟩ := hf
  have hch : Calls Try.prog 30 #[.pointer (some ⟨b, 0, none⟩), .string p, .agg #[.slice a n c, .int .i64 0, .bool th]] w (ChangeX w b c0 (st + 1) mp c3 c4 c5 c6 c7 (upd F p (.agg #[.slice a n c, .int .i64 (st + 1), .bool th]))) := by
    cases mp with
    | none => exact change_none_x c0 c3 c4 c5 c6 c7 b st F p _ th w hh h1 hst hst2
    | some m => exact change_some_x c0 c3 c4 c5 c6 c7 b m st F p _ th w hh h1.1 h1.2.2 hst hst2
  refine hch.mono fun e w' h => ?_
  obtain ⟨he, m, hm, hw8, hmb, hat, ht⟩ := h
  have hnm : ∀ k, k < w.heap.size → k ≠ b → ¬ S k → w'.heap[k]? = w.heap[k]? := fun k hk hkb hks => ht.same k hk hkb (fun e => by
    cases mp with
    | none => cases e
    | some m' => cases e; exact hks h1.2.1)
  have hml : m < w'.heap.size := hat.lt
  have keep : ∀ (a' : Option Addr) (n' c' : Nat) (l' : List UInt8), RB 0 w (.slice a' n' c') l' → (∀ q, a' = some q → S q.block) → RB 0 w' (.slice a' n' c') l' := fun a' n' c' l' hr' hs' => RB.same hr' (fun q n2 c2 e2 => by
    injection e2 with e3
    subst e3
    obtain ⟨_, _, _, _, _, cur, fr, hcur⟩ := RB.obj hr'
    refine ht.same _ (hSl _ (hs' q rfl)) (fun e => hSb (e ▸ hs' q rfl)) (fun e => ?_)
    cases mp with
    | none => cases e
    | some m' =>
      cases e
      obtain ⟨ms, clk, hmm, _⟩ := h1.2.2
      rw [hmm] at hcur
      cases hcur)
  refine ⟨he, m, hw8, ⟨_, ⟨hmb, ?_, hat⟩, fun k => ?_⟩, ht.os, ht.tape, ht.output, ht.size, hnm⟩
  · rcases hm with hm | ⟨hm, h3⟩
    · subst hm; exact .inl h1.2.1
    · exact .inr ⟨h3, hml⟩
  · by_cases hk : k = p
    · subst hk
      simp only [updT, upd, if_true]
      exact ⟨a, n, c, rfl, keep a n c l hr ha, fun q e => .inl (ha q e)⟩
    · have := h2 k
      simp only [updT, upd, if_neg hk]
      cases hT : T k with
      | none => rw [hT] at this; exact this
      | some x =>
        obtain ⟨l', st', th'⟩ := x
        rw [hT] at this
        obtain ⟨a', n', c', e, hr', hs'⟩ := this
        exact ⟨a', n', c', e, keep a' n' c' l' hr' hs', fun q e2 => .inl (hs' q e2)⟩
end
end Go.Proofs.Ytaaiicfclaeapaa

namespace Go.Proofs.Ytaaiicfclaeapaa
open Go.RowKit Go.Mp Go.Rb Go.Lib
theorem W8.lt {w : World} {b : Nat} {c0 : Value} {st : Int} {mp : Option Nat} {c3 c4 c5 c6 c7 : Value} (h : W8 w b c0 st mp c3 c4 c5 c6 c7) : b < w.heap.size := (Array.getElem?_eq_some_iff.1 h).1
theorem RB.blk {B : Nat} {w : World} {a : Option Addr} {n c : Nat} {l : List UInt8} (h : RB B w (.slice a n c) l) {q : Addr} (e : a = some q) : B ≤ q.block ∧ q.block < w.heap.size := by
  subst e
  obtain ⟨_, _, h1, _, _, cur, fr, hc⟩ := RB.obj h
  exact ⟨h1, (Array.getElem?_eq_some_iff.1 hc).1⟩
section
variable {S : Nat → Prop} {c0 c3 c4 c5 c6 c7 : Value} {b : Nat} {st : Int} {mp : Option Nat} {T : ByteArray → Option FileT}
set_option maxRecDepth 100000 in
theorem remove_x {w : World} (hh : W8 w b c0 st mp c3 c4 c5 c6 c7) (hf : FilesIn S w b mp T) (hSb : ¬ S b) (hSl : ∀ k, S k → k < w.heap.size) (hst : 0 ≤ st) (hst2 : st ≤ 1000000) (p : ByteArray) :
    Calls Try.prog 11 #[.pointer (some ⟨b, 0, none⟩), .string p] w (FilesR S w b c0 (st + 1) mp c3 c4 c5 c6 c7 (updT T p ([], st + 1, false))) := by
  have HC := Lib.hid (change_x hh hf hSb hSl hst hst2 p none 0 0 [] false (.inl ⟨rfl, rfl⟩) (fun q e => by cases e))
  clear hh hf
  go_enter Try.func11, Try.ntmps11
  go_wp2_with (go_at_call 30; refine HC.out.mono ?_; rintro e w' ⟨rfl, h3⟩)
  go_end0
  exact ⟨rfl, h3⟩
set_option maxRecDepth 100000 in
theorem put_x {w : World} (hh : W8 w b c0 st mp c3 c4 c5 c6 c7) (hf : FilesIn S w b mp T) (hSb : ¬ S b) (hSl : ∀ k, S k → k < w.heap.size) (hst : 0 ≤ st) (hst2 : st ≤ 1000000) (p : ByteArray) (a : Option Addr) (n c : Nat) (l : List UInt8) (hr : RB 0 w (.slice a n c) l) (hl : l.length ≤ 1000000) :
    Calls Try.prog 9 #[.pointer (some ⟨b, 0, none⟩), .string p, .slice a n c] w (FilesR S w b c0 (st + 1) mp c3 c4 c5 c6 c7 (updT T p (l, st + 1, true))) := by
  have HCl := Lib.hid (clone_rb hr hl)
  have hbl := hh.lt
  have HC : Hid (∀ w1 p1 c1, RB w.heap.size w1 (.slice p1 l.length c1) l → Below w.heap.size w w1 → Calls Try.prog 30 #[.pointer (some ⟨b, 0, none⟩), .string p, .agg #[.slice p1 l.length c1, .int .i64 0, .bool true]] w1 (FilesR S w b c0 (st + 1) mp c3 c4 c5 c6 c7 (updT T p (l, st + 1, true)))) := Lib.hid (fun w1 p1 c1 hr1 hb1 => by
    have hs := hb1.size
    refine (change_x (S := fun k => S k ∨ (w.heap.size ≤ k ∧ k < w1.heap.size)) ((hb1.block b hbl).trans hh) (hf.same (fun k hk => .inl hk) (fun k hk => hb1.block k (hSl k hk))) (fun h => h.elim hSb (fun h => by omega)) (fun k h => h.elim (fun h => Nat.lt_of_lt_of_le (hSl k h) hs) (fun h => h.2)) hst hst2 p p1 l.length c1 l true (RB.base hr1 (Nat.zero_le _)) (fun q e => .inr (RB.blk hr1 e))).mono fun e w2 h => ?_
    obtain ⟨he, m, h1, h2, o1, o2, o3, o4, o5⟩ := h
    refine ⟨he, m, h1, h2.same (fun k hk => ?_) (fun _ _ => rfl), o1.trans hb1.os, o2.trans hb1.tape, o3.trans hb1.output, Nat.le_trans hs o4, fun k hk hkb hks => (o5 k (by omega) hkb (fun h => h.elim hks (fun h => by omega))).trans (hb1.block k hk)⟩
    rcases hk with (hk | hk) | hk
    · exact .inl hk
    · exact .inr ⟨hk.1, by omega⟩
    · exact .inr ⟨by omega, hk.2⟩)
  clear hh hf hr
  go_enter Try.func9, Try.ntmps9
  go_wp2_with (first | (go_at_call 31; refine HCl.out.mono ?_; rintro e w1 ⟨p1, c1, rfl, hr1, hb1⟩; have HR1 := Lib.hid hr1; have HB1 := Lib.hid hb1; clear hr1 hb1) | (go_at_call 30; refine (HC.out w1 p1 c1 HR1.out HB1.out).mono ?_; rintro e w' ⟨rfl, h3⟩))
  go_end0
  exact ⟨rfl, h3⟩
theorem FilesIn.look {w : World} (hf : FilesIn S w b mp T) (p : ByteArray) (l : List UInt8) (s : Int) (th : Bool) (hT : (T p).getD ([], 0, false) = (l, s, th)) : ∃ (a : Option Addr) (n c : Nat), (Instr.lookup 57 (.map mp) (.string p) false).run Try.prog w = .ok (.agg #[.slice a n c, .int .i64 s, .bool th]) w ∧ RB 0 w (.slice a n c) l := by
  obtain ⟨F, h1, h2⟩ := hf
  have hlk : (Instr.lookup 57 (.map mp) (.string p) false).run Try.prog w = .ok ((F p).getD zFile) w := by
    cases mp with
    | none =>
      have : F p = none := h1 p
      rw [this]
      exact lookup_nil Try.underlying57 Try.underlying9 (zero89 w) p
    | some m => exact MapAt.lookup h1.2.2 Try.underlying57 Try.underlying9 (zero89 w) p
  have := h2 p
  cases hp : T p with
  | none =>
    rw [hp] at this hT
    cases hT
    rw [this] at hlk
    exact ⟨none, 0, 0, hlk, .inl ⟨rfl, rfl⟩⟩
  | some x =>
    obtain ⟨l', st', th'⟩ := x
    rw [hp] at this hT
    cases hT
    obtain ⟨a, n, c, e, hr, _⟩ := this
    rw [e] at hlk
    exact ⟨a, n, c, hlk, hr⟩
set_option maxRecDepth 100000 in
theorem read_x {w : World} (hh : W8 w b c0 st mp c3 c4 c5 c6 c7) (hf : FilesIn S w b mp T) (p : ByteArray) (l : List UInt8) (s : Int) (th : Bool) (hT : (T p).getD ([], 0, false) = (l, s, th)) (hl : l.length ≤ 1000000) :
    Calls Try.prog 26 #[.pointer (some ⟨b, 0, none⟩), .string p] w fun e w' => ∃ p1 c', e = .returned (.tuple #[.slice p1 l.length c', .int .i64 s, .bool th]) ∧ RB w.heap.size w' (.slice p1 l.length c') l ∧ Below w.heap.size w w' := by
  obtain ⟨a, n, c, hlook2, hr⟩ := hf.look p l s th hT
  have hb := hh.lt
  have k2 : w.cell? ⟨b, 2, none⟩ = some (.map mp) := by unfold W8 at hh; simp [World.cell?, hh]
  have HR0 := Lib.hid hr
  clear hh hf hr
  go_enter Try.func26, Try.ntmps26
  go_wp2
  have hbo : ∀ o, Below w.heap.size w (w.alloc o) := fun o => (Below.refl _ w).alloc (Nat.le_refl _) o
  have HS0 : Hid (∀ W, Below (w.alloc (.cells #[.slice a n c, .int .i64 s, .bool th] 67)).heap.size (w.alloc (.cells #[.slice a n c, .int .i64 s, .bool th] 67)) W → W.cell? ⟨w.heap.size, 0, none⟩ = some (.slice a n c) ∧ W.cell? ⟨w.heap.size, 1, none⟩ = some (.int .i64 s) ∧ W.cell? ⟨w.heap.size, 2, none⟩ = some (.bool th)) := Lib.hid fun W hW => by
    have hb : ∀ j y, (#[.slice a n c, .int .i64 s, .bool th] : Array Value)[j]? = some y → W.cell? ⟨w.heap.size, j, none⟩ = some y := fun j y hy => by
      rw [hW.cell (p := ⟨w.heap.size, j, none⟩) (by show w.heap.size < (w.heap.push _).size; simp), World.cell?_alloc_new]; exact hy
    exact ⟨hb 0 _ rfl, hb 1 _ rfl, hb 2 _ rfl⟩
  have HC2 : Hid (Calls Try.prog 31 #[.slice a n c] (w.alloc (.cells #[.slice a n c, .int .i64 s, .bool th] 67)).drew fun e w' => ∃ p c', e = .returned (.slice p l.length c') ∧ RB w.heap.size w' (.slice p l.length c') l ∧ Below (w.alloc (.cells #[.slice a n c, .int .i64 s, .bool th] 67)).heap.size (w.alloc (.cells #[.slice a n c, .int .i64 s, .bool th] 67)) w') := Lib.hid (by
    have hr0 : RB 0 w (.slice a n c) l := HR0.out
    exact (clone_rb (hr0.below (hbo _).drew) hl).mono fun e w' ⟨p, c', he, h1, h2⟩ => ⟨p, c', he, RB.base h1 (hbo _).size, (Below.refl _ _).drew.trans h2⟩)
  go_region_held3 (fun W => W.cell? ⟨w.heap.size, 0, none⟩ = some (.slice a n c) ∧ W.cell? ⟨w.heap.size, 1, none⟩ = some (.int .i64 s) ∧ W.cell? ⟨w.heap.size, 2, none⟩ = some (.bool th)) (first | exact HS0.out _ (Below.refl _ _) | exact HS0.out _ (Below.refl _ _).drew | exact HS1.out) (((go_at_call 31; refine HC2.out.mono ?_; rintro e w1 ⟨p1, c1, rfl, hr1, hb1⟩; have HS1 := Lib.hid (HS0.out w1 hb1))))
  all_goals (try go_wp2)
  all_goals go_ret3
  all_goals exact ⟨p1, c1, rfl, hr1, (hbo _).trans (hb1.mono (hbo _).size)⟩
end
end Go.Proofs.Ytaaiicfclaeapaa

namespace Go.Proofs.Ytaaiicfclaeapaa
open Go.RowKit Go.Mp Go.Rb Go.Lib
/-- The disk stays where the world's other cells change, and what it keeps clear of. -/
theorem DKX.world {X : Nat → Prop} {w w' : World} {b B K : Nat} {c c' : Value × Value × Value × Value × Value} {syn : Nat} {F : ByteArray → List UInt8} {UL : List (ByteArray × List UInt8)} (h : DKX X w b B K c syn F UL) (hb : ∀ mp uv, WD w b c mp syn uv → WD w' b c' mp syn uv) (hh : ∀ k, k < w.heap.size → k ≠ b → ¬ X k → w'.heap[k]? = w.heap[k]?) : DKX X w' b B K c' syn F UL := by
  obtain ⟨mp, D, V, p, cap, hd, hx⟩ := h
  exact ⟨mp, D, V, p, cap, hd.at_own (hb _ _ hd.wd) (fun k hkb hk => hh k (hd.own_lt hk).2 hkb (hx k hk)), hx⟩
/-- The clock, n later. -/
def advT (now n : Int) : Int := if n < 1 then now else if n ≤ 1152921504606846976 - now then now + n else 1152921504606846976
set_option maxRecDepth 100000 in
theorem advance_x {w : World} {b : Nat} {now st : Int} {mp : Option Nat} {c3 c4 c5 c6 c7 : Value} (hh : W8 w b (.int .i64 now) st mp c3 c4 c5 c6 c7) (h0 : 0 ≤ now) (h1 : now ≤ 1152921504606846976) (n : Int) (hn : -9223372036854775808 ≤ n ∧ n ≤ 9223372036854775807) :
    Calls Try.prog 7 #[.pointer (some ⟨b, 0, none⟩), .int .i64 n] w fun e w' => e = .returned (.tuple #[]) ∧ W8 w' b (.int .i64 (advT now n)) st mp c3 c4 c5 c6 c7 ∧ KX (fun k => k ≠ b) w w' := by
  have hb := hh.lt
  have HH := Lib.hid hh
  unfold W8 at hh
  have k0 : w.cell? ⟨b, 0, none⟩ = some (.int .i64 now) := by simp [World.cell?, hh]
  have f0 : w.frozen? ⟨b, 0, none⟩ = false := by simp [World.frozen?, hh]
  clear hh
  by_cases hn1 : n < 1
  · go_enter Try.func7, Try.ntmps7
    go_wp2
    refine bodyPost_ret (results_none rfl _ _ _) rfl ?_
    refine ⟨rfl, ?_, KX.refl _ _⟩
    unfold advT
    rw [if_pos hn1]
    exact HH.out
  · have hw1 : IntKind.i64.wrap (1152921504606846976 - now) = 1152921504606846976 - now := by simp [IntKind.wrap, IntKind.bits, IntKind.signed]; omega
    by_cases hle : n ≤ 1152921504606846976 - now
    · have hmin : ∀ (ats : Array TypeId) (ty : TypeId) (W : World), (Builtin.min_ ats ty #[.int .i64 n, .int .i64 (1152921504606846976 - now)]).run Try.prog W = .ok (.int .i64 n) W := fun ats ty W => by
        simp [Builtin.min_, Builtin.min2]
        omega
      have hw2 : IntKind.i64.wrap (now + n) = now + n := by simp [IntKind.wrap, IntKind.bits, IntKind.signed]; omega
      go_enter Try.func7, Try.ntmps7
      go_wp2
      go_region
      go_end0
      refine ⟨rfl, ?_, rfl, rfl, rfl, by show w.heap.size ≤ (w.setCell _ _).heap.size; rw [size_setCell']; exact Nat.le_refl _, fun k hk _ => heap_setCell_ne _ _ _ _ _ hk⟩
      unfold advT
      rw [if_neg (by omega), if_pos hle]
      exact heap_setCell_eq _ _ _ _ _ _ _ HH.out
    · have hmin : ∀ (ats : Array TypeId) (ty : TypeId) (W : World), (Builtin.min_ ats ty #[.int .i64 n, .int .i64 (1152921504606846976 - now)]).run Try.prog W = .ok (.int .i64 (1152921504606846976 - now)) W := fun ats ty W => by
        simp [Builtin.min_, Builtin.min2]
        omega
      have hw2 : IntKind.i64.wrap (now + (1152921504606846976 - now)) = now + (1152921504606846976 - now) := by simp [IntKind.wrap, IntKind.bits, IntKind.signed]; omega
      go_enter Try.func7, Try.ntmps7
      go_wp2
      go_region
      go_end0
      refine ⟨rfl, ?_, rfl, rfl, rfl, by show w.heap.size ≤ (w.setCell _ _).heap.size; rw [size_setCell']; exact Nat.le_refl _, fun k hk _ => heap_setCell_ne _ _ _ _ _ hk⟩
      unfold advT
      rw [if_neg (by omega), if_neg (by omega), show now + (1152921504606846976 - now) = 1152921504606846976 from by omega]
      exact heap_setCell_eq _ _ _ _ _ _ _ HH.out
end Go.Proofs.Ytaaiicfclaeapaa

namespace Go.Proofs.Ytaaiicfclaeapaa
open Go.RowKit Go.Mp Go.Rb Go.Lib
set_option maxRecDepth 100000 in
theorem copyD_any (dt : ByteArray) (lk : Bool) (a : Option Addr) (n c : Nat) (l : List UInt8) (w : World) (hr : RB 0 w (.slice a n c) l) (hl : l.length ≤ 1000000) :
    Calls Try.prog 33 #[.agg #[.string dt, .bool lk, .slice a n c]] w fun e w' => ∃ p1 c1, e = .returned (.agg #[.string dt, .bool lk, .slice p1 l.length c1]) ∧ RB w.heap.size w' (.slice p1 l.length c1) l ∧ Below w.heap.size w w' := by
  have hA : Below w.heap.size w ((w.alloc (.cells #[.string dt, .bool lk, .slice a n c] 42)).alloc (.cells #[.string ⟨#[]⟩, .bool false, .slice none 0 0] 42)) := ((Below.refl _ w).alloc (Nat.le_refl _) _).alloc (by show w.heap.size ≤ (w.heap.push _).size; simp) _
  have hs2 : ((w.alloc (.cells #[.string dt, .bool lk, .slice a n c] 42)).alloc (.cells #[.string ⟨#[]⟩, .bool false, .slice none 0 0] 42)).heap.size = w.heap.size + 2 := by show ((w.heap.push _).push _).size = _; simp
  have hx : ((w.alloc (.cells #[.string dt, .bool lk, .slice a n c] 42)).alloc (.cells #[.string ⟨#[]⟩, .bool false, .slice none 0 0] 42)).heap[w.heap.size]? = some (.cells #[.string dt, .bool lk, .slice a n c] 42 (0, 0)) := by
    show ((w.heap.push _).push _)[_]? = _
    rw [Array.getElem?_push, if_neg (by simp), Array.getElem?_push, if_pos rfl]
  have hy : ((w.alloc (.cells #[.string dt, .bool lk, .slice a n c] 42)).alloc (.cells #[.string ⟨#[]⟩, .bool false, .slice none 0 0] 42)).heap[w.heap.size + 1]? = some (.cells #[.string ⟨#[]⟩, .bool false, .slice none 0 0] 42 (0, 0)) := by
    show ((w.heap.push _).push _)[_]? = _
    rw [Array.getElem?_push, if_pos (by simp)]
  have HCl := Lib.hid (clone_rb (hr.below hA) hl)
  have HA := Lib.hid hA
  have HXY : Hid (∀ w3, Below ((w.alloc (.cells #[.string dt, .bool lk, .slice a n c] 42)).alloc (.cells #[.string ⟨#[]⟩, .bool false, .slice none 0 0] 42)).heap.size ((w.alloc (.cells #[.string dt, .bool lk, .slice a n c] 42)).alloc (.cells #[.string ⟨#[]⟩, .bool false, .slice none 0 0] 42)) w3 → w3.heap[w.heap.size]? = some (.cells #[.string dt, .bool lk, .slice a n c] 42 (0, 0)) ∧ w3.heap[w.heap.size + 1]? = some (.cells #[.string ⟨#[]⟩, .bool false, .slice none 0 0] 42 (0, 0)) ∧ w3.frozen? ⟨w.heap.size, 2, none⟩ = false ∧ w3.cell? ⟨w.heap.size, 2, none⟩ = some (.slice a n c)) := Lib.hid (fun w3 hb1 => by
    have x3 := (hb1.block w.heap.size (by rw [hs2]; omega)).trans hx
    have y3 := (hb1.block (w.heap.size + 1) (by rw [hs2]; omega)).trans hy
    exact ⟨x3, y3, by simp [World.frozen?, x3], by simp [World.cell?, x3]⟩)
  have HS2 := Lib.hid hs2
  clear hr hA hx hy hs2
  go_enter Try.func33, Try.ntmps33
  go_upto_region 2 with (go_at_call 31; refine HCl.out.mono ?_; rintro e w3 ⟨p1, c1, rfl, hr1, hb1⟩; obtain ⟨x3, y3, f3, c3⟩ := HXY.out w3 hb1; have X3 := Lib.hid x3; have Y3 := Lib.hid y3; clear x3 y3; have HB1 := Lib.hid hb1; have HR1 := Lib.hid hr1; clear hb1 hr1)
  have x4 : (w3.setCell ⟨w.heap.size, 2, none⟩ (.slice p1 l.length c1)).heap[w.heap.size]? = some (.cells #[.string dt, .bool lk, .slice p1 l.length c1] 42 (0, 0)) := heap_setCell_eq _ _ _ _ _ _ _ X3.out
  have y4 : (w3.setCell ⟨w.heap.size, 2, none⟩ (.slice p1 l.length c1)).heap[w.heap.size + 1]? = some (.cells #[.string ⟨#[]⟩, .bool false, .slice none 0 0] 42 (0, 0)) := (heap_setCell_ne _ _ _ _ _ (by omega)).trans Y3.out
  have r4 : RB w.heap.size (w3.setCell ⟨w.heap.size, 2, none⟩ (.slice p1 l.length c1)) (.slice p1 l.length c1) l := RB.same (RB.base HR1.out HA.out.size) (fun q n' c' e => by
    injection e with e1
    have := (RB.blk HR1.out e1).1
    exact heap_setCell_ne _ _ _ _ _ (by rw [HS2.out] at this; omega))
  have b4 : Below w.heap.size w (w3.setCell ⟨w.heap.size, 2, none⟩ (.slice p1 l.length c1)) := (HA.out.trans (HB1.out.mono HA.out.size)).setCell (p := ⟨w.heap.size, 2, none⟩) (Nat.le_refl _) _
  clear c3 f3
  generalize (w3.setCell ⟨w.heap.size, 2, none⟩ (.slice p1 l.length c1)) = w4 at *
  have q0 : w4.cell? ⟨w.heap.size, 0, none⟩ = some (.string dt) := by simp [World.cell?, x4]
  have q1 : w4.cell? ⟨w.heap.size, 1, none⟩ = some (.bool lk) := by simp [World.cell?, x4]
  have q2 : w4.cell? ⟨w.heap.size, 2, none⟩ = some (.slice p1 l.length c1) := by simp [World.cell?, x4]
  have g0 : w4.cell? ⟨w.heap.size + 1, 0, none⟩ = some (.string ⟨#[]⟩) := by simp [World.cell?, y4]
  have g1 : w4.cell? ⟨w.heap.size + 1, 1, none⟩ = some (.bool false) := by simp [World.cell?, y4]
  have g2 : w4.cell? ⟨w.heap.size + 1, 2, none⟩ = some (.slice none 0 0) := by simp [World.cell?, y4]
  have k0 : w4.frozen? ⟨w.heap.size + 1, 0, none⟩ = false := by simp [World.frozen?, y4]
  have k1 : w4.frozen? ⟨w.heap.size + 1, 1, none⟩ = false := by simp [World.frozen?, y4]
  have k2 : w4.frozen? ⟨w.heap.size + 1, 2, none⟩ = false := by simp [World.frozen?, y4]
  have Y4 := Lib.hid y4
  clear x4 y4
  have R4 := Lib.hid r4
  have B4 := Lib.hid b4
  clear r4 b4
  go_wp2
  have hx5 : (((w4.setCell ⟨w.heap.size + 1, 0, none⟩ (.string dt)).setCell ⟨w.heap.size + 1, 1, none⟩ (.bool lk)).setCell ⟨w.heap.size + 1, 2, none⟩ (.slice p1 l.length c1)).heap[w.heap.size + 1]? = some (.cells #[.string dt, .bool lk, .slice p1 l.length c1] 42 (0, 0)) := heap_setCell_eq _ _ _ _ _ _ _ (heap_setCell_eq _ _ _ _ _ _ _ (heap_setCell_eq _ _ _ _ _ _ _ Y4.out))
  refine bodyPost_ret (results_cell_row rfl _ _ (w.heap.size + 1) _ _ _ _ rfl hx5 Try.underlying42 rfl (by kernel_rfl)) rfl ?_
  refine ⟨p1, c1, rfl, RB.same R4.out (fun q n' c' e => ?_), ((B4.out.setCell (p := ⟨w.heap.size + 1, 0, none⟩) (Nat.le_succ _) _).setCell (p := ⟨w.heap.size + 1, 1, none⟩) (Nat.le_succ _) _).setCell (p := ⟨w.heap.size + 1, 2, none⟩) (Nat.le_succ _) _⟩
  obtain ⟨_, _, _, _, _, cur, fr, hcur⟩ := RB.obj (by injection e with e1; subst e1; exact R4.out)
  have hne : q.block ≠ w.heap.size + 1 := fun e2 => by
    rw [e2, Y4.out] at hcur
    injection hcur with hcur
    injection hcur with _ hcur
    exact absurd hcur (by decide)
  rw [heap_setCell_ne _ _ _ _ _ hne, heap_setCell_ne _ _ _ _ _ hne, heap_setCell_ne _ _ _ _ _ hne]
end Go.Proofs.Ytaaiicfclaeapaa

namespace Go.Proofs.Ytaaiicfclaeapaa
open Go.RowKit Go.Mp Go.Rb Go.Lib
/-- A stream: to whom, what was written, is it closed. -/
abbrev StmT := ByteArray × List UInt8 × Bool
def stC (x : StmT × Value) : List Value := [.string x.1.1, x.2, .bool x.1.2.2]
/-- Streams that lie in the blocks of S alone, each with bytes of its own. -/
structure StmIn (S : Nat → Prop) (w : World) (v : Value) (L : List StmT) (M : List (StmT × Value)) : Prop where
  map : M.map (·.1) = L
  row : w.ownsRow 0 72 3 v L.length (M.flatMap stC)
  own : ∀ q, v.ownBlock = some q → S q
  at_ : ∀ x ∈ M, ∃ (a : Option Addr) (n c : Nat), x.2 = .slice a n c ∧ RB 0 w (.slice a n c) x.1.2.1 ∧ ∀ q, a = some q → S q.block
  apart : ∀ (i j : Nat) x y a n c a' n' c', i ≠ j → M[i]? = some x → M[j]? = some y → x.2 = .slice (some a) n c → y.2 = .slice (some a') n' c' → a.block ≠ a'.block
theorem infoStm : (Try.prog.info? 72).map (fun i => (i.zero, i.size, i.bytes)) = some (some (.agg #[.string ⟨#[]⟩, .slice none 0 0, .bool false]), 3, 48) := by kernel_rfl
theorem new_cells3 (w : World) (x y z : Value) (e : TypeId) : ∀ j q, [x, y, z][j]? = some q → (w.alloc (.cells #[x, y, z] e)).cell? ((⟨w.heap.size, 0, none⟩ : Addr).add j) = some q := by
  intro j q hj
  have ha : (⟨w.heap.size, 0, none⟩ : Addr).add j = ⟨w.heap.size, j, none⟩ := by unfold Addr.add; split <;> simp_all
  rw [ha, World.cell?_alloc_new]
  simpa using hj
set_option maxHeartbeats 2000000 in
set_option maxRecDepth 100000 in
theorem open_x {S : Nat → Prop} {w : World} {b : Nat} {c0 : Value} {st : Int} {mp : Option Nat} {c3 v c5 c6 c7 : Value} {L : List StmT} {M : List (StmT × Value)} (hh : W8 w b c0 st mp c3 v c5 c6 c7) (hs : StmIn S w v L M) (hSb : ¬ S b) (hL : L.length ≤ 1000) (dt : ByteArray) :
    Calls Try.prog 14 #[.pointer (some ⟨b, 0, none⟩), .string dt] w fun e w' => e = .returned (.int .i64 (L.length : Int)) ∧ ∃ v' M', W8 w' b c0 st mp c3 v' c5 c6 c7 ∧ StmIn (fun k => S k ∨ (w.heap.size ≤ k ∧ k < w'.heap.size)) w' v' (L ++ [(dt, [], false)]) M' ∧ KX (fun k => k ≠ b ∧ ¬ S k) w w' := by
  obtain ⟨p, cap, hv⟩ : ∃ p cap, v = .slice p L.length cap := by
    rcases hs.row.2 with ⟨e, e2⟩ | ⟨g, cap, cur, e, _⟩
    · exact ⟨none, 0, by rw [e, e2]⟩
    · exact ⟨_, _, e⟩
  subst hv
  have hbl := hh.lt
  have HH := Lib.hid hh
  have HS := Lib.hid hs
  unfold W8 at hh
  have k4 : w.cell? ⟨b, 4, none⟩ = some (.slice p L.length cap) := by simp [World.cell?, hh]
  have f4 : w.frozen? ⟨b, 4, none⟩ = false := by simp [World.frozen?, hh]
  obtain ⟨ib, hi, hz0, hz1, hz2⟩ := info_parts' infoStm
  have k4b : (w.alloc (.cells #[.string dt, .slice none 0 0, .bool false] 72)).cell? ⟨b, 4, none⟩ = some (.slice p L.length cap) := by
    have : (w.alloc (.cells #[.string dt, .slice none 0 0, .bool false] 72)).heap[b]? = _ := (heap_alloc_lt w _ b hbl).trans hh
    simp [World.cell?, this]
  have hsz : (w.alloc (.cells #[.string dt, .slice none 0 0, .bool false] 72)).heap.size = w.heap.size + 1 := by show (w.heap.push _).size = _; simp
  have HG : Hid (∀ w4, (w.alloc (.cells #[.string dt, .slice none 0 0, .bool false] 72)).grownBy w4 (Value.slice p L.length cap).ownBlock → (∀ k, k < w.heap.size → ¬ S k → w4.heap[k]? = w.heap[k]?) ∧ w4.cell? ⟨b, 4, none⟩ = some (.slice p L.length cap) ∧ w4.frozen? ⟨b, 4, none⟩ = false) := Lib.hid (fun w4 hg4 => by
    have h1 : ∀ k, k < w.heap.size → ¬ S k → w4.heap[k]? = w.heap[k]? := fun k hk hks => (hg4.block k (by rw [hsz]; omega) (fun e => hks (hs.own k (by first | exact e | exact e.symm)))).trans (heap_alloc_lt w _ k hk)
    have h2 := (h1 b hbl hSb).trans hh
    exact ⟨h1, by simp [World.cell?, h2], by simp [World.frozen?, h2]⟩)
  clear hh hs
  go_enter Try.func14, Try.ntmps14
  go_upto_region 4 with (at_builtin; refine wpList_append_lies _ (by rfl) _ _ _ (by rfl) 0 72 ib (.agg #[.string ⟨#[]⟩, .slice none 0 0, .bool false]) 3 48 Try.underlying29 hi hz0 hz1 hz2 rfl (by decide) (.slice p L.length cap) L.length (M.flatMap stC) (by rfl) (World.ownsRow.alloc HS.out.row _) ⟨w.heap.size, 0, none⟩ 1 1 [.string dt, .slice none 0 0, .bool false] (by rfl) rfl (new_cells3 _ _ _ _ _) (by simp [Value.oneCell']) (by decide) (by unfold maxLen; omega) (by omega) (Nat.zero_le _) (w.heap.size + 1) hsz ?_; intro g4 cap4 w4 hown4 hg4 hat4 hlt4; obtain ⟨hb4, c4, f4'⟩ := HG.out w4 hg4; have HB4 := Lib.hid hb4; have HO4 := Lib.hid hown4; have HG4 := Lib.hid hg4; have HA4 := Lib.hid hat4; clear hb4 hown4 hg4 hat4)
  have hSo := HS.out
  have hgb : g4 ≠ b := by
    rcases HA4.out with h | h
    · exact fun e => hSb (e ▸ hSo.own g4 h)
    · omega
  have hw5 : W8 (w4.setCell ⟨b, 4, none⟩ (.slice (some ⟨g4, 0, none⟩) (L.length + 1) cap4)) b c0 st mp c3 (.slice (some ⟨g4, 0, none⟩) (L.length + 1) cap4) c5 c6 c7 := heap_setCell_eq _ _ _ _ _ _ _ ((HB4.out b hbl hSb).trans HH.out)
  have hne5 : ∀ k, k ≠ b → (w4.setCell ⟨b, 4, none⟩ (.slice (some ⟨g4, 0, none⟩) (L.length + 1) cap4)).heap[k]? = w4.heap[k]? := fun k hk => heap_setCell_ne _ _ _ _ _ hk
  have hs5 : (w4.setCell ⟨b, 4, none⟩ (.slice (some ⟨g4, 0, none⟩) (L.length + 1) cap4)).heap.size = w4.heap.size := size_setCell' _ _ _
  have ho5 : (w4.setCell ⟨b, 4, none⟩ (.slice (some ⟨g4, 0, none⟩) (L.length + 1) cap4)).os = w.os ∧ (w4.setCell ⟨b, 4, none⟩ (.slice (some ⟨g4, 0, none⟩) (L.length + 1) cap4)).tape = w.tape ∧ (w4.setCell ⟨b, 4, none⟩ (.slice (some ⟨g4, 0, none⟩) (L.length + 1) cap4)).output = w.output := ⟨HG4.out.os, HG4.out.tape, HG4.out.output⟩
  have hz4 : w.heap.size + 1 ≤ w4.heap.size := by have := HG4.out.size; rw [hsz] at this; exact this
  clear c4 f4'
  generalize (w4.setCell ⟨b, 4, none⟩ (.slice (some ⟨g4, 0, none⟩) (L.length + 1) cap4)) = w5 at *
  have HW5 := Lib.hid hw5
  have k5 : w5.cell? ⟨b, 4, none⟩ = some (.slice (some ⟨g4, 0, none⟩) (L.length + 1) cap4) := by unfold W8 at hw5; simp [World.cell?, hw5]
  have hwr : IntKind.i64.wrap (((L.length + 1 : Nat) : Int) - 1) = (L.length : Int) := by simp [IntKind.wrap, IntKind.bits, IntKind.signed]; omega
  have keep : ∀ (a : Option Addr) (n c : Nat) (l : List UInt8), RB 0 w (.slice a n c) l → (∀ q, a = some q → S q.block) → RB 0 w5 (.slice a n c) l := fun a n c l hr ha => RB.same hr (fun q n' c' e => by
    injection e with e1
    subst e1
    obtain ⟨_, _, _, _, _, cur, fr, hcur⟩ := RB.obj hr
    have hlt := (Array.getElem?_eq_some_iff.1 hcur).1
    have hob : (Value.slice p L.length cap).ownBlock ≠ some q.block := fun e => by
      rcases hSo.row.2 with ⟨e2, _⟩ | ⟨g, cp, cur2, e2, _, hg, _⟩
      · rw [e2] at e; cases e
      · rw [e2] at e
        have : g = q.block := by injection e
        rw [this, hcur] at hg
        injection hg with hg
        injection hg with _ hg
        exact absurd hg (by decide)
    exact (hne5 _ (fun e => hSb (e ▸ ha q rfl))).trans ((HG4.out.block q.block (by rw [hsz]; omega) (by first | exact hob | exact fun e => hob e.symm)).trans (heap_alloc_lt w _ _ hlt)))
  have HK := Lib.hid keep
  have HN5 := Lib.hid hne5
  clear hw5 keep hne5
  go_wp2
  go_ret
  refine ⟨by simp, .slice (some ⟨g4, 0, none⟩) (L.length + 1) cap4, M ++ [((dt, [], false), .slice none 0 0)], HW5.out, ?_, ho5.1, ho5.2.1, ho5.2.2, by omega, fun k hk hl => (HN5.out k hk.1).trans (HB4.out k hl hk.2)⟩
  exact {
    map := by rw [List.map_append, hSo.map]; rfl
    row := by
      have := HO4.out
      rw [List.length_append, List.flatMap_append]
      refine ⟨this.1, this.2.imp id (fun ⟨g, cp, cur, e, r1, r2, r3⟩ => ⟨g, cp, cur, e, r1, ?_, r3⟩)⟩
      have eg : g4 = g := by injection e with e1; injection e1 with e1; injection e1
      rw [← eg] at r2 ⊢
      exact (HN5.out g4 hgb).trans r2
    own := fun q e => by
      have eg : g4 = q := by injection e
      subst eg
      rcases HA4.out with h | h
      · exact .inl (hSo.own g4 h)
      · exact .inr ⟨by omega, by omega⟩
    at_ := fun x hx => by
      rcases List.mem_append.1 hx with hx | hx
      · obtain ⟨a, n, c, e, hr, ha⟩ := hSo.at_ x hx
        exact ⟨a, n, c, e, HK.out a n c _ hr ha, fun q e => .inl (ha q e)⟩
      · rw [List.mem_singleton.1 hx]
        exact ⟨none, 0, 0, rfl, .inl ⟨rfl, rfl⟩, fun q e => by cases e⟩
    apart := fun i j x y a n c a' n' c' hij hi' hj' e1 e2 => by
      have out : ∀ (i : Nat) (x : StmT × Value) a n c, (M ++ [((dt, [], false), Value.slice none 0 0)])[i]? = some x → x.2 = .slice (some a) n c → M[i]? = some x := fun i x a n c h e => by
        by_cases hi : i < M.length
        · rwa [List.getElem?_append_left hi] at h
        · rw [List.getElem?_append_right (by omega)] at h
          have hz : i - M.length = 0 := by
            have := (List.getElem?_eq_some_iff.1 h).1
            simp at this
            omega
          rw [hz] at h
          cases h
          cases e
      exact hSo.apart i j x y a n c a' n' c' hij (out i x _ _ _ hi' e1) (out j y _ _ _ hj' e2) e1 e2 }
end Go.Proofs.Ytaaiicfclaeapaa

namespace Go.Proofs.Ytaaiicfclaeapaa
open Go.RowKit Go.Mp Go.Rb Go.Lib
theorem stC_at : ∀ (M : List (StmT × Value)) (i j : Nat) (x : StmT × Value), M[i]? = some x → j < 3 → (M.flatMap stC)[i * 3 + j]? = (stC x)[j]?
  | [], i, j, x, h, _ => by simp at h
  | y :: M, 0, j, x, h, hj => by
    simp at h
    subst h
    rw [List.flatMap_cons, List.getElem?_append_left (by simp [stC]; omega)]
    simp
  | y :: M, i + 1, j, x, h, hj => by
    have h' : M[i]? = some x := by simpa using h
    rw [List.flatMap_cons, List.getElem?_append_right (by simp [stC]; omega)]
    have e : (i + 1) * 3 + j - (stC y).length = i * 3 + j := by simp [stC]; omega
    rw [e]
    exact stC_at M i j x h' hj
/-- Is stream k open? -/
def openB (L : List StmT) (k : Int) : Bool := if k < 0 then false else match L[k.toNat]? with
  | some x => !x.2.2
  | none => false
set_option maxRecDepth 100000 in
theorem isOpen_x {S : Nat → Prop} {w : World} {b : Nat} {c0 : Value} {st : Int} {mp : Option Nat} {c3 v c5 c6 c7 : Value} {L : List StmT} {M : List (StmT × Value)} (hh : W8 w b c0 st mp c3 v c5 c6 c7) (hs : StmIn S w v L M) (hL : L.length ≤ 1000) (k : Int) (hk : -9223372036854775808 ≤ k ∧ k ≤ 9223372036854775807) :
    Calls Try.prog 34 #[.pointer (some ⟨b, 0, none⟩), .int .i64 k] w fun e w' => e = .returned (.bool (openB L k)) ∧ w' = w := by
  obtain ⟨p, cap, hv⟩ : ∃ p cap, v = .slice p L.length cap := by
    rcases hs.row.2 with ⟨e, e2⟩ | ⟨g, cap, cur, e, _⟩
    · exact ⟨none, 0, by rw [e, e2]⟩
    · exact ⟨_, _, e⟩
  subst hv
  have k4 : w.cell? ⟨b, 4, none⟩ = some (.slice p L.length cap) := by unfold W8 at hh; simp [World.cell?, hh]
  clear hh
  by_cases h0 : k < 0
  · have ho : openB L k = false := by unfold openB; rw [if_pos h0]
    rw [ho]
    clear hs
    go_enter Try.func34, Try.ntmps34
    go_wp2
    go_ret
    exact ⟨rfl, rfl⟩
  · obtain ⟨i, rfl⟩ : ∃ i : Nat, k = (i : Int) := ⟨k.toNat, by omega⟩
    by_cases hi : i < L.length
    · obtain ⟨x, hx⟩ : ∃ x, M[i]? = some x := ⟨_, List.getElem?_eq_getElem (by have := congrArg List.length hs.map; simp at this; omega)⟩
      have hLx : L[i]? = some x.1 := by rw [← hs.map, List.getElem?_map, hx]; rfl
      have ho : openB L (i : Int) = !x.1.2.2 := by unfold openB; rw [if_neg h0]; simp [hLx]
      rw [ho]
      obtain ⟨g, rfl⟩ : ∃ g, p = some ⟨g, 0, none⟩ := by
        rcases hs.row.2 with ⟨e, e2⟩ | ⟨g, cap, cur, e, _⟩
        · omega
        · exact ⟨g, by injection e⟩
      have kc : w.cell? ⟨g, i * 3 + 2, none⟩ = some (.bool x.1.2.2) := by
        rw [hs.row.cellAt (i * 3 + 2) (by omega), stC_at M i 2 x hx (by decide)]
        rfl
      have e1 : (i : Int) < (L.length : Int) := by omega
      have e2 : (0 : Int) ≤ (i : Int) := by omega
      have e3 : ¬ (i : Int) < 0 := h0
      generalize x.1.2.2 = cl at *
      clear hs hx hLx ho h0
      go_enter Try.func34, Try.ntmps34
      go_wp2
      go_ret
      exact ⟨by simp, rfl⟩
    · have ho : openB L (i : Int) = false := by unfold openB; rw [if_neg h0]; simp [List.getElem?_eq_none (Nat.not_lt.1 hi)]
      rw [ho]
      have e1 : ¬ (i : Int) < (L.length : Int) := by omega
      have e2 : (0 : Int) ≤ (i : Int) := by omega
      clear hs
      go_enter Try.func34, Try.ntmps34
      go_wp2
      go_ret
      exact ⟨by simp, rfl⟩
end Go.Proofs.Ytaaiicfclaeapaa

namespace Go.Proofs.Ytaaiicfclaeapaa
open Go.RowKit Go.Mp Go.Rb Go.Lib
theorem stC_set : ∀ (M : List (StmT × Value)) (i : Nat) (x : StmT × Value), M[i]? = some x → (M.flatMap stC).set (i * 3 + 2) (.bool true) = (M.set i ((x.1.1, x.1.2.1, true), x.2)).flatMap stC
  | [], i, x, h => by simp at h
  | y :: M, 0, x, h => by
    simp at h
    subst h
    rfl
  | y :: M, i + 1, x, h => by
    have h' : M[i]? = some x := by simpa using h
    have e : (i + 1) * 3 + 2 = (i * 3 + 2) + 3 := by omega
    rw [e, List.set_cons_succ, List.flatMap_cons, List.flatMap_cons, ← stC_set M i x h']
    rfl
def closeL (L : List StmT) (k : Int) : List StmT := if openB L k then L.set k.toNat ((L.getD k.toNat (⟨#[]⟩, [], false)).1, (L.getD k.toNat (⟨#[]⟩, [], false)).2.1, true) else L
/-- Another list of the same bytes: what changes is the row alone. -/
theorem StmIn.row_same {S : Nat → Prop} {w w' : World} {g n cap : Nat} {L L' : List StmT} {M M' : List (StmT × Value)} (h : StmIn S w (.slice (some ⟨g, 0, none⟩) n cap) L M) (hmap : M'.map (·.1) = L') (hrow : w'.ownsRow 0 72 3 (.slice (some ⟨g, 0, none⟩) n cap) L'.length (M'.flatMap stC))
    (hsame : ∀ (j : Nat) y, M'[j]? = some y → ∃ y0 : StmT × Value, M[j]? = some y0 ∧ y0.2 = y.2 ∧ y0.1.2.1 = y.1.2.1) (hh : ∀ k, k ≠ g → w'.heap[k]? = w.heap[k]?) : StmIn S w' (.slice (some ⟨g, 0, none⟩) n cap) L' M' := {
  map := hmap
  row := hrow
  own := h.own
  at_ := fun y hy => by
    obtain ⟨j, hj⟩ := List.mem_iff_getElem?.1 hy
    obtain ⟨y0, h0, h1, h2⟩ := hsame j y hj
    obtain ⟨a, n', c, e, hr, ha⟩ := h.at_ y0 (List.mem_iff_getElem?.2 ⟨j, h0⟩)
    refine ⟨a, n', c, h1 ▸ e, ?_, ha⟩
    rw [← h2]
    exact RB.same hr (fun q n2 c2 e2 => hh _ (fun e3 => by
      injection e2 with e4
      subst e4
      obtain ⟨_, _, _, _, _, cur, fr, hcur⟩ := RB.obj hr
      rcases h.row.2 with ⟨e5, _⟩ | ⟨g', cp, cur2, e5, _, hg, _⟩
      · cases e5
      · have : g = g' := by injection e5 with e6; injection e6 with e6; injection e6
        rw [← this, ← e3, hcur] at hg
        injection hg with hg
        injection hg with _ hg
        exact absurd hg (by decide)))
  apart := fun i j x y a n' c a' n2 c' hij hi hj e1 e2 => by
    obtain ⟨x0, hx0, hx1, _⟩ := hsame i x hi
    obtain ⟨y0, hy0, hy1, _⟩ := hsame j y hj
    exact h.apart i j x0 y0 a n' c a' n2 c' hij hx0 hy0 (hx1.trans e1) (hy1.trans e2) }
theorem openB_some {L : List StmT} {k : Int} (h : openB L k = true) : ∃ (i : Nat) (x : StmT), k = (i : Int) ∧ L[i]? = some x ∧ x.2.2 = false := by
  unfold openB at h
  by_cases h0 : k < 0
  · rw [if_pos h0] at h; cases h
  · rw [if_neg h0] at h
    cases hx : L[k.toNat]? with
    | none => rw [hx] at h; cases h
    | some x => rw [hx] at h; exact ⟨k.toNat, x, by omega, hx, by simpa using h⟩
set_option maxRecDepth 100000 in
theorem close_x {S : Nat → Prop} {w : World} {b : Nat} {c0 : Value} {st : Int} {mp : Option Nat} {c3 v c5 c6 c7 : Value} {L : List StmT} {M : List (StmT × Value)} (hh : W8 w b c0 st mp c3 v c5 c6 c7) (hs : StmIn S w v L M) (hSb : ¬ S b) (hL : L.length ≤ 1000) (k : Int) (hk : -9223372036854775808 ≤ k ∧ k ≤ 9223372036854775807) :
    Calls Try.prog 18 #[.pointer (some ⟨b, 0, none⟩), .int .i64 k] w fun e w' => e = .returned (.tuple #[]) ∧ ∃ M', W8 w' b c0 st mp c3 v c5 c6 c7 ∧ StmIn S w' v (closeL L k) M' ∧ KX (fun k => ¬ S k) w w' := by
  have HO := Lib.hid (isOpen_x hh hs hL k hk)
  have HH := Lib.hid hh
  have HS := Lib.hid hs
  cases hob : openB L k with
  | false =>
    rw [hob] at HO
    have e : closeL L k = L := by unfold closeL; rw [hob]; rfl
    rw [e]
    clear hh hs
    go_enter Try.func18, Try.ntmps18
    go_wp2_with (go_at_call 34; refine HO.out.mono ?_; rintro e w2 ⟨rfl, rfl⟩)
    go_end0
    exact ⟨rfl, M, HH.out, HS.out, KX.refl _ _⟩
  | true =>
    rw [hob] at HO
    obtain ⟨i, x1, rfl, hLx, hcl⟩ := openB_some hob
    have hi : i < L.length := (List.getElem?_eq_some_iff.1 hLx).1
    obtain ⟨x, hx⟩ : ∃ x, M[i]? = some x := ⟨_, List.getElem?_eq_getElem (by have := congrArg List.length hs.map; simp at this; omega)⟩
    have hxe : x.1 = x1 := by rw [← hs.map, List.getElem?_map, hx] at hLx; simpa using hLx
    obtain ⟨g, cap, hv⟩ : ∃ g cap, v = .slice (some ⟨g, 0, none⟩) L.length cap := by
      rcases hs.row.2 with ⟨e, e2⟩ | ⟨g, cap, cur, e, _⟩
      · omega
      · exact ⟨_, _, e⟩
    subst hv
    have k4 : w.cell? ⟨b, 4, none⟩ = some (.slice (some ⟨g, 0, none⟩) L.length cap) := by unfold W8 at hh; simp [World.cell?, hh]
    have kc : w.cell? ⟨g, i * 3 + 2, none⟩ = some (.bool x.1.2.2) := by
      rw [hs.row.cellAt (i * 3 + 2) (by omega), stC_at M i 2 x hx (by decide)]
      rfl
    have kf : w.frozen? ⟨g, i * 3 + 2, none⟩ = false := hs.row.frozenAt _
    have e1 : (i : Int) < (L.length : Int) := by omega
    have e2 : (0 : Int) ≤ (i : Int) := by omega
    have hgb : g ≠ b := fun e => hSb (e ▸ hs.own g rfl)
    have e : closeL L (i : Int) = L.set i (x.1.1, x.1.2.1, true) := by
      unfold closeL
      rw [hob, if_pos rfl]
      simp [hLx, hxe]
    rw [e]
    have hsg := hs.own g rfl
    have HX := Lib.hid hx
    clear hh hs hLx hob e hx
    go_enter Try.func18, Try.ntmps18
    go_wp2_with (go_at_call 34; refine HO.out.mono ?_; rintro e w2 ⟨rfl, rfl⟩)
    go_end0
    have hst := HS.out.row.stored (i * 3 + 2) (.bool true)
    refine ⟨rfl, M.set i ((x.1.1, x.1.2.1, true), x.2), (heap_setCell_ne _ _ _ _ _ (fun e => hgb e.symm)).trans HH.out, HS.out.row_same ?_ ?_ (fun j y hj => ?_) (fun k hk => heap_setCell_ne _ _ _ _ _ hk), rfl, rfl, rfl, by rw [size_setCell']; exact Nat.le_refl _, fun k hk _ => heap_setCell_ne _ _ _ _ _ (fun e => hk (e ▸ hsg))⟩
    · rw [List.map_set, HS.out.map]
    · rw [List.length_set, ← stC_set M i x HX.out]
      exact hst.1
    · by_cases hij : i = j
      · subst hij
        rw [List.getElem?_set_self (List.getElem?_eq_some_iff.1 HX.out).1] at hj
        cases hj
        exact ⟨x, HX.out, rfl, rfl⟩
      · rw [List.getElem?_set_ne hij] at hj
        exact ⟨y, hj, rfl, rfl⟩
end Go.Proofs.Ytaaiicfclaeapaa

namespace Go.Proofs.Ytaaiicfclaeapaa
open Go.RowKit Go.Mp Go.Rb Go.Lib
theorem stC_set1 : ∀ (M : List (StmT × Value)) (i : Nat) (x : StmT × Value) (l : List UInt8) (u : Value), M[i]? = some x → (M.flatMap stC).set (i * 3 + 1) u = (M.set i ((x.1.1, l, x.1.2.2), u)).flatMap stC
  | [], i, x, l, u, h => by simp at h
  | y :: M, 0, x, l, u, h => by
    simp at h
    subst h
    rfl
  | y :: M, i + 1, x, l, u, h => by
    have h' : M[i]? = some x := by simpa using h
    have e : (i + 1) * 3 + 1 = (i * 3 + 1) + 3 := by omega
    rw [e, List.set_cons_succ, List.flatMap_cons, List.flatMap_cons, ← stC_set1 M i x l u h']
    rfl
def writeL (L : List StmT) (k : Int) (m : List UInt8) : List StmT := if openB L k then L.set k.toNat ((L.getD k.toNat (⟨#[]⟩, [], false)).1, (L.getD k.toNat (⟨#[]⟩, [], false)).2.1 ++ m, (L.getD k.toNat (⟨#[]⟩, [], false)).2.2) else L
set_option maxHeartbeats 2000000 in
set_option maxRecDepth 100000 in
theorem wwrite_x {S : Nat → Prop} {w : World} {b : Nat} {c0 : Value} {st : Int} {mp : Option Nat} {c3 v c5 c6 c7 : Value} {L : List StmT} {M : List (StmT × Value)} (hh : W8 w b c0 st mp c3 v c5 c6 c7) (hs : StmIn S w v L M) (hSb : ¬ S b) (hL : L.length ≤ 1000) (k : Int) (hk : -9223372036854775808 ≤ k ∧ k ≤ 9223372036854775807) (p3 : Option Addr) (n3 c3' : Nat) (m : List UInt8) (hsrc : Src Try.prog w (.slice p3 n3 c3') m) (hm : ∀ x ∈ L, x.2.1.length + m.length ≤ 1000000) :
    Calls Try.prog 16 #[.pointer (some ⟨b, 0, none⟩), .int .i64 k, .slice p3 n3 c3'] w fun e w' => e = .returned (.tuple #[]) ∧ ∃ M', W8 w' b c0 st mp c3 v c5 c6 c7 ∧ StmIn (fun k => S k ∨ (w.heap.size ≤ k ∧ k < w'.heap.size)) w' v (writeL L k m) M' ∧ KX (fun k => ¬ S k) w w' := by
  have HO := Lib.hid (isOpen_x hh hs hL k hk)
  have HH := Lib.hid hh
  have HS := Lib.hid hs
  cases hob : openB L k with
  | false =>
    rw [hob] at HO
    have e : writeL L k m = L := by unfold writeL; rw [hob]; rfl
    rw [e]
    clear hh hs hsrc
    go_enter Try.func16, Try.ntmps16
    go_wp2_with (go_at_call 34; refine HO.out.mono ?_; rintro e w2 ⟨rfl, rfl⟩)
    go_end0
    refine ⟨rfl, M, HH.out, ?_, KX.refl _ _⟩
    have h := HS.out
    exact { map := h.map, row := h.row, own := fun q e => .inl (h.own q e), at_ := fun x hx => let ⟨a, n, c, e, hr, ha⟩ := h.at_ x hx; ⟨a, n, c, e, hr, fun q e => .inl (ha q e)⟩, apart := h.apart }
  | true =>
    rw [hob] at HO
    obtain ⟨i, x1, rfl, hLx, hcl⟩ := openB_some hob
    have hi : i < L.length := (List.getElem?_eq_some_iff.1 hLx).1
    obtain ⟨x, hx⟩ : ∃ x, M[i]? = some x := ⟨_, List.getElem?_eq_getElem (by have := congrArg List.length hs.map; simp at this; omega)⟩
    have hxe : x.1 = x1 := by rw [← hs.map, List.getElem?_map, hx] at hLx; simpa using hLx
    subst hxe
    obtain ⟨g, cap, hv⟩ : ∃ g cap, v = .slice (some ⟨g, 0, none⟩) L.length cap := by
      rcases hs.row.2 with ⟨e, e2⟩ | ⟨g, cap, cur, e, _⟩
      · omega
      · exact ⟨_, _, e⟩
    subst hv
    obtain ⟨a0, n0, cp0, hxv, hr0, ha0⟩ := hs.at_ x (List.mem_iff_getElem?.2 ⟨i, hx⟩)
    have k4 : w.cell? ⟨b, 4, none⟩ = some (.slice (some ⟨g, 0, none⟩) L.length cap) := by unfold W8 at hh; simp [World.cell?, hh]
    have kc : w.cell? ⟨g, i * 3 + 1, none⟩ = some (.slice a0 n0 cp0) := by
      rw [hs.row.cellAt (i * 3 + 1) (by omega), stC_at M i 1 x hx (by decide), ← hxv]
      rfl
    have e1 : (i : Int) < (L.length : Int) := by omega
    have e2 : (0 : Int) ≤ (i : Int) := by omega
    have hgb : g ≠ b := fun e => hSb (e ▸ hs.own g rfl)
    have hgS : S g := hs.own g rfl
    have hgl : g < w.heap.size := (hs.row.lt g rfl).2
    have hbl := hh.lt
    have e : writeL L (i : Int) m = L.set i (x.1.1, x.1.2.1 ++ m, x.1.2.2) := by
      unfold writeL
      rw [hob, if_pos rfl]
      simp [hLx]
    rw [e]
    have hml : x.1.2.1.length + m.length ≤ 1000000 := hm x.1 (List.mem_iff_getElem?.2 ⟨i, hLx⟩)
    -- a row of bytes is not the streams' row, nor the world's block
    have u8 : ∀ (a : Addr) n c l, RB 0 w (.slice (some a) n c) l → a.block ≠ g := fun a n c l hr e => by
      obtain ⟨_, _, _, _, _, cur, fr, hcur⟩ := RB.obj hr
      rcases hs.row.2 with ⟨e5, _⟩ | ⟨g', cp, cur2, e5, _, hg, _⟩
      · cases e5
      · have : g = g' := by injection e5 with e6; injection e6 with e6; injection e6
        rw [← this, ← e, hcur] at hg
        injection hg with hg
        injection hg with _ hg
        exact absurd hg (by decide)
    obtain ⟨i8, hi8, hz0, hz1, hz2⟩ := info_parts' (show (Try.prog.info? 5).map (fun i => (i.zero, i.size, i.bytes)) = some (some (.int .u8 0), 1, 1) by kernel_rfl)
    have HG : Hid (∀ w2 p1 c1, ((∃ a n c', (.slice a0 n0 cp0 : Value) = .slice (some a) n c' ∧ KG a.block x.1.2.1.length w w2 ∧ blk (.slice p1 (x.1.2.1.length + m.length) c1) = a.block) ∨ (Below w.heap.size w w2 ∧ (p1 = none ∨ blk (.slice p1 (x.1.2.1.length + m.length) c1) = w.heap.size))) →
        (w2.os = w.os ∧ w2.tape = w.tape ∧ w2.output = w.output ∧ w.heap.size ≤ w2.heap.size) ∧ (∀ k, k < w.heap.size → (∀ q, a0 = some q → k ≠ q.block) → w2.heap[k]? = w.heap[k]?) ∧ w2.cell? ⟨g, i * 3 + 1, none⟩ = some (.slice a0 n0 cp0) ∧ w2.frozen? ⟨g, i * 3 + 1, none⟩ = false ∧ w2.cell? ⟨b, 4, none⟩ = some (.slice (some ⟨g, 0, none⟩) L.length cap)) := Lib.hid (fun w2 p1 c1 hk2 => by
      have h1 : (w2.os = w.os ∧ w2.tape = w.tape ∧ w2.output = w.output ∧ w.heap.size ≤ w2.heap.size) ∧ ∀ k, k < w.heap.size → (∀ q, a0 = some q → k ≠ q.block) → w2.heap[k]? = w.heap[k]? := by
        rcases hk2 with ⟨a, n, c', e, hkg, _⟩ | ⟨hb, _⟩
        · exact ⟨⟨hkg.os, hkg.tape, hkg.output, hkg.size⟩, fun k hk hq => hkg.block k hk (hq a (by injection e))⟩
        · exact ⟨⟨hb.os, hb.tape, hb.output, hb.size⟩, fun k hk _ => hb.block k hk⟩
      have hgg := h1.2 g hgl (fun q e => by subst e; exact (u8 q _ _ _ hr0).symm)
      have hbb := h1.2 b hbl (fun q e e2 => hSb (e2 ▸ ha0 q e))
      refine ⟨h1.1, h1.2, ?_, ?_, ?_⟩
      · rw [World.cell?_of_block (w := w) hgg]; exact kc
      · have := hs.row.frozenAt (i * 3 + 1); unfold World.frozen? at this ⊢; rw [hgg]; exact this
      · rw [World.cell?_of_block (w := w) hbb]; exact k4)
    have HR0 := Lib.hid hr0
    have HSrc := Lib.hid hsrc
    have HX := Lib.hid hx
    have HU := Lib.hid u8
    have HA0 := Lib.hid ha0
    have HXv := Lib.hid hxv
    clear hh hs hLx hob e hx hr0 hsrc u8 ha0 hxv hm
    go_enter Try.func16, Try.ntmps16
    go_wp2_with (first | (go_at_call 34; refine HO.out.mono ?_; rintro e w1 ⟨rfl, hw1⟩; obtain rfl := hw1) | (at_builtin; refine wpList_append_kg rfl _ _ 33 33 rfl Try.underlying33 Try.underlying33 (fun k e => by cases e) hi8 hz0 hz1 hz2 rfl rfl HR0.out HSrc.out (Nat.zero_le _) hml ?_; intro p1 c1 w2 hr2 hk2; obtain ⟨z1, z2, z3, z4, z5⟩ := HG.out w2 p1 c1 hk2; have HR2 : Hid (RB 0 w2 (.slice p1 (x.1.2.1.length + m.length) c1) (x.1.2.1 ++ m)) := Lib.hid hr2; have HK2 : Hid ((∃ a n c', (.slice a0 n0 cp0 : Value) = .slice (some a) n c' ∧ KG a.block x.1.2.1.length w1 w2 ∧ blk (.slice p1 (x.1.2.1.length + m.length) c1) = a.block) ∨ (Below w1.heap.size w1 w2 ∧ (p1 = none ∨ blk (.slice p1 (x.1.2.1.length + m.length) c1) = w1.heap.size))) := Lib.hid hk2; have Z1 := Lib.hid z1; have Z2 := Lib.hid z2; clear hr2 hk2 z1 z2))
    go_end0
    have hSo := HS.out
    have hz1' := Z1.out
    have hr2 := HR2.out
    -- where the bytes lie
    have hp1 : ∀ q, p1 = some q → (∃ a, a0 = some a ∧ q.block = a.block) ∨ (w1.heap.size ≤ q.block ∧ q.block < w2.heap.size) := fun q e => by
      have hl := (RB.blk hr2 e).2
      subst e
      rcases HK2.out with ⟨a, n, c', e, _, hb⟩ | ⟨_, hb⟩
      · exact .inl ⟨a, by injection e, hb⟩
      · rcases hb with hb | hb
        · cases hb
        · exact .inr ⟨Nat.le_of_eq hb.symm, hl⟩
    -- the streams' row, behind the append
    have hgg : w2.heap[g]? = w1.heap[g]? := Z2.out g hgl (fun q e => by have h := HR0.out; subst e; exact (HU.out q _ _ _ h).symm)
    have hrow2 : w2.ownsRow 0 72 3 (.slice (some ⟨g, 0, none⟩) L.length cap) L.length (M.flatMap stC) := by
      refine ⟨hSo.row.1, hSo.row.2.imp id (fun ⟨g', cp, cur, e, r1, r2, r3⟩ => ⟨g', cp, cur, e, r1, ?_, r3⟩)⟩
      have : g = g' := by injection e with e6; injection e6 with e6; injection e6
      rw [← this] at r2 ⊢
      exact hgg.trans r2
    have hst := hrow2.stored (i * 3 + 1) (.slice p1 (x.1.2.1.length + m.length) c1)
    have hs3 : (w2.setCell ⟨g, i * 3 + 1, none⟩ (.slice p1 (x.1.2.1.length + m.length) c1)).heap.size = w2.heap.size := size_setCell' _ _ _
    have hne3 : ∀ k, k ≠ g → (w2.setCell ⟨g, i * 3 + 1, none⟩ (.slice p1 (x.1.2.1.length + m.length) c1)).heap[k]? = w2.heap[k]? := fun k hk => heap_setCell_ne _ _ _ _ _ hk
    have hgl2 : ∀ (a : Addr) n c l, RB 0 w2 (.slice (some a) n c) l → a.block ≠ g := fun a n c l hr e => by
      obtain ⟨_, _, _, _, _, cur, fr, hcur⟩ := RB.obj hr
      rcases hrow2.2 with ⟨e5, _⟩ | ⟨g', cp, cur2, e5, _, hg, _⟩
      · cases e5
      · have : g = g' := by injection e5 with e6; injection e6 with e6; injection e6
        rw [← this, ← e, hcur] at hg
        injection hg with hg
        injection hg with _ hg
        exact absurd hg (by decide)
    have hil := (List.getElem?_eq_some_iff.1 HX.out).1
    refine ⟨rfl, M.set i ((x.1.1, x.1.2.1 ++ m, x.1.2.2), .slice p1 (x.1.2.1.length + m.length) c1), (hne3 b (fun e => hgb e.symm)).trans ((Z2.out b hbl (fun q e e2 => hSb (e2 ▸ HA0.out q e))).trans HH.out), ?_, hz1'.1, hz1'.2.1, hz1'.2.2.1, by rw [hs3]; exact hz1'.2.2.2, fun k hk hl => (hne3 k (fun e => hk (e ▸ hgS))).trans (Z2.out k hl (fun q e e2 => hk (e2 ▸ HA0.out q e)))⟩
    exact {
      map := by rw [List.map_set, hSo.map]
      row := by
        rw [List.length_set, ← stC_set1 M i x (x.1.2.1 ++ m) _ HX.out]
        exact hst.1
      own := fun q e => .inl (hSo.own q e)
      at_ := fun y hy => by
        obtain ⟨j, hj⟩ := List.mem_iff_getElem?.1 hy
        by_cases hij : i = j
        · subst hij
          rw [List.getElem?_set_self hil] at hj
          cases hj
          refine ⟨p1, _, c1, rfl, RB.same hr2 (fun q n c e => hne3 _ (by injection e with e1; subst e1; exact hgl2 q _ _ _ hr2)), fun q e => ?_⟩
          rcases hp1 q e with ⟨a, h1, h2⟩ | h
          · rw [h2]; exact .inl (HA0.out a h1)
          · exact .inr ⟨h.1, by rw [hs3]; exact h.2⟩
        · rw [List.getElem?_set_ne hij] at hj
          obtain ⟨a, n, c, e, hr, ha⟩ := hSo.at_ y (List.mem_iff_getElem?.2 ⟨j, hj⟩)
          refine ⟨a, n, c, e, RB.same hr (fun q n' c' e2 => ?_), fun q e => .inl (ha q e)⟩
          injection e2 with e3
          subst e3
          exact (hne3 _ (HU.out q _ _ _ hr)).trans (Z2.out _ (RB.blk hr rfl).2 (fun q' e4 e5 => hSo.apart i j x y q' n0 cp0 q n c hij HX.out hj (by rw [HXv.out, e4]) e e5.symm))
      apart := fun j1 j2 y1 y2 a n c a' n' c' hne h1 h2 e1 e2 => by
        have far : ∀ (j : Nat) (y : StmT × Value) (a : Addr) n c, i ≠ j → M[j]? = some y → y.2 = .slice (some a) n c → ∀ q, p1 = some q → q.block ≠ a.block := fun j y a n c hij hj e q hq => by
          obtain ⟨a2, n2, c2, e2, hr, _⟩ := hSo.at_ y (List.mem_iff_getElem?.2 ⟨j, hj⟩)
          rw [e] at e2
          injection e2 with e3
          rcases hp1 q hq with ⟨q', h1, h2⟩ | h
          · rw [h2]
            exact hSo.apart i j x y q' n0 cp0 a n c hij HX.out hj (by rw [HXv.out, h1]) e
          · have := (RB.blk hr e3.symm).2
            omega
        by_cases h1i : i = j1
        · subst h1i
          rw [List.getElem?_set_self hil] at h1
          rw [List.getElem?_set_ne hne] at h2
          cases h1
          exact far j2 y2 a' n' c' hne h2 e2 a (by injection e1)
        · rw [List.getElem?_set_ne h1i] at h1
          by_cases h2i : i = j2
          · subst h2i
            rw [List.getElem?_set_self hil] at h2
            cases h2
            exact fun e => far j1 y1 a n c h1i h1 e1 a' (by injection e2) e.symm
          · rw [List.getElem?_set_ne h2i] at h2
            exact hSo.apart j1 j2 y1 y2 a n c a' n' c' hne h1 h2 e1 e2 }
end Go.Proofs.Ytaaiicfclaeapaa

namespace Go.Proofs.Ytaaiicfclaeapaa
open Go.RowKit Go.Mp Go.Rb Go.Lib
/-- A datagram: to whom, by the link, its bytes. -/
abbrev DgT := ByteArray × Bool × List UInt8
def dgC (x : DgT × Value) : List Value := [.string x.1.1, .bool x.1.2.1, x.2]
structure DgsIn (S : Nat → Prop) (w : World) (v : Value) (L : List DgT) (M : List (DgT × Value)) : Prop where
  map : M.map (·.1) = L
  row : w.ownsRow 0 42 3 v L.length (M.flatMap dgC)
  own : ∀ q, v.ownBlock = some q → S q
  at_ : ∀ x ∈ M, ∃ (a : Option Addr) (n c : Nat), x.2 = .slice a n c ∧ RB 0 w (.slice a n c) x.1.2.2 ∧ ∀ q, a = some q → S q.block
theorem size_alloc1 (w : World) (o : Obj) : (w.alloc o).heap.size = w.heap.size + 1 := by show (w.heap.push _).size = _; simp
theorem infoDg : (Try.prog.info? 42).map (fun i => (i.zero, i.size, i.bytes)) = some (some (.agg #[.string ⟨#[]⟩, .bool false, .slice none 0 0]), 3, 48) := by kernel_rfl
set_option maxHeartbeats 4000000 in
set_option maxRecDepth 100000 in
theorem send_x {S : Nat → Prop} {w : World} {b : Nat} {c0 : Value} {st : Int} {mp : Option Nat} {v c4 c5 c6 c7 : Value} {L : List DgT} {M : List (DgT × Value)} (hh : W8 w b c0 st mp v c4 c5 c6 c7) (hs : DgsIn S w v L M) (hSb : ¬ S b) (hL : L.length ≤ 1000) (dt : ByteArray) (lk : Bool) (a : Option Addr) (n c : Nat) (l : List UInt8) (hr : RB 0 w (.slice a n c) l) (hl : l.length ≤ 1000000) :
    Calls Try.prog 13 #[.pointer (some ⟨b, 0, none⟩), .agg #[.string dt, .bool lk, .slice a n c]] w fun e w' => e = .returned (.tuple #[]) ∧ ∃ v' M', W8 w' b c0 st mp v' c4 c5 c6 c7 ∧ DgsIn (fun k => S k ∨ (w.heap.size ≤ k ∧ k < w'.heap.size)) w' v' (L ++ [(dt, lk, l)]) M' ∧ KX (fun k => k ≠ b ∧ ¬ S k) w w' := by
  obtain ⟨p, cap, hv⟩ : ∃ p cap, v = .slice p L.length cap := by
    rcases hs.row.2 with ⟨e, e2⟩ | ⟨g, cap, cur, e, _⟩
    · exact ⟨none, 0, by rw [e, e2]⟩
    · exact ⟨_, _, e⟩
  subst hv
  have hbl := hh.lt
  have HH := Lib.hid hh
  have HS := Lib.hid hs
  have HR := Lib.hid hr
  obtain ⟨ib, hi, hz0, hz1, hz2⟩ := info_parts' infoDg
  have HC : Hid (∀ W, Below w.heap.size w W → Calls Try.prog 33 #[.agg #[.string dt, .bool lk, .slice a n c]] W fun e w' => ∃ p1 c1, e = .returned (.agg #[.string dt, .bool lk, .slice p1 l.length c1]) ∧ RB W.heap.size w' (.slice p1 l.length c1) l ∧ Below W.heap.size W w') := Lib.hid (fun W hW => copyD_any dt lk a n c l W (hr.below hW) hl)
  have hc3 : ∀ W, Below w.heap.size w W → W.cell? ⟨b, 3, none⟩ = some (.slice p L.length cap) ∧ W.frozen? ⟨b, 3, none⟩ = false := fun W hW => by
    have h2 := (hW.block b hbl).trans hh
    exact ⟨by simp [World.cell?, h2], by simp [World.frozen?, h2]⟩
  have hbD : Below w.heap.size w (w.alloc (.cells #[.string dt, .bool lk, .slice a n c] 42)) := (Below.refl _ w).alloc (Nat.le_refl _) _
  have HBD := Lib.hid hbD
  have hszD : (w.alloc (.cells #[.string dt, .bool lk, .slice a n c] 42)).heap.size = w.heap.size + 1 := by show (w.heap.push _).size = _; simp
  have HSzD := Lib.hid hszD
  have m3 : (w.alloc (.cells #[.string dt, .bool lk, .slice a n c] 42)).cell? ⟨b, 3, none⟩ = some (.slice p L.length cap) := (hc3 _ hbD).1
  have d0 : (w.alloc (.cells #[.string dt, .bool lk, .slice a n c] 42)).cell? ⟨w.heap.size, 0, none⟩ = some (.string dt) := by rw [World.cell?_alloc_new]; rfl
  have d1 : (w.alloc (.cells #[.string dt, .bool lk, .slice a n c] 42)).cell? ⟨w.heap.size, 1, none⟩ = some (.bool lk) := by rw [World.cell?_alloc_new]; rfl
  have d2 : (w.alloc (.cells #[.string dt, .bool lk, .slice a n c] 42)).cell? ⟨w.heap.size, 2, none⟩ = some (.slice a n c) := by rw [World.cell?_alloc_new]; rfl
  -- behind the call, and behind the new row
  have HC1 : Hid (Calls Try.prog 33 #[.agg #[.string dt, .bool lk, .slice a n c]] (w.alloc (.cells #[.string dt, .bool lk, .slice a n c] 42)).drew fun e w' => ∃ p1 c1, e = .returned (.agg #[.string dt, .bool lk, .slice p1 l.length c1]) ∧ Hid (RB w.heap.size w' (.slice p1 l.length c1) l) ∧ Hid (Below (w.heap.size + 1) (w.alloc (.cells #[.string dt, .bool lk, .slice a n c] 42)) w') ∧ Hid (Below w.heap.size w w') ∧ w'.cell? ⟨b, 3, none⟩ = some (.slice p L.length cap) ∧ (∀ o, (w'.alloc o).cell? ⟨b, 3, none⟩ = some (.slice p L.length cap)) ∧ Hid (DgsIn S w' (.slice p L.length cap) L M)) := Lib.hid (((HC.out _ hbD.drew).mono) fun e w' ⟨p1, c1, he, h1, h2⟩ => by
    have hb2 : Below (w.heap.size + 1) (w.alloc (.cells #[.string dt, .bool lk, .slice a n c] 42)) w' := by rw [← hszD]; exact (Below.refl _ _).drew.trans h2
    have hb3 : Below w.heap.size w w' := hbD.trans (hb2.mono (Nat.le_succ _))
    have hso := HS.out
    refine ⟨p1, c1, he, Lib.hid (RB.base h1 (by show w.heap.size ≤ (w.alloc _).heap.size; rw [hszD]; omega)), Lib.hid hb2, Lib.hid hb3, (hc3 _ hb3).1, fun o => (hc3 _ (hb3.alloc hb3.size o)).1, Lib.hid ?_⟩
    exact { map := hso.map, row := ⟨hso.row.1, hso.row.2.imp id (fun ⟨g, cp, cur, e, r1, r2, r3⟩ => ⟨g, cp, cur, e, r1, (hb3.block g (Array.getElem?_eq_some_iff.1 r2).1).trans r2, r3⟩)⟩, own := hso.own, at_ := fun x hx => let ⟨a, n, c, e, hr, ha⟩ := hso.at_ x hx; ⟨a, n, c, e, hr.below hb3, ha⟩ })
  have HG : Hid (∀ (w3 w4 : World) (o : Obj), Below w.heap.size w w3 → (w3.alloc o).grownBy w4 (Value.slice p L.length cap).ownBlock → Hid (∀ k, k < w.heap.size → ¬ S k → w4.heap[k]? = w.heap[k]?) ∧ w4.cell? ⟨b, 3, none⟩ = some (.slice p L.length cap) ∧ w4.frozen? ⟨b, 3, none⟩ = false) := Lib.hid (fun w3 w4 o hb3 hg4 => by
    have h1 : ∀ k, k < w.heap.size → ¬ S k → w4.heap[k]? = w.heap[k]? := fun k hk hks => (hg4.block k (by show k < (w3.heap.push _).size; have := hb3.size; simp; omega) (fun e => hks (hs.own k (by first | exact e | exact e.symm)))).trans ((heap_alloc_lt w3 o k (by have := hb3.size; omega)).trans (hb3.block k hk))
    have h2 := (h1 b hbl hSb).trans hh
    exact ⟨Lib.hid h1, by simp [World.cell?, h2], by simp [World.frozen?, h2]⟩)
  clear hh hs hr hbD hszD hc3
  go_enter Try.func13, Try.ntmps13
  go_upto_region 2 with (fail)
  go_region_law (first | (refine step_append_lies _ (by rfl) _ _ _ (by rfl) 0 42 ib (.agg #[.string ⟨#[]⟩, .bool false, .slice none 0 0]) 3 48 Try.underlying28 hi hz0 hz1 hz2 rfl (by decide) (.slice p L.length cap) L.length (M.flatMap dgC) (by rfl) (World.ownsRow.alloc HS3.out.row _) ⟨w3.heap.size, 0, none⟩ 1 1 [.string dt, .bool lk, .slice p1 l.length c1] (by rfl) rfl (new_cells3 _ _ _ _ _) (by simp [Value.oneCell']) (by decide) (by unfold maxLen; omega) (by omega) (Nat.zero_le _) (w3.heap.size + 1) (by show (w3.heap.push _).size = _; simp) ?_; intro g4 cap4 w4 hown4 hg4 hat4 hlt4; obtain ⟨HB4, c4', f4'⟩ := HG.out w3 w4 _ hb3.out hg4; have HO4 := Lib.hid hown4; have HG4 := Lib.hid hg4; have HA4 := Lib.hid hat4; clear hown4 hg4 hat4) | (go_simp; go_at_call 33; refine HC1.out.mono ?_; rintro e w3 ⟨p1, c1, rfl, hr3, hd3, hb3, m3', m3a, HS3⟩))
  all_goals (
    go_end0
    have hSo := HS.out
    have hS3 := HS3.out
    have hz3 := hb3.out.size
    have hgb : g4 ≠ b := by
      rcases HA4.out with h | h
      · exact fun e => hSb (e ▸ hSo.own g4 h)
      · omega
    have hz4 : w3.heap.size + 1 ≤ w4.heap.size := by have h := HG4.out.size; rw [size_alloc1] at h; exact h
    have hs5 : (w4.setCell ⟨b, 3, none⟩ (.slice (some ⟨g4, 0, none⟩) (L.length + 1) cap4)).heap.size = w4.heap.size := size_setCell' _ _ _
    have hne5 : ∀ k, k ≠ b → (w4.setCell ⟨b, 3, none⟩ (.slice (some ⟨g4, 0, none⟩) (L.length + 1) cap4)).heap[k]? = w4.heap[k]? := fun k hk => heap_setCell_ne _ _ _ _ _ hk
    have keep : ∀ (a : Option Addr) (n c : Nat) (l : List UInt8), RB 0 w3 (.slice a n c) l → (∀ q, a = some q → q.block ≠ b) → RB 0 (w4.setCell ⟨b, 3, none⟩ (.slice (some ⟨g4, 0, none⟩) (L.length + 1) cap4)) (.slice a n c) l := fun a n c l hr ha => RB.same hr (fun q n' c' e => by
      injection e with e1
      subst e1
      obtain ⟨_, _, _, _, _, cur, fr, hcur⟩ := RB.obj hr
      have hlt := (Array.getElem?_eq_some_iff.1 hcur).1
      have hob : (Value.slice p L.length cap).ownBlock ≠ some q.block := fun e => by
        rcases hS3.row.2 with ⟨e2, _⟩ | ⟨g, cp, cur2, e2, _, hg, _⟩
        · rw [e2] at e; cases e
        · rw [e2] at e
          have : g = q.block := by injection e
          rw [this, hcur] at hg
          injection hg with hg
          injection hg with _ hg
          exact absurd hg (by decide)
      exact (hne5 _ (ha q rfl)).trans ((HG4.out.block q.block (by show q.block < (w3.heap.push _).size; simp; omega) (by first | exact hob | exact fun e => hob e.symm)).trans (heap_alloc_lt w3 _ _ hlt)))
    refine ⟨rfl, .slice (some ⟨g4, 0, none⟩) (L.length + 1) cap4, M ++ [((dt, lk, l), .slice p1 l.length c1)], heap_setCell_eq _ _ _ _ _ _ _ ((HB4.out b hbl hSb).trans HH.out), ?_, HG4.out.os.trans hb3.out.os, HG4.out.tape.trans hb3.out.tape, HG4.out.output.trans hb3.out.output, by show w.heap.size ≤ (w4.setCell _ _).heap.size; rw [size_setCell']; omega, fun k hk hl => (hne5 k hk.1).trans (HB4.out k hl hk.2)⟩
    exact {
      map := by rw [List.map_append, hSo.map]; rfl
      row := by
        have := HO4.out
        rw [List.length_append, List.flatMap_append]
        refine ⟨this.1, this.2.imp id (fun ⟨g, cp, cur, e, r1, r2, r3⟩ => ⟨g, cp, cur, e, r1, ?_, r3⟩)⟩
        have eg : g4 = g := by injection e with e1; injection e1 with e1; injection e1
        rw [← eg] at r2 ⊢
        exact (hne5 g4 hgb).trans r2
      own := fun q e => by
        have eg : g4 = q := by injection e
        subst eg
        rcases HA4.out with h | h
        · exact .inl (hSo.own g4 h)
        · exact .inr ⟨by omega, by show g4 < (w4.setCell _ _).heap.size; rw [size_setCell']; omega⟩
      at_ := fun x hx => by
        rcases List.mem_append.1 hx with hx | hx
        · obtain ⟨a, n, c, e, hr, ha⟩ := hS3.at_ x hx
          exact ⟨a, n, c, e, keep a n c _ hr (fun q e e2 => hSb (e2 ▸ ha q e)), fun q e => .inl (ha q e)⟩
        · rw [List.mem_singleton.1 hx]
          refine ⟨p1, l.length, c1, rfl, keep _ _ _ _ (RB.base hr3.out (Nat.zero_le _)) (fun q e e2 => ?_), fun q e => .inr ⟨(RB.blk hr3.out e).1, ?_⟩⟩
          · have := (RB.blk hr3.out e).1; omega
          · show q.block < (w4.setCell _ _).heap.size
            rw [size_setCell']
            have := (RB.blk hr3.out e).2
            omega })
end Go.Proofs.Ytaaiicfclaeapaa

