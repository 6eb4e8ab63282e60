/- Contracts and plain facts that the law leans on. -/
import Derived.Test.YtogdkmkganpaaaaGreatDoorSnCa
import Derived.Laws.AppendOwn
import Derived.OwnWalk
import Derived.Deep.RegionHeld3
import Derived.Deep.AppendLies
import Derived.Deep.RegionLaw
import Derived.Deep.CutRange
import Derived.RegionTactic
import Derived.Lib.AppendStr
import Derived.Laws.ResultCell
import Derived.Laws.Rows
namespace Go.Wi
open Go.RowKit
structure Msg where
  id : Nat
  reply : Bool
  cut : Bool
  want : Bool
  code : Nat
  name : List UInt8
  kind : Nat
  recs : List Rec
def Msg.val (M : Msg) (v : Value) : Value := .agg #[.int .i64 (M.id : Int), .bool M.reply, .bool M.cut, .bool M.want, .int .i64 (M.code : Int), .string ⟨M.name.toArray⟩, .int .i64 (M.kind : Int), v]
end Go.Wi
namespace Go.Proofs.YtogdkmkganpaaaaGreatDoor
open Go.RowKit Go.Lib Go.Wi Go.Tx
theorem _root_.Go.Wi.RDS.below {w w' : World} {p : Nat} {a : Option Addr} {n c : Nat} {l : List UInt8} {st : Option Nat} (h : RDS w p a n c l st) (hb : Below w.heap.size w w') : RDS w' p a n c l st := h.map fun _ _ h => h.below hb
theorem _root_.Go.Wi.RDS.alloc {w : World} {p : Nat} {a : Option Addr} {n c : Nat} {l : List UInt8} {st : Option Nat} (h : RDS w p a n c l st) (o : Obj) : RDS (w.alloc o) p a n c l st := h.below ((Below.refl _ _).alloc (Nat.le_refl _) _)
/-- A message in the making: block b holds these cells. -/
def At8 (w : World) (b : Nat) (arr : Array Value) : Prop := w.heap[b]? = some (.cells arr 48 (0, 0))
theorem At8.lt {w : World} {b : Nat} {arr : Array Value} (h : At8 w b arr) : b < w.heap.size := (Array.getElem?_eq_some_iff.1 h).1
theorem At8.kp {w w' : World} {p b : Nat} {arr : Array Value} (h : At8 w b arr) (hk : Kp p w w') (hb : b ≠ p) : At8 w' b arr := by
  unfold At8; rw [hk.block b h.lt hb]; exact h
theorem At8.alloc {w : World} {b : Nat} {arr : Array Value} (h : At8 w b arr) (o : Obj) : At8 (w.alloc o) b arr := by
  unfold At8
  show (w.heap.push o)[b]? = _
  rw [Array.getElem?_push, if_neg (by have := h.lt; omega)]
  exact h
theorem At8.cell {w : World} {b : Nat} {arr : Array Value} (h : At8 w b arr) {j : Nat} {v : Value} (hj : arr[j]? = some v) : w.cell? ⟨b, j, none⟩ = some v := by unfold At8 at h; simp [World.cell?, h, hj]
theorem At8.free {w : World} {b : Nat} {arr : Array Value} (h : At8 w b arr) (j : Nat) : w.frozen? ⟨b, j, none⟩ = false := by unfold At8 at h; simp [World.frozen?, h]
theorem At8.set {w : World} {b : Nat} {arr : Array Value} (h : At8 w b arr) (k : Nat) (v : Value) : At8 (w.setCell ⟨b, k, none⟩ v) b (arr.setIfInBounds k v) := block_set h v
theorem _root_.Go.Wi.Kp.alloc {p : Nat} {w w' : World} (h : Kp p w w') (o : Obj) : Kp p w (w'.alloc o) := h.trans (Kp.of ((Below.refl _ _).alloc (Nat.le_refl _) _))
theorem _root_.Go.Wi.RD.same {w w' : World} {p : Nat} {a : Option Addr} {n c : Nat} {l : List UInt8} {at_ : Int} {bad : Bool} (h : RD w p a n c l at_ bad) (hp : w'.heap[p]? = w.heap[p]?) (hx : ∀ x, a = some x → w'.heap[x.block]? = w.heap[x.block]?) (hs : w.heap.size ≤ w'.heap.size) : RD w' p a n c l at_ bad :=
  ⟨Nat.lt_of_lt_of_le h.lt hs, by rw [World.cell?_of_block (w := w) (a := ⟨p, 0, none⟩) hp]; exact h.c0, by rw [World.cell?_of_block (w := w) (a := ⟨p, 1, none⟩) hp]; exact h.c1, by rw [World.cell?_of_block (w := w) (a := ⟨p, 2, none⟩) hp]; exact h.c2,
    by rw [World.frozen?_of_block (w := w) (a := ⟨p, 1, none⟩) hp]; exact h.f1, by rw [World.frozen?_of_block (w := w) (a := ⟨p, 2, none⟩) hp]; exact h.f2,
    ⟨h.ba.len, h.ba.cap, h.ba.max, h.ba.none, fun x hxa j b hj => by rw [World.cell?_of_block (w := w) (by rw [add_block]; exact hx x hxa)]; exact h.ba.cell x hxa j b hj⟩, fun x hxa => ⟨Nat.lt_of_lt_of_le (h.apart x hxa).1 hs, (h.apart x hxa).2⟩⟩
end Go.Proofs.YtogdkmkganpaaaaGreatDoor

namespace Go.Wi
open Go.RowKit
end Go.Wi
namespace Go.Proofs.YtogdkmkganpaaaaGreatDoor
open Go.RowKit Go.Lib Go.Wi Go.Tx
/-- Block b holds these cells, with no mark. -/
def AtE (w : World) (b : Nat) (arr : Array Value) : Prop := ∃ e, w.heap[b]? = some (.cells arr e (0, 0))
theorem AtE.lt {w : World} {b : Nat} {arr : Array Value} (h : AtE w b arr) : b < w.heap.size := by obtain ⟨e, h⟩ := h; exact (Array.getElem?_eq_some_iff.1 h).1
theorem AtE.cell {w : World} {b : Nat} {arr : Array Value} (h : AtE w b arr) {j : Nat} {v : Value} (hj : arr[j]? = some v) : w.cell? ⟨b, j, none⟩ = some v := by obtain ⟨e, h⟩ := h; simp [World.cell?, h, hj]
theorem AtE.below {w w' : World} {b : Nat} {arr : Array Value} (h : AtE w b arr) (hb : Below w.heap.size w w') : AtE w' b arr := by
  have hl := h.lt
  obtain ⟨e, h⟩ := h
  exact ⟨e, by rw [hb.block b hl]; exact h⟩
theorem AtE.new (w : World) (arr : Array Value) (e : TypeId) : AtE (w.alloc (.cells arr e)) w.heap.size arr := ⟨e, heap_alloc_new w _⟩
theorem AtE.next (w : World) (o : Obj) (arr : Array Value) (e : TypeId) : AtE ((w.alloc o).alloc (.cells arr e)) (w.heap.size + 1) arr := by
  have := AtE.new (w.alloc o) arr e
  have hs : (w.alloc o).heap.size = w.heap.size + 1 := by show (w.heap.push o).size = _; simp
  rw [hs] at this
  exact this
end Go.Proofs.YtogdkmkganpaaaaGreatDoor

namespace Go.Wi
open Go.RowKit
def u8V (c : UInt8) : Value := .int .u8 (c.toNat : Int)
theorem u8_of (z : Int) (h0 : 0 ≤ z) (h1 : z < 256) : ∃ x : UInt8, (x.toNat : Int) = z := ⟨UInt8.ofNat z.toNat, by rw [UInt8.toNat_ofNat_of_lt' (by show z.toNat < 256; omega)]; omega⟩
/-- What a call does: block p and the row of v may have turned, nothing else that was there. -/
structure WStep (p : Nat) (w w' : World) (v v' : Value) : Prop where
  os : w'.os = w.os
  tape : w'.tape = w.tape
  output : w'.output = w.output
  size : w.heap.size ≤ w'.heap.size
  same : ∀ j, j < w.heap.size → j ≠ p → v.ownBlock ≠ some j → w'.heap[j]? = w.heap[j]?
  row : ∀ g, v'.ownBlock = some g → v.ownBlock = some g ∨ w.heap.size ≤ g
theorem WStep.refl (p : Nat) (w : World) (v : Value) : WStep p w w v v := ⟨rfl, rfl, rfl, Nat.le_refl _, fun _ _ _ _ => rfl, fun _ h => .inl h⟩
theorem WStep.trans {p : Nat} {w w' w'' : World} {v v' v'' : Value} (h : WStep p w w' v v') (k : WStep p w' w'' v' v'') : WStep p w w'' v v'' :=
  ⟨k.os.trans h.os, k.tape.trans h.tape, k.output.trans h.output, Nat.le_trans h.size k.size, fun j a b c => (k.same j (Nat.lt_of_lt_of_le a h.size) b (fun e => by
    rcases h.row j e with q | q
    · exact c q
    · omega)).trans (h.same j a b c), fun g e => by
    rcases k.row g e with q | q
    · exact h.row g q
    · exact .inr (Nat.le_trans h.size q)⟩
theorem WStep.below {p : Nat} {w w' w'' : World} {v v' : Value} (h : WStep p w w' v v') (k : Below w'.heap.size w' w'') : WStep p w w'' v v' :=
  ⟨k.os.trans h.os, k.tape.trans h.tape, k.output.trans h.output, Nat.le_trans h.size k.size, fun j a b c => (k.block j (Nat.lt_of_lt_of_le a h.size)).trans (h.same j a b c), h.row⟩
theorem WStep.set {p : Nat} {w w' : World} {v v' : Value} (h : WStep p w w' v v') (k : Nat) (x : Value) : WStep p w (w'.setCell ⟨p, k, none⟩ x) v v' :=
  ⟨h.os, h.tape, h.output, by show w.heap.size ≤ (w'.heap.modify _ _).size; simpa using h.size, fun j a b c => by
    show (w'.heap.modify p _)[j]? = _
    rw [Array.getElem?_modify, if_neg (fun e => b e.symm)]; exact h.same j a b c, h.row⟩
end Go.Wi
namespace Go.Proofs.YtogdkmkganpaaaaGreatDoor
open Go.RowKit Go.Lib Go.Wi Go.Tx
def OwnB (B : Nat) (w : World) (v : Value) (l : List UInt8) : Prop := w.ownsRow B 5 1 v l.length (l.map Wi.u8V)
/-- The writer lies in block p: its bytes l in the value v, bad or not. -/
structure WR (B : Nat) (w : World) (p : Nat) (v : Value) (l : List UInt8) (bad : Bool) : Prop where
  blk : ∃ e, w.heap[p]? = some (.cells #[v, .bool bad] e (0, 0))
  own : OwnB B w v l
  apart : v.ownBlock ≠ some p
section
variable {B p : Nat} {w w' : World} {v : Value} {l : List UInt8} {bad : Bool}
theorem WR.lt (h : WR B w p v l bad) : p < w.heap.size := by obtain ⟨e, h⟩ := h.blk; exact (Array.getElem?_eq_some_iff.1 h).1
theorem WR.c0 (h : WR B w p v l bad) : w.cell? ⟨p, 0, none⟩ = some v := by obtain ⟨e, h⟩ := h.blk; simp [World.cell?, h]
theorem WR.c1 (h : WR B w p v l bad) : w.cell? ⟨p, 1, none⟩ = some (.bool bad) := by obtain ⟨e, h⟩ := h.blk; simp [World.cell?, h]
theorem WR.free (h : WR B w p v l bad) (j : Nat) : w.frozen? ⟨p, j, none⟩ = false := by obtain ⟨e, h⟩ := h.blk; simp [World.frozen?, h]
theorem WR.shape (h : WR B w p v l bad) : ∃ a c, v = .slice a l.length c := by
  rcases h.own.2 with ⟨a, b⟩ | ⟨g, cap, cur, a, _⟩
  · exact ⟨none, 0, by rw [a, b]⟩
  · exact ⟨_, _, a⟩
theorem WR.below (h : WR B w p v l bad) (hb : Below w.heap.size w w') : WR B w' p v l bad := by
  have hl := h.lt
  refine ⟨?_, own_below h.own hb, h.apart⟩
  obtain ⟨e, h⟩ := h.blk
  exact ⟨e, by rw [hb.block p hl]; exact h⟩
theorem WR.setbad (h : WR B w p v l bad) (b : Bool) : WR B (w.setCell ⟨p, 1, none⟩ (.bool b)) p v l b := by
  refine ⟨?_, ?_, h.apart⟩
  · obtain ⟨e, h⟩ := h.blk
    refine ⟨e, ?_⟩
    show (w.heap.modify p _)[p]? = _
    rw [Array.getElem?_modify]
    simp [h]
  · refine ⟨h.own.1, ?_⟩
    rcases h.own.2 with q | ⟨g, cap, cur, q1, q2, q3, q4⟩
    · exact .inl q
    · refine .inr ⟨g, cap, cur, q1, q2, ?_, q4⟩
      show (w.heap.modify p _)[g]? = _
      rw [Array.getElem?_modify, if_neg (fun e => h.apart (by rw [q1, e]; rfl))]
      exact q3
/-- Behind an append to the bytes and the store of what it gave. -/
theorem WR.put (h : WR B w p v l bad) {w5 : World} {v' : Value} {m : List UInt8} (ho : w5.ownsRow B 5 1 v' (l.length + m.length) (l.map Wi.u8V ++ m.map Wi.u8V)) (hg : w.grownBy w5 v.ownBlock) (hr : ∀ g, v'.ownBlock = some g → v.ownBlock = some g ∨ w.heap.size ≤ g) :
    WR B (w5.setCell ⟨p, 0, none⟩ v') p v' (l ++ m) bad ∧ WStep p w (w5.setCell ⟨p, 0, none⟩ v') v v' := by
  have hp := h.lt
  have hap : v'.ownBlock ≠ some p := fun e => by
    rcases hr p e with q | q
    · exact h.apart q
    · omega
  refine ⟨⟨?_, ?_, hap⟩, ⟨hg.os, hg.tape, hg.output, by show w.heap.size ≤ (w5.heap.modify _ _).size; simpa using hg.size, fun j a b c => ?_, hr⟩⟩
  · obtain ⟨e, hb⟩ := h.blk
    refine ⟨e, ?_⟩
    have h5 : w5.heap[p]? = some (.cells #[v, .bool bad] e (0, 0)) := by rw [hg.block p hp (fun e => h.apart e.symm)]; exact hb
    show (w5.heap.modify p _)[p]? = _
    rw [Array.getElem?_modify]
    simp [h5]
  · unfold OwnB
    rw [List.length_append, List.map_append]
    refine ⟨ho.1, ?_⟩
    rcases ho.2 with q | ⟨g, cap, cur, q1, q2, q3, q4⟩
    · exact .inl q
    · refine .inr ⟨g, cap, cur, q1, q2, ?_, q4⟩
      show (w5.heap.modify p _)[g]? = _
      rw [Array.getElem?_modify, if_neg (fun e => hap (by rw [q1, e]; rfl))]
      exact q3
  · show (w5.heap.modify p _)[j]? = _
    rw [Array.getElem?_modify, if_neg (fun e => b e.symm)]
    exact hg.block j a (fun e => c e.symm)
end
theorem infoU8 : (Tryz.prog.info? 5).map (fun i => (i.zero, i.size, i.bytes)) = some (some (.int .u8 0), 1, 1) := by kernel_rfl
theorem cells_of (w : World) (arr : Array Value) (e : TypeId) : ∀ j u, arr.toList[j]? = some u → (w.alloc (.cells arr e)).cell? ((⟨w.heap.size, 0, none⟩ : Addr).add j) = some u := by
  intro j u hj
  have ha : (⟨w.heap.size, 0, none⟩ : Addr).add j = ⟨w.heap.size, j, none⟩ := by unfold Addr.add; split <;> simp_all
  rw [ha, World.cell?_alloc_new]
  simpa using hj
def CheckR (w : World) (p : Nat) (b : Bool) (e : Ending) (w' : World) : Prop := e = .returned (.tuple #[]) ∧ w' = w.setCell ⟨p, 1, none⟩ (.bool b)
theorem wcheck_any {B p : Nat} {v : Value} {l : List UInt8} {bad : Bool} (h : Bool) (w : World) (hw : WR B w p v l bad) :
    Calls Tryz.prog 169 #[.pointer (some ⟨p, 0, none⟩), .bool h] w (CheckR w p (bad || !h)) := by
  have c1 := hw.c1
  have f1 := hw.free 1
  clear hw
  cases bad with
  | true =>
    go_enter Tryz.func169, Tryz.ntmps169
    go_wp2
    go_end0
    exact ⟨rfl, rfl⟩
  | false =>
    go_enter Tryz.func169, Tryz.ntmps169
    go_wp2
    go_end0
    exact ⟨rfl, by simp⟩
/-- What a number in two bytes leaves. -/
def WordR (B : Nat) (w : World) (p : Nat) (v : Value) (l : List UInt8) (b : Bool) (n : Int) (e : Ending) (w' : World) : Prop :=
  e = .returned (.tuple #[]) ∧ ∃ v' x y, WR B w' p v' (l ++ [x, y]) b ∧ WStep p w w' v v' ∧ (x.toNat : Int) = n / 256 % 256 ∧ (y.toNat : Int) = n % 256
set_option maxHeartbeats 1000000 in
set_option maxRecDepth 100000 in
theorem wword_any {B p : Nat} {v : Value} {l : List UInt8} {bad : Bool} (n least : Int) (w : World) (hw : WR B w p v l bad) (hB : B ≤ w.heap.size) (hl : l.length ≤ 1000000000) :
    Calls Tryz.prog 168 #[.pointer (some ⟨p, 0, none⟩), .int .i64 n, .int .i64 least] w (WordR B w p v l (bad || !(decide (least ≤ n) && decide (n ≤ 65535))) n) := by
  obtain ⟨i, hi, hz0, hz1, hz2⟩ := info_parts infoU8
  obtain ⟨va, vc, rfl⟩ := hw.shape
  have HW := Lib.hid hw
  have main : ∀ h b : Bool, (decide (least ≤ n) && decide (n ≤ 65535)) = h → (bad || !h) = b → Calls Tryz.prog 168 #[.pointer (some ⟨p, 0, none⟩), .int .i64 n, .int .i64 least] w (WordR B w p (.slice va l.length vc) l b n) := by
    intro h b hh hb
    have hc := wcheck_any h w hw
    rw [hb] at hc
    have HC := Lib.hid hc
    have HW1 := Lib.hid (hw.setbad b)
    have HS1 := Lib.hid ((WStep.refl p w (.slice va l.length vc)).set 1 (.bool b))
    have hB1 : B ≤ (w.setCell ⟨p, 1, none⟩ (.bool b)).heap.size := Nat.le_trans hB HS1.out.size
    clear hw hb hc
    have fin : ∀ (w1 w7 : World) (g7 cap7 : Nat) (z1 z2 : Int), z1 = n / 256 % 256 → z2 = n % 256 → WR B w1 p (.slice va l.length vc) l b → WStep p w w1 (.slice va l.length vc) (.slice va l.length vc) →
        w7.ownsRow B 5 1 (.slice (some ⟨g7, 0, none⟩) (l.length + 2) cap7) (l.length + 2) (l.map Wi.u8V ++ [.int .u8 z1, .int .u8 z2]) → (w1.alloc (.cells #[.int .u8 z1, .int .u8 z2] 5)).grownBy w7 (Value.slice va l.length vc).ownBlock → ((Value.slice va l.length vc).ownBlock = some g7 ∨ g7 = w1.heap.size + 1) →
        WordR B w p (.slice va l.length vc) l b n (.returned (.tuple #[])) (w7.setCell ⟨p, 0, none⟩ (.slice (some ⟨g7, 0, none⟩) (l.length + 2) cap7)) := by
      intro w1 w7 g7 cap7 z1 z2 e1 e2 hW hS hO hG hA
      obtain ⟨x, hx⟩ := u8_of z1 (by omega) (by omega)
      obtain ⟨y, hy⟩ := u8_of z2 (by omega) (by omega)
      have hal := (Below.refl w1.heap.size w1).alloc (Nat.le_refl _) (.cells #[.int .u8 z1, .int .u8 z2] 5)
      have h2 := (hW.below hal).put (v' := .slice (some ⟨g7, 0, none⟩) (l.length + 2) cap7) (m := [x, y]) (by rw [← hx, ← hy] at hO; exact hO) hG (fun g hg => by
        have e : g7 = g := by simpa [Value.ownBlock] using hg
        subst e
        rcases hA with h | h
        · exact .inl h
        · right
          have : (w1.alloc (.cells #[.int .u8 z1, .int .u8 z2] 5)).heap.size = w1.heap.size + 1 := by show (w1.heap.push _).size = _; simp
          omega)
      exact ⟨rfl, _, x, y, h2.1, (hS.below hal).trans h2.2, by rw [hx, e1], by rw [hy, e2]⟩
    have HFin := Lib.hid fin
    clear fin
    cases h with
    | true =>
      simp only [Bool.and_eq_true, decide_eq_true_eq] at hh
      obtain ⟨c1, c2⟩ := hh
      go_enter Tryz.func168, Tryz.ntmps168
      go_upto_region 1 with (go_at_call 169; refine HC.out.mono ?_; rintro e w' ⟨rfl, rfl⟩)
      generalize (w.setCell ⟨p, 1, none⟩ (.bool b)) = w1 at *
      have d0 := HW1.out.c0
      have HBA : Hid (∀ o, WR B (w1.alloc o) p (.slice va l.length vc) l b) := Lib.hid (fun o => HW1.out.below ((Below.refl _ _).alloc (Nat.le_refl _) o))
      go_wp2_with (at_builtin; go_loud (refine wpList_append_lies _ rfl _ _ _ rfl B 5 i (.int .u8 0) 1 1 Tryz.underlying22 hi hz0 hz1 hz2 rfl (by decide) (.slice va l.length vc) l.length (l.map Wi.u8V) rfl (World.ownsRow.alloc HW1.out.own _) ⟨w1.heap.size, 0, none⟩ 2 2 [_, _] rfl rfl (cells_of w1 _ _) (by simp [Value.oneCell']) (by decide) (by unfold maxLen; omega) (by omega) (by show B ≤ (w1.heap.push _).size; simp; omega) (w1.heap.size + 1) (by show (w1.heap.push _).size = _; simp) ?_; intro g7 cap7 w7 hown7 hg7 hat7 hlt7; have HO7 := Lib.hid hown7; have HG7 := Lib.hid hg7; have HA7 := Lib.hid hat7; have hk0 : w7.cell? ⟨p, 0, none⟩ = some (.slice va l.length vc) := (by rw [hg7.cell_far ⟨p, 0, none⟩ (HBA.out _).lt (fun e => HW1.out.apart e.symm)]; exact (HBA.out _).c0); have hf0 : w7.frozen? ⟨p, 0, none⟩ = false := (by rw [hg7.frozen_far ⟨p, 0, none⟩ (HBA.out _).lt (fun e => HW1.out.apart e.symm)]; exact (HBA.out _).free 0); clear hown7 hg7 hat7))
      go_end0
      exact HFin.out w1 _ _ _ _ _ rfl rfl HW1.out HS1.out HO7.out HG7.out HA7.out
    | false =>
      have hf : ¬ (least ≤ n ∧ n ≤ 65535) := fun e => by
        rw [decide_eq_true e.1, decide_eq_true e.2] at hh; cases hh
      by_cases c1 : least ≤ n
      · have c2 : ¬ n ≤ 65535 := fun e => hf ⟨c1, e⟩
        clear hf hh
        go_enter Tryz.func168, Tryz.ntmps168
        go_upto_region 1 with (go_at_call 169; refine HC.out.mono ?_; rintro e w' ⟨rfl, rfl⟩)
        generalize (w.setCell ⟨p, 1, none⟩ (.bool b)) = w1 at *
        have d0 := HW1.out.c0
        have HBA : Hid (∀ o, WR B (w1.alloc o) p (.slice va l.length vc) l b) := Lib.hid (fun o => HW1.out.below ((Below.refl _ _).alloc (Nat.le_refl _) o))
        go_wp2_with (at_builtin; go_loud (refine wpList_append_lies _ rfl _ _ _ rfl B 5 i (.int .u8 0) 1 1 Tryz.underlying22 hi hz0 hz1 hz2 rfl (by decide) (.slice va l.length vc) l.length (l.map Wi.u8V) rfl (World.ownsRow.alloc HW1.out.own _) ⟨w1.heap.size, 0, none⟩ 2 2 [_, _] rfl rfl (cells_of w1 _ _) (by simp [Value.oneCell']) (by decide) (by unfold maxLen; omega) (by omega) (by show B ≤ (w1.heap.push _).size; simp; omega) (w1.heap.size + 1) (by show (w1.heap.push _).size = _; simp) ?_; intro g7 cap7 w7 hown7 hg7 hat7 hlt7; have HO7 := Lib.hid hown7; have HG7 := Lib.hid hg7; have HA7 := Lib.hid hat7; have hk0 : w7.cell? ⟨p, 0, none⟩ = some (.slice va l.length vc) := (by rw [hg7.cell_far ⟨p, 0, none⟩ (HBA.out _).lt (fun e => HW1.out.apart e.symm)]; exact (HBA.out _).c0); have hf0 : w7.frozen? ⟨p, 0, none⟩ = false := (by rw [hg7.frozen_far ⟨p, 0, none⟩ (HBA.out _).lt (fun e => HW1.out.apart e.symm)]; exact (HBA.out _).free 0); clear hown7 hg7 hat7))
        go_end0
        exact HFin.out w1 _ _ _ _ _ rfl rfl HW1.out HS1.out HO7.out HG7.out HA7.out
      · clear hf hh
        go_enter Tryz.func168, Tryz.ntmps168
        go_upto_region 1 with (go_at_call 169; refine HC.out.mono ?_; rintro e w' ⟨rfl, rfl⟩)
        generalize (w.setCell ⟨p, 1, none⟩ (.bool b)) = w1 at *
        have d0 := HW1.out.c0
        have HBA : Hid (∀ o, WR B (w1.alloc o) p (.slice va l.length vc) l b) := Lib.hid (fun o => HW1.out.below ((Below.refl _ _).alloc (Nat.le_refl _) o))
        go_wp2_with (at_builtin; go_loud (refine wpList_append_lies _ rfl _ _ _ rfl B 5 i (.int .u8 0) 1 1 Tryz.underlying22 hi hz0 hz1 hz2 rfl (by decide) (.slice va l.length vc) l.length (l.map Wi.u8V) rfl (World.ownsRow.alloc HW1.out.own _) ⟨w1.heap.size, 0, none⟩ 2 2 [_, _] rfl rfl (cells_of w1 _ _) (by simp [Value.oneCell']) (by decide) (by unfold maxLen; omega) (by omega) (by show B ≤ (w1.heap.push _).size; simp; omega) (w1.heap.size + 1) (by show (w1.heap.push _).size = _; simp) ?_; intro g7 cap7 w7 hown7 hg7 hat7 hlt7; have HO7 := Lib.hid hown7; have HG7 := Lib.hid hg7; have HA7 := Lib.hid hat7; have hk0 : w7.cell? ⟨p, 0, none⟩ = some (.slice va l.length vc) := (by rw [hg7.cell_far ⟨p, 0, none⟩ (HBA.out _).lt (fun e => HW1.out.apart e.symm)]; exact (HBA.out _).c0); have hf0 : w7.frozen? ⟨p, 0, none⟩ = false := (by rw [hg7.frozen_far ⟨p, 0, none⟩ (HBA.out _).lt (fun e => HW1.out.apart e.symm)]; exact (HBA.out _).free 0); clear hown7 hg7 hat7))
        go_end0
        exact HFin.out w1 _ _ _ _ _ rfl rfl HW1.out HS1.out HO7.out HG7.out HA7.out
  exact main _ _ rfl rfl
end Go.Proofs.YtogdkmkganpaaaaGreatDoor

namespace Go.Tx
open Go.Lib
theorem low_all : ∀ i : Fin 256, low (low (UInt8.ofNat i.1)) = low (UInt8.ofNat i.1) ∧ (low (UInt8.ofNat i.1) = 46 ↔ UInt8.ofNat i.1 = 46) ∧ sign (low (UInt8.ofNat i.1)).toNat = sign (UInt8.ofNat i.1).toNat := by decide +kernel
theorem cleanV_cases (l : List UInt8) : (nameB (bare l) = true ∧ cleanV l = .tuple #[.string ⟨((bare l).map low).toArray⟩, .bool (isRoot l), .bool true]) ∨ (nameB (bare l) = false ∧ cleanV l = .tuple #[.string ⟨#[]⟩, .bool false, .bool false]) := by
  unfold cleanV
  cases h : nameB (bare l) with
  | true => exact .inl ⟨rfl, if_pos rfl⟩
  | false => exact .inr ⟨rfl, if_neg (by decide)⟩
end Go.Tx

namespace Go.Wi
open Go.Tx
/-- A cleaned name's bytes in a message. -/
def pieceB (x : List UInt8) : List UInt8 := UInt8.ofNat x.length :: x
def encP (n : List UInt8) : List UInt8 := (splitL 46 n).flatMap pieceB ++ [0]
/-- What Encode returns. -/
def encV (l : List UInt8) : Value := if nameB (bare l) = true then .tuple #[.string ⟨(encP ((bare l).map low)).toArray⟩, .bool true] else .tuple #[.string ⟨#[]⟩, .bool false]
theorem flat_len : ∀ (T : List (List UInt8)) (m : Nat), (∀ x ∈ T, x.length ≤ m) → (T.flatMap pieceB).length ≤ T.length * (m + 1)
  | [], m, _ => by simp
  | x :: T, m, h => by
    have ih := flat_len T m (fun y hy => h y (by simp [hy]))
    have hx := h x (by simp)
    rw [List.flatMap_cons, List.length_append, List.length_cons, Nat.succ_mul]
    have : (pieceB x).length = x.length + 1 := rfl
    omega
theorem flat_take {T : List (List UInt8)} {k : Nat} {x : List UInt8} (h : T[k]? = some x) : (T.take (k + 1)).flatMap pieceB = (T.take k).flatMap pieceB ++ [UInt8.ofNat x.length] ++ x := by
  have hk := (List.getElem?_eq_some_iff.1 h).1
  rw [List.getElem?_eq_getElem hk] at h
  cases h
  rw [List.take_succ_eq_append_getElem hk, List.flatMap_append]
  simp [pieceB]
end Go.Wi
namespace Go.Proofs.YtogdkmkganpaaaaGreatDoor
open Go.RowKit Go.Lib Go.Wi Go.Tx
theorem split46_any (s : ByteArray) (w : World) (hs : s.size ≤ 1000000) (hm : MaxAt w) :
    Calls Tryz.prog 156 #[.string s, .string ⟨#[46]⟩] w fun e w' => ∃ b, e = .returned (.slice (some ⟨b, 0, none⟩) (splitL 46 s.data.toList).length (splitL 46 s.data.toList).length) ∧ TextsAt w' b (splitL 46 s.data.toList).length (splitL 46 s.data.toList) ∧ Below w.heap.size w w' := by
  obtain ⟨m, hm⟩ := hm
  refine (Tryz.strings_Split s ⟨#[46]⟩ m w (by omega) hm (Nat.le_refl 1)).mono ?_
  rintro e w' ⟨rfl, rfl⟩
  have h := split_textsAt s w (by omega)
  rw [split_count] at h ⊢
  exact ⟨_, rfl, h, (Below.refl _ _).alloc (Nat.le_refl _) _⟩
/-- Bytes of the call's own, as a text. -/
theorem wown_str {B : Nat} {w : World} {v : Value} {l : List UInt8} (h : OwnB B w v l) (hl : 0 < l.length) : (convert 22 9 v).run Tryz.prog w = .ok (.string ⟨l.toArray⟩) w := by
  rcases h.2 with ⟨_, b⟩ | ⟨g, cap, cur, a, _⟩
  · omega
  · subst a
    refine run_convert_bytes_back w 22 9 5 ⟨g, 0, none⟩ cap l Tryz.underlying22 Tryz.underlying5 Tryz.underlying9 fun j hj => ?_
    have := World.ownsRow.cells h (g := g) rfl j (Wi.u8V l[j]) (by rw [List.getElem?_map, List.getElem?_eq_getElem hj]; rfl)
    exact this
theorem pieces_small (l : List UInt8) : ∀ x ∈ splitL 46 l, x.length ≤ l.length := fun x hx => by
  have := splitG_mem 46 l [] x hx
  simpa using this
set_option maxHeartbeats 2000000 in
set_option maxRecDepth 100000 in
theorem encode_any (s : ByteArray) (w : World) (hs : s.size ≤ maxLen) (hm : MaxAt w) :
    Calls Tryz.prog 214 #[.string s] w fun e w' => e = .returned (encV s.data.toList) ∧ Below w.heap.size w w' := by
  obtain ⟨i, hi, hz0, hz1, hz2⟩ := info_parts infoU8
  have HC := Lib.hid (clean_any s w hs hm)
  have HM := Lib.hid hm
  rcases cleanV_cases s.data.toList with ⟨hnb, hcv⟩ | ⟨hnb, hcv⟩
  · have HX1 : Hid (encV s.data.toList = .tuple #[.string ⟨(encP ((bare s.data.toList).map low)).toArray⟩, .bool true]) := Lib.hid (if_pos hnb)
    rw [hcv] at HC
    have hlen : ((bare s.data.toList).map low).length ≤ 253 := by
      rw [List.length_map]
      unfold nameB at hnb
      simp only [Bool.and_eq_true, decide_eq_true_eq] at hnb
      exact hnb.1
    clear hcv hnb hs hm
    generalize (bare s.data.toList).map low = kk at *
    have HSp := Lib.hid (fun W hM => split46_any ⟨kk.toArray⟩ W (by show kk.toArray.size ≤ 1000000; simp; omega) hM)
    have e1 : (ByteArray.data ⟨kk.toArray⟩).toList = kk := rfl
    rw [e1] at HSp
    have hpn := (splitG_len 46 kk []).2
    have hps := pieces_small kk
    obtain ⟨T, hT⟩ : ∃ T, splitL 46 kk = T := ⟨_, rfl⟩
    have hTl : T.length ≤ 254 := by rw [← hT]; unfold splitL; omega
    rw [hT] at HSp hps
    have HT := Lib.hid hT
    have HPs : Hid (∀ x ∈ T, x.length ≤ 253) := Lib.hid (fun x hx => Nat.le_trans (hps x hx) hlen)
    clear hT hps hpn e1
    obtain ⟨m, hmT⟩ : ∃ m, T.length = m := ⟨_, rfl⟩
    rw [hmT] at HSp hTl
    have HmT := Lib.hid hmT
    clear hmT
    go_enter Tryz.func214, Tryz.ntmps214
    go_wp2_with (first | (go_at_call 98; refine HC.out.mono ?_; rintro e w2 ⟨rfl, hb2⟩; have HB2 := Lib.hid hb2; clear hb2) | (go_at_call 156; refine (HSp.out _ (HM.out.below HB2.out)).mono ?_; rintro e w3 ⟨b3, rfl, ht3, hb3⟩; have HT3 := Lib.hid ht3; have HB3 := Lib.hid (HB2.out.trans (hb3.mono HB2.out.size)); clear ht3 hb3))
    go_loopw [7, 21] (fun cv iv wr => ∃ k : Nat, k ≤ m ∧ iv = .int .i64 k ∧ OwnB w3.heap.size wr cv ((T.take k).flatMap pieceB) ∧ Below w3.heap.size w3 wr) (fun _ iv _ => m - (intOf iv).toNat)
    case atStart => exact ⟨0, Nat.zero_le _, rfl, World.ownsRow_nil _ _ _ _, Below.refl _ _⟩
    case round =>
      obtain ⟨k, hk, rfl, hown, hbr⟩ := hrel
      have hfl : ((T.take k).flatMap pieceB).length ≤ 70000 := by
        have h1 := flat_len (T.take k) 253 (fun x hx => HPs.out x (List.mem_of_mem_take hx))
        have h2 := List.length_take_le k T
        have h3 := HmT.out
        have h4 : (T.take k).length * 254 ≤ 254 * 254 := Nat.mul_le_mul_right _ (by omega)
        omega
      obtain ⟨P, hP⟩ : ∃ P, (T.take k).flatMap pieceB = P := ⟨_, rfl⟩
      rw [hP] at hown hfl
      have HP := Lib.hid hP
      have HOw := Lib.hid hown
      have HBr := Lib.hid hbr
      clear hP hown
      by_cases hlt : k < m
      · obtain ⟨x, hx⟩ : ∃ x, T[k]? = some x := ⟨_, List.getElem?_eq_getElem (by rw [HmT.out]; exact hlt)⟩
        have hxl := HPs.out x (List.mem_of_getElem? hx)
        have hcell := (HT3.out.below hbr).cell k x hx
        have HTk := Lib.hid (flat_take hx)
        obtain ⟨xb, hxb⟩ : ∃ q : ByteArray, (⟨x.toArray⟩ : ByteArray) = q := ⟨_, rfl⟩
        have hxs : xb.size = x.length := by rw [← hxb]; show x.toArray.size = _; simp
        have HXd : Hid (xb.data.toList = x) := Lib.hid (by rw [← hxb])
        rw [hxb] at hcell
        have hx255 : (xb.size : Int) ≤ 253 := by omega
        clear hx hxb hbr
        go_wp2_with (first | (at_builtin; refine wpList_append_own _ rfl _ _ 22 rfl w3.heap.size 5 i (.int .u8 0) 1 1 Tryz.underlying22 hi hz0 hz1 hz2 rfl (by decide) _ P.length (P.map Wi.u8V) rfl (World.ownsRow.alloc HOw.out _) ⟨wr.heap.size, 0, none⟩ 1 1 [_] rfl rfl (cells_of wr _ _) (by simp [Value.oneCell']) (by unfold maxLen; omega) (by omega) (by have := HBr.out.size; show w3.heap.size ≤ (wr.heap.push _).size; simp; omega) ?_; intro v5 w5 hown5 hg5 _; have HO5 := Lib.hid hown5; have HG5 := Lib.hid hg5; have hs5 : wr.heap.size ≤ w5.heap.size := Nat.le_trans (by show wr.heap.size ≤ (wr.heap.push _).size; simp) hg5.size; clear hown5 hg5) | (at_builtin; refine wpList_append_own_string w5 rfl _ _ 22 9 rfl w3.heap.size 5 i Tryz.underlying22 Tryz.underlying9 hi hz0 hz1 hz2 _ (P.length + 1) _ rfl HO5.out xb rfl (by unfold maxLen; omega) (by omega) (by have := HBr.out.size; omega) ?_; intro v6 w6 hown6 hg6 _))
        go_roundw
        case rel =>
          have hB6 : Below w3.heap.size w3 w6 := (((HBr.out.alloc HBr.out.size _).grown HG5.out (by have := HBr.out.size; show w3.heap.size ≤ (wr.heap.push _).size; simp; omega) (fun g hg => (World.ownsRow.lt HOw.out g hg).1)).grown hg6 (by have := HBr.out.size; omega) (fun g hg => (World.ownsRow.lt HO5.out g hg).1))
          refine ⟨k + 1, hlt, by go_num, ?_, hB6⟩
          rw [HTk.out, HP.out]
          unfold OwnB
          have e1 : (P ++ [UInt8.ofNat x.length] ++ x).length = P.length + 1 + xb.size := by rw [hxs]; simp only [List.length_append, List.length_singleton]
          have e2 : (P ++ [UInt8.ofNat x.length] ++ x).map Wi.u8V = P.map Wi.u8V ++ [Value.int .u8 (x.length : Int)] ++ strCells xb := by
            rw [List.map_append, List.map_append]
            have q1 : [UInt8.ofNat x.length].map Wi.u8V = [Value.int .u8 (x.length : Int)] := by
              simp only [List.map_cons, List.map_nil, Wi.u8V]
              rw [UInt8.toNat_ofNat_of_lt' (by show x.length < 256; omega)]
            have q2 : strCells xb = x.map Wi.u8V := by unfold strCells; rw [HXd.out]; rfl
            rw [q1, q2]
          rw [e1, e2]
          exact hown6
        case measure => simp [intOf]; omega
      · obtain rfl : k = m := by omega
        have HPe : Hid ((splitL 46 kk).flatMap pieceB = P) := Lib.hid (by rw [HT.out, ← HP.out, List.take_of_length_le (by rw [HmT.out]; exact Nat.le_refl _)])
        clear hbr
        go_wp2_with (at_builtin; refine wpList_append_own _ rfl _ _ 22 rfl w3.heap.size 5 i (.int .u8 0) 1 1 Tryz.underlying22 hi hz0 hz1 hz2 rfl (by decide) _ P.length (P.map Wi.u8V) rfl (World.ownsRow.alloc HOw.out _) ⟨wr.heap.size, 0, none⟩ 1 1 [_] rfl rfl (cells_of wr _ _) (by simp [Value.oneCell']) (by unfold maxLen; omega) (by omega) (by have := HBr.out.size; show w3.heap.size ≤ (wr.heap.push _).size; simp; omega) ?_; intro v5 w5 hown5 hg5 _; have HO5 : Hid (OwnB w3.heap.size w5 v5 (P ++ [0])) := Lib.hid (by unfold OwnB; rw [List.length_append, List.map_append]; exact hown5); have HG5 := Lib.hid hg5; have hstr := wown_str HO5.out (by simp); clear hown5 hg5)
        go_ret2
        refine ⟨by rw [HX1.out]; unfold encP; rw [HPe.out]; rfl, ?_⟩
        have hB5 : Below w3.heap.size w3 w5 := (HBr.out.alloc HBr.out.size _).grown HG5.out (by have := HBr.out.size; show w3.heap.size ≤ (wr.heap.push _).size; simp; omega) (fun g hg => (World.ownsRow.lt HOw.out g hg).1)
        exact HB3.out.trans (hB5.mono HB3.out.size)
  · have HX : Hid (encV s.data.toList = .tuple #[.string ⟨#[]⟩, .bool false]) := Lib.hid (if_neg (by rw [hnb]; decide))
    rw [hcv] at HC
    clear hcv hnb hs hm
    go_enter Tryz.func214, Tryz.ntmps214
    go_wp2_with (go_at_call 98; refine HC.out.mono ?_; rintro e w2 ⟨rfl, hb⟩)
    go_ret2
    exact ⟨by rw [HX.out]; rfl, hb⟩
end Go.Proofs.YtogdkmkganpaaaaGreatDoor

namespace Go.Proofs.YtogdkmkganpaaaaGreatDoor
open Go.RowKit Go.Lib Go.Wi Go.Tx
/-- What a TTL in four bytes leaves. -/
def LifeR (B : Nat) (w : World) (p : Nat) (v : Value) (l : List UInt8) (b : Bool) (n : Int) (e : Ending) (w' : World) : Prop :=
  e = .returned (.tuple #[]) ∧ ∃ v' a c x y, WR B w' p v' (l ++ [a, c, x, y]) b ∧ WStep p w w' v v' ∧ (a.toNat : Int) = n / 16777216 % 256 ∧ (c.toNat : Int) = n / 65536 % 256 ∧ (x.toNat : Int) = n / 256 % 256 ∧ (y.toNat : Int) = n % 256
set_option maxHeartbeats 1000000 in
set_option maxRecDepth 100000 in
theorem wlife_any {B p : Nat} {v : Value} {l : List UInt8} {bad : Bool} (n : Int) (w : World) (hw : WR B w p v l bad) (hB : B ≤ w.heap.size) (hl : l.length ≤ 1000000000) :
    Calls Tryz.prog 193 #[.pointer (some ⟨p, 0, none⟩), .int .i64 n] w (LifeR B w p v l (bad || !(decide (0 ≤ n) && decide (n ≤ 2147483647))) n) := by
  obtain ⟨i, hi, hz0, hz1, hz2⟩ := info_parts infoU8
  obtain ⟨va, vc, rfl⟩ := hw.shape
  have HW := Lib.hid hw
  have main : ∀ h b : Bool, (decide (0 ≤ n) && decide (n ≤ 2147483647)) = h → (bad || !h) = b → Calls Tryz.prog 193 #[.pointer (some ⟨p, 0, none⟩), .int .i64 n] w (LifeR B w p (.slice va l.length vc) l b n) := by
    intro h b hh hb
    have hc := wcheck_any h w hw
    rw [hb] at hc
    have HC := Lib.hid hc
    have HW1 := Lib.hid (hw.setbad b)
    have HS1 := Lib.hid ((WStep.refl p w (.slice va l.length vc)).set 1 (.bool b))
    have hB1 : B ≤ (w.setCell ⟨p, 1, none⟩ (.bool b)).heap.size := Nat.le_trans hB HS1.out.size
    clear hw hb hc
    have fin : ∀ (w1 w7 : World) (g7 cap7 : Nat) (y1 y2 z1 z2 : Int), y1 = n / 16777216 % 256 → y2 = n / 65536 % 256 → z1 = n / 256 % 256 → z2 = n % 256 → WR B w1 p (.slice va l.length vc) l b → WStep p w w1 (.slice va l.length vc) (.slice va l.length vc) →
        w7.ownsRow B 5 1 (.slice (some ⟨g7, 0, none⟩) (l.length + 4) cap7) (l.length + 4) (l.map Wi.u8V ++ [.int .u8 y1, .int .u8 y2, .int .u8 z1, .int .u8 z2]) → (w1.alloc (.cells #[.int .u8 y1, .int .u8 y2, .int .u8 z1, .int .u8 z2] 5)).grownBy w7 (Value.slice va l.length vc).ownBlock → ((Value.slice va l.length vc).ownBlock = some g7 ∨ g7 = w1.heap.size + 1) →
        LifeR B w p (.slice va l.length vc) l b n (.returned (.tuple #[])) (w7.setCell ⟨p, 0, none⟩ (.slice (some ⟨g7, 0, none⟩) (l.length + 4) cap7)) := by
      intro w1 w7 g7 cap7 y1 y2 z1 z2 d1 d2 e1 e2 hW hS hO hG hA
      obtain ⟨a, ha⟩ := u8_of y1 (by omega) (by omega)
      obtain ⟨c, hc⟩ := u8_of y2 (by omega) (by omega)
      obtain ⟨x, hx⟩ := u8_of z1 (by omega) (by omega)
      obtain ⟨y, hy⟩ := u8_of z2 (by omega) (by omega)
      have hal := (Below.refl w1.heap.size w1).alloc (Nat.le_refl _) (.cells #[.int .u8 y1, .int .u8 y2, .int .u8 z1, .int .u8 z2] 5)
      have h2 := (hW.below hal).put (v' := .slice (some ⟨g7, 0, none⟩) (l.length + 4) cap7) (m := [a, c, x, y]) (by rw [← hx, ← hy, ← ha, ← hc] at hO; exact hO) hG (fun g hg => by
        have e : g7 = g := by simpa [Value.ownBlock] using hg
        subst e
        rcases hA with h | h
        · exact .inl h
        · right
          have : (w1.alloc (.cells #[.int .u8 y1, .int .u8 y2, .int .u8 z1, .int .u8 z2] 5)).heap.size = w1.heap.size + 1 := by show (w1.heap.push _).size = _; simp
          omega)
      exact ⟨rfl, _, a, c, x, y, h2.1, (hS.below hal).trans h2.2, by rw [ha, d1], by rw [hc, d2], by rw [hx, e1], by rw [hy, e2]⟩
    have HFin := Lib.hid fin
    clear fin
    cases h with
    | true =>
      simp only [Bool.and_eq_true, decide_eq_true_eq] at hh
      obtain ⟨c1, c2⟩ := hh
      go_enter Tryz.func193, Tryz.ntmps193
      go_upto_region 1 with (go_at_call 169; refine HC.out.mono ?_; rintro e w' ⟨rfl, rfl⟩)
      generalize (w.setCell ⟨p, 1, none⟩ (.bool b)) = w1 at *
      have d0 := HW1.out.c0
      have HBA : Hid (∀ o, WR B (w1.alloc o) p (.slice va l.length vc) l b) := Lib.hid (fun o => HW1.out.below ((Below.refl _ _).alloc (Nat.le_refl _) o))
      go_wp2_with (at_builtin; go_loud (refine wpList_append_lies _ rfl _ _ _ rfl B 5 i (.int .u8 0) 1 1 Tryz.underlying22 hi hz0 hz1 hz2 rfl (by decide) (.slice va l.length vc) l.length (l.map Wi.u8V) rfl (World.ownsRow.alloc HW1.out.own _) ⟨w1.heap.size, 0, none⟩ 4 4 [_, _, _, _] rfl rfl (cells_of w1 _ _) (by simp [Value.oneCell']) (by decide) (by unfold maxLen; omega) (by omega) (by show B ≤ (w1.heap.push _).size; simp; omega) (w1.heap.size + 1) (by show (w1.heap.push _).size = _; simp) ?_; intro g7 cap7 w7 hown7 hg7 hat7 hlt7; have HO7 := Lib.hid hown7; have HG7 := Lib.hid hg7; have HA7 := Lib.hid hat7; have hk0 : w7.cell? ⟨p, 0, none⟩ = some (.slice va l.length vc) := (by rw [hg7.cell_far ⟨p, 0, none⟩ (HBA.out _).lt (fun e => HW1.out.apart e.symm)]; exact (HBA.out _).c0); have hf0 : w7.frozen? ⟨p, 0, none⟩ = false := (by rw [hg7.frozen_far ⟨p, 0, none⟩ (HBA.out _).lt (fun e => HW1.out.apart e.symm)]; exact (HBA.out _).free 0); clear hown7 hg7 hat7))
      go_end0
      exact HFin.out w1 _ _ _ (n / 16777216) _ _ _ (by omega) rfl rfl rfl HW1.out HS1.out HO7.out HG7.out HA7.out
    | false =>
      have hf : ¬ (0 ≤ n ∧ n ≤ 2147483647) := fun e => by
        rw [decide_eq_true e.1, decide_eq_true e.2] at hh; cases hh
      by_cases c1 : 0 ≤ n
      · have c2 : ¬ n ≤ 2147483647 := fun e => hf ⟨c1, e⟩
        clear hf hh
        go_enter Tryz.func193, Tryz.ntmps193
        go_upto_region 1 with (go_at_call 169; refine HC.out.mono ?_; rintro e w' ⟨rfl, rfl⟩)
        generalize (w.setCell ⟨p, 1, none⟩ (.bool b)) = w1 at *
        have d0 := HW1.out.c0
        have HBA : Hid (∀ o, WR B (w1.alloc o) p (.slice va l.length vc) l b) := Lib.hid (fun o => HW1.out.below ((Below.refl _ _).alloc (Nat.le_refl _) o))
        go_wp2_with (at_builtin; go_loud (refine wpList_append_lies _ rfl _ _ _ rfl B 5 i (.int .u8 0) 1 1 Tryz.underlying22 hi hz0 hz1 hz2 rfl (by decide) (.slice va l.length vc) l.length (l.map Wi.u8V) rfl (World.ownsRow.alloc HW1.out.own _) ⟨w1.heap.size, 0, none⟩ 4 4 [_, _, _, _] rfl rfl (cells_of w1 _ _) (by simp [Value.oneCell']) (by decide) (by unfold maxLen; omega) (by omega) (by show B ≤ (w1.heap.push _).size; simp; omega) (w1.heap.size + 1) (by show (w1.heap.push _).size = _; simp) ?_; intro g7 cap7 w7 hown7 hg7 hat7 hlt7; have HO7 := Lib.hid hown7; have HG7 := Lib.hid hg7; have HA7 := Lib.hid hat7; have hk0 : w7.cell? ⟨p, 0, none⟩ = some (.slice va l.length vc) := (by rw [hg7.cell_far ⟨p, 0, none⟩ (HBA.out _).lt (fun e => HW1.out.apart e.symm)]; exact (HBA.out _).c0); have hf0 : w7.frozen? ⟨p, 0, none⟩ = false := (by rw [hg7.frozen_far ⟨p, 0, none⟩ (HBA.out _).lt (fun e => HW1.out.apart e.symm)]; exact (HBA.out _).free 0); clear hown7 hg7 hat7))
        go_end0
        exact HFin.out w1 _ _ _ _ _ _ _ rfl rfl rfl rfl HW1.out HS1.out HO7.out HG7.out HA7.out
      · clear hf hh
        go_enter Tryz.func193, Tryz.ntmps193
        go_upto_region 1 with (go_at_call 169; refine HC.out.mono ?_; rintro e w' ⟨rfl, rfl⟩)
        generalize (w.setCell ⟨p, 1, none⟩ (.bool b)) = w1 at *
        have d0 := HW1.out.c0
        have HBA : Hid (∀ o, WR B (w1.alloc o) p (.slice va l.length vc) l b) := Lib.hid (fun o => HW1.out.below ((Below.refl _ _).alloc (Nat.le_refl _) o))
        go_wp2_with (at_builtin; go_loud (refine wpList_append_lies _ rfl _ _ _ rfl B 5 i (.int .u8 0) 1 1 Tryz.underlying22 hi hz0 hz1 hz2 rfl (by decide) (.slice va l.length vc) l.length (l.map Wi.u8V) rfl (World.ownsRow.alloc HW1.out.own _) ⟨w1.heap.size, 0, none⟩ 4 4 [_, _, _, _] rfl rfl (cells_of w1 _ _) (by simp [Value.oneCell']) (by decide) (by unfold maxLen; omega) (by omega) (by show B ≤ (w1.heap.push _).size; simp; omega) (w1.heap.size + 1) (by show (w1.heap.push _).size = _; simp) ?_; intro g7 cap7 w7 hown7 hg7 hat7 hlt7; have HO7 := Lib.hid hown7; have HG7 := Lib.hid hg7; have HA7 := Lib.hid hat7; have hk0 : w7.cell? ⟨p, 0, none⟩ = some (.slice va l.length vc) := (by rw [hg7.cell_far ⟨p, 0, none⟩ (HBA.out _).lt (fun e => HW1.out.apart e.symm)]; exact (HBA.out _).c0); have hf0 : w7.frozen? ⟨p, 0, none⟩ = false := (by rw [hg7.frozen_far ⟨p, 0, none⟩ (HBA.out _).lt (fun e => HW1.out.apart e.symm)]; exact (HBA.out _).free 0); clear hown7 hg7 hat7))
        go_end0
        exact HFin.out w1 _ _ _ _ _ _ _ rfl rfl rfl rfl HW1.out HS1.out HO7.out HG7.out HA7.out
  exact main _ _ rfl rfl
end Go.Proofs.YtogdkmkganpaaaaGreatDoor

namespace Go.Wi
open Go.Tx
def cleS (l : List UInt8) : List UInt8 := if nameB (bare l) = true then (bare l).map low else []
def encS (l : List UInt8) : List UInt8 := if nameB (bare l) = true then encP ((bare l).map low) else []
/-- This name is a clean one. -/
def okS (l : List UInt8) : Bool := nameB (bare l) && decide (cleS l = l)
/-- A name as a message has it; nothing, if it is none. -/
def codS (l : List UInt8) : List UInt8 := encS (cleS l)
theorem encV_S (l : List UInt8) : encV l = .tuple #[.string ⟨(encS l).toArray⟩, .bool (nameB (bare l))] := by
  unfold encV encS
  cases h : nameB (bare l) <;> simp
theorem encP_len (n : List UInt8) (h : n.length ≤ 253) : (encP n).length ≤ 65000 := by
  have h1 := flat_len (splitL 46 n) 253 (fun x hx => by
    have := splitG_mem 46 n [] x hx
    have h2 : x.length ≤ n.length := by simpa using this
    omega)
  have h2 := (splitG_len 46 n []).2
  have h3 : (splitL 46 n).length ≤ 254 := by unfold splitL; omega
  have h4 : (splitL 46 n).length * 254 ≤ 254 * 254 := Nat.mul_le_mul_right _ h3
  unfold encP
  rw [List.length_append, List.length_singleton]
  omega
theorem encS_len (n : List UInt8) : (encS n).length ≤ 65000 := by
  unfold encS
  split
  · rename_i h
    unfold nameB at h
    simp only [Bool.and_eq_true, decide_eq_true_eq] at h
    exact encP_len _ (by rw [List.length_map]; exact h.1)
  · simp
end Go.Wi
namespace Go.Proofs.YtogdkmkganpaaaaGreatDoor
open Go.RowKit Go.Lib Go.Wi Go.Tx
theorem max_step {B p : Nat} {w w' : World} {v v' : Value} {l : List UInt8} {b : Bool} (hm : MaxAt w) (hw : WR B w p v l b) (h : WStep p w w' v v') (hp : 0 < p) (hB : 0 < B) : MaxAt w' := by
  have h0 := hm.lt
  obtain ⟨m, hm⟩ := hm
  refine ⟨m, ?_⟩
  have e := h.same 0 h0 (by omega) (fun e => by have := (World.ownsRow.lt hw.own 0 e).1; omega)
  unfold World.cell? at hm ⊢
  rw [e]
  exact hm
/-- What coded gives, and what it leaves of the writer. -/
def CodedR (B : Nat) (w : World) (p : Nat) (v : Value) (l : List UInt8) (b : Bool) (n : List UInt8) (e : Ending) (w' : World) : Prop :=
  e = .returned (.string ⟨(codS n).toArray⟩) ∧ WR B w' p v l (b || !okS n) ∧ WStep p w w' v v
set_option maxHeartbeats 2000000 in
set_option maxRecDepth 100000 in
theorem wcoded_any {B p : Nat} {v : Value} {l : List UInt8} {bad : Bool} (s : ByteArray) (w : World) (hs : s.size ≤ maxLen) (hm : MaxAt w) (hw : WR B w p v l bad) (hp : 0 < p) (hB : 0 < B) :
    Calls Tryz.prog 192 #[.pointer (some ⟨p, 0, none⟩), .string s] w (CodedR B w p v l bad s.data.toList) := by
  have main : ∀ (D : ByteArray) (r ok h b : Bool), cleanV s.data.toList = .tuple #[.string D, .bool r, .bool ok] → D.data.toList = cleS s.data.toList → (ok = true → (D = s ↔ h = true)) → (ok = false → h = false) → (okS s.data.toList = h) → (bad || !h) = b → D.size ≤ maxLen →
      Calls Tryz.prog 192 #[.pointer (some ⟨p, 0, none⟩), .string s] w (CodedR B w p v l bad s.data.toList) := by
    intro D r ok h b hcv hD ht hf hk hb hDs
    have HX : Hid (encV D.data.toList = .tuple #[.string ⟨(codS s.data.toList).toArray⟩, .bool (nameB (bare D.data.toList))]) := Lib.hid (by rw [encV_S, hD]; rfl)
    have HK : Hid ((bad || !okS s.data.toList) = b) := Lib.hid (by rw [hk, hb])
    have hc := clean_any s w hs hm
    rw [hcv] at hc
    have HC := Lib.hid hc
    have HCh : Hid (∀ W, WR B W p v l bad → Calls Tryz.prog 169 #[.pointer (some ⟨p, 0, none⟩), .bool h] W (CheckR W p b)) := Lib.hid (fun W hW => hb ▸ wcheck_any h W hW)
    have HE : Hid (∀ W, MaxAt W → Calls Tryz.prog 214 #[.string D] W fun e w' => e = .returned (encV D.data.toList) ∧ Below W.heap.size W w') := Lib.hid (fun W hW => encode_any D W hDs hW)
    rw [HX.out] at HE
    have HW := Lib.hid hw
    have HM := Lib.hid hm
    have HFin : Hid (∀ w1 w3, Below w.heap.size w w1 → Below (w1.setCell ⟨p, 1, none⟩ (.bool b)).heap.size (w1.setCell ⟨p, 1, none⟩ (.bool b)) w3 → WR B w3 p v l b ∧ WStep p w w3 v v) := Lib.hid (fun w1 w3 h1 h3 => ⟨((hw.below h1).setbad b).below h3, (((WStep.refl p w v).below h1).set 1 (.bool b)).below h3⟩)
    have HMx : Hid (∀ w1, Below w.heap.size w w1 → MaxAt (w1.setCell ⟨p, 1, none⟩ (.bool b))) := Lib.hid (fun w1 h1 => max_step hm hw (((WStep.refl p w v).below h1).set 1 (.bool b)) hp hB)
    clear hcv hD hk hb hw hm hc hs hDs
    cases ok with
    | true =>
      have ht := ht rfl
      cases h with
      | true =>
        have heq : D = s := ht.2 rfl
        subst heq
        clear ht hf
        go_enter Tryz.func192, Tryz.ntmps192
        go_wp2_with (first | (go_at_call 98; refine HC.out.mono ?_; rintro e w1 ⟨rfl, hb1⟩; have HB1 := Lib.hid hb1; clear hb1) | (go_at_call 169; refine (HCh.out _ (HW.out.below HB1.out)).mono ?_; rintro e w2 ⟨rfl, rfl⟩) | (go_at_call 214; refine (HE.out _ (HMx.out _ HB1.out)).mono ?_; rintro e w3 ⟨rfl, hb3⟩; have HB3 := Lib.hid hb3; clear hb3))
        go_ret
        exact ⟨rfl, by rw [HK.out]; exact (HFin.out _ _ HB1.out HB3.out).1, (HFin.out _ _ HB1.out HB3.out).2⟩
      | false =>
        have hne : ¬ D = s := fun e => by have := ht.1 e; cases this
        have hne2 : (D.toList == s.toList) = false := beq_eq_false_iff_ne.2 (by rw [Go.Lib.toList_data, Go.Lib.toList_data]; exact fun e => hne (ByteArray.ext (Array.ext' e)))
        clear ht hf
        go_enter Tryz.func192, Tryz.ntmps192
        go_wp2_with (first | (go_at_call 98; refine HC.out.mono ?_; rintro e w1 ⟨rfl, hb1⟩; have HB1 := Lib.hid hb1; clear hb1) | (go_at_call 169; refine (HCh.out _ (HW.out.below HB1.out)).mono ?_; rintro e w2 ⟨rfl, rfl⟩) | (go_at_call 214; refine (HE.out _ (HMx.out _ HB1.out)).mono ?_; rintro e w3 ⟨rfl, hb3⟩; have HB3 := Lib.hid hb3; clear hb3))
        go_ret
        exact ⟨rfl, by rw [HK.out]; exact (HFin.out _ _ HB1.out HB3.out).1, (HFin.out _ _ HB1.out HB3.out).2⟩
    | false =>
      have hh := hf rfl
      subst hh
      clear ht hf
      go_enter Tryz.func192, Tryz.ntmps192
      go_wp2_with (first | (go_at_call 98; refine HC.out.mono ?_; rintro e w1 ⟨rfl, hb1⟩; have HB1 := Lib.hid hb1; clear hb1) | (go_at_call 169; refine (HCh.out _ (HW.out.below HB1.out)).mono ?_; rintro e w2 ⟨rfl, rfl⟩) | (go_at_call 214; refine (HE.out _ (HMx.out _ HB1.out)).mono ?_; rintro e w3 ⟨rfl, hb3⟩; have HB3 := Lib.hid hb3; clear hb3))
      go_ret
      exact ⟨rfl, by rw [HK.out]; exact (HFin.out _ _ HB1.out HB3.out).1, (HFin.out _ _ HB1.out HB3.out).2⟩
  rcases cleanV_cases s.data.toList with ⟨hnb, hcv⟩ | ⟨hnb, hcv⟩
  · have hcl : cleS s.data.toList = (bare s.data.toList).map low := if_pos hnb
    refine main _ _ _ (decide (cleS s.data.toList = s.data.toList)) _ hcv hcl.symm (fun _ => ?_) (fun e => by cases e) (by unfold okS; rw [hnb, Bool.true_and]) rfl ?_
    · rw [decide_eq_true_eq, hcl]
      constructor
      · exact fun e => congrArg (fun q : ByteArray => q.data.toList) e
      · exact fun e => ByteArray.ext (Array.ext' e)
    · have : ((bare s.data.toList).map low).length ≤ 253 := by
        rw [List.length_map]
        unfold nameB at hnb
        simp only [Bool.and_eq_true, decide_eq_true_eq] at hnb
        exact hnb.1
      show ((bare s.data.toList).map low).toArray.size ≤ maxLen
      simp only [List.size_toArray]
      unfold maxLen
      omega
  · have hcl : cleS s.data.toList = [] := if_neg (by rw [hnb]; decide)
    exact main _ _ _ false _ hcv hcl.symm (fun e => by cases e) (fun _ => rfl) (by unfold okS; rw [hnb, Bool.false_and]) rfl (by decide)
end Go.Proofs.YtogdkmkganpaaaaGreatDoor

namespace Go.Wi
open Go.RowKit Go.Lib
theorem own_shape {w : World} {base : Nat} {e : TypeId} {size : Nat} {v : Value} {n : Nat} {xs : List Value} (h : w.ownsRow base e size v n xs) : ∃ a c, v = .slice a n c := by
  rcases h.2 with ⟨a, b⟩ | ⟨g, cap, cur, a, _⟩
  · exact ⟨none, 0, by rw [a, b]⟩
  · exact ⟨_, _, a⟩
section
variable {P : Program} (w : World)
theorem run_append_str_lies (base : Nat) (t u ty e : TypeId) (i : TypeInfo) (ht : P.underlying t = some (.slice e)) (hu : P.underlying u = some .string) (hi : P.info? e = some i) (hz : i.zero = some (.int .u8 0))
    (hsize : i.size = 1) (hby : i.bytes = 1)
    (v : Value) (n : Nat) (xs : List Value) (hown : w.ownsRow base e 1 v n xs) (s : ByteArray)
    (h63 : n + s.size ≤ maxLen) (hbytes : n + s.size ≤ 140737488355328) (hbase : base ≤ w.heap.size) :
    ∃ v' w', (Builtin.append_ #[t, u] ty #[v, .string s]).run P w = .ok v' w' ∧ w'.ownsRow base e 1 v' (n + s.size) (xs ++ strCells s) ∧ w.grownBy w' v.ownBlock ∧
      (∀ g, v'.ownBlock = some g → v.ownBlock = some g ∨ w.heap.size ≤ g) := by
  obtain ⟨v', w', hr, h2, h3, _⟩ := run_append_own_string w base t u ty e i ht hu hi hz hsize hby v n xs hown s h63 hbytes hbase
  refine ⟨v', w', hr, h2, h3, ?_⟩
  have hxl : xs.length = n := by simpa using hown.1
  rcases hown.2 with ⟨rfl, rfl⟩ | ⟨g, cap, cur, rfl, hbg, hg, hnc, hcm, hcs, htake⟩
  · obtain ⟨v2, w2, hr2, k2, _⟩ := run_append_own_string w w.heap.size t u ty e i ht hu hi hz hsize hby (.slice none 0 0) 0 xs ⟨hown.1, .inl ⟨rfl, rfl⟩⟩ s h63 hbytes (Nat.le_refl _)
    rw [hr] at hr2
    cases hr2
    exact fun g hg => .inr (World.ownsRow.lt k2 g hg).1
  · by_cases hroom : n + s.size ≤ cap
    · have hcs' : cur.size = cap := by simpa using hcs
      have hr2 := run_append_room_string (P := P) w t u ty e i ht hu hi hsize g n cap cur hg s hroom (by omega)
      rw [hr] at hr2
      cases hr2
      exact fun g' hg' => .inl (by simpa [Value.ownBlock] using hg')
    · have holds : ∀ j u, xs[j]? = some u → w.cell? ((⟨g, 0, none⟩ : Addr).add j) = some u := hown.cells (g := g) rfl
      have hsmall : n + s.size ≤ 9223372036854775807 := by simp only [maxLen] at h63; omega
      have hr2 := run_append_grow_string (P := P) w t u ty e i (.int .u8 0) ht hu hi hz ⟨g, 0, none⟩ n cap xs (by rw [hsize]; simpa using hxl) holds s (by omega) (by omega) (by rw [hby]; exact growslice_fits (by omega) (by omega))
      rw [hr] at hr2
      cases hr2
      exact fun g' hg' => .inr (by
        have : w.heap.size = g' := by simpa [Value.ownBlock] using hg'
        omega)
theorem wpList_append_str_lies {ops : Array Oper} {rest : List Oper} {o : Oper} {a : Act} {Q : Exit → Act → World → Prop} (hgd : o.guard = none) (sl x : Operand) (t u : TypeId)
    (ho : o.op = .call { callee := .builtin .append, args := #[sl, x], argTypes := #[t, u] })
    (base : Nat) (e : TypeId) (i : TypeInfo) (ht : P.underlying t = some (.slice e)) (hu : P.underlying u = some .string) (hi : P.info? e = some i) (hz : i.zero = some (.int .u8 0))
    (hsize : i.size = 1) (hby : i.bytes = 1)
    (v : Value) (n : Nat) (xs : List Value) (hs : a.eval sl = v) (hown : w.ownsRow base e 1 v n xs) (s : ByteArray) (hx : a.eval x = .string s)
    (h63 : n + s.size ≤ maxLen) (hbytes : n + s.size ≤ 140737488355328) (hbase : base ≤ w.heap.size)
    (h : ∀ v' w', w'.ownsRow base e 1 v' (n + s.size) (xs ++ strCells s) → w.grownBy w' v.ownBlock → (∀ g, v'.ownBlock = some g → v.ownBlock = some g ∨ w.heap.size ≤ g) → wpList P ops Q rest (a.put o.dst v') w') : wpList P ops Q (o :: rest) a w := by
  refine wpList_plain hgd fun K hK => ?_
  obtain ⟨v', w', hr, h2, h3, h4⟩ := run_append_str_lies (P := P) w base t u o.type e i ht hu hi hz hsize hby v n xs hown s h63 hbytes hbase
  unfold Oper.wp execOp
  simp only [ho, resolve, invoke, builtin, Sem.run_bind, Sem.run_pure, Result.andThen_ok, List.map_toArray, List.map_cons, List.map_nil, hs, hx, hr]
  exact hK _ _ (h v' w' h2 h3 h4)
theorem wp_append_str_lies {o : Oper} {a : Act} {K : Act → World → Prop} {Q : Exit → Act → World → Prop} (sl x : Operand) (t u : TypeId)
    (ho : o.op = .call { callee := .builtin .append, args := #[sl, x], argTypes := #[t, u] })
    (base : Nat) (e : TypeId) (i : TypeInfo) (ht : P.underlying t = some (.slice e)) (hu : P.underlying u = some .string) (hi : P.info? e = some i) (hz : i.zero = some (.int .u8 0))
    (hsize : i.size = 1) (hby : i.bytes = 1)
    (v : Value) (n : Nat) (xs : List Value) (hs : a.eval sl = v) (hown : w.ownsRow base e 1 v n xs) (s : ByteArray) (hx : a.eval x = .string s)
    (h63 : n + s.size ≤ maxLen) (hbytes : n + s.size ≤ 140737488355328) (hbase : base ≤ w.heap.size)
    (h : ∀ v' w', w'.ownsRow base e 1 v' (n + s.size) (xs ++ strCells s) → w.grownBy w' v.ownBlock → (∀ g, v'.ownBlock = some g → v.ownBlock = some g ∨ w.heap.size ≤ g) → K (a.put o.dst v') w') : o.wp P a w K Q := by
  obtain ⟨v', w', hr, h2, h3, h4⟩ := run_append_str_lies (P := P) w base t u o.type e i ht hu hi hz hsize hby v n xs hown s h63 hbytes hbase
  unfold Oper.wp execOp
  simp only [ho, resolve, invoke, builtin, Sem.run_bind, Sem.run_pure, Result.andThen_ok, List.map_toArray, List.map_cons, List.map_nil, hs, hx, hr]
  exact h v' w' h2 h3 h4
theorem step_append_str_lies {ops : Array Oper} {o : Oper} {a : Act} {K : Act → World → Prop} {Q : Exit → Act → World → Prop} {E : Prop} (hgd : o.guard = none) (sl x : Operand) (t u : TypeId)
    (ho : o.op = .call { callee := .builtin .append, args := #[sl, x], argTypes := #[t, u] })
    (base : Nat) (e : TypeId) (i : TypeInfo) (ht : P.underlying t = some (.slice e)) (hu : P.underlying u = some .string) (hi : P.info? e = some i) (hz : i.zero = some (.int .u8 0))
    (hsize : i.size = 1) (hby : i.bytes = 1)
    (v : Value) (n : Nat) (xs : List Value) (hs : a.eval sl = v) (hown : w.ownsRow base e 1 v n xs) (s : ByteArray) (hx : a.eval x = .string s)
    (h63 : n + s.size ≤ maxLen) (hbytes : n + s.size ≤ 140737488355328) (hbase : base ≤ w.heap.size)
    (h : ∀ v' w', w'.ownsRow base e 1 v' (n + s.size) (xs ++ strCells s) → w.grownBy w' v.ownBlock → (∀ g, v'.ownBlock = some g → v.ownBlock = some g ∨ w.heap.size ≤ g) → K (a.put o.dst v') w') :
    if Region.wanted o (yielded ops a.tmps) = true then Oper.wp P o a w K Q else E := by
  have hw : Region.wanted o (yielded ops a.tmps) = true := by simp [Region.wanted, hgd]
  rw [if_pos hw]
  exact wp_append_str_lies w sl x t u ho base e i ht hu hi hz hsize hby v n xs hs hown s hx h63 hbytes hbase h
end
end Go.Wi

namespace Go.Wi
open Go.Tx
/-- A number in two bytes. -/
def wordB (n : Int) : List UInt8 := [UInt8.ofNat (n / 256 % 256).toNat, UInt8.ofNat (n % 256).toNat]
/-- A TTL in four. -/
def lifeB (n : Int) : List UInt8 := [UInt8.ofNat (n / 16777216 % 256).toNat, UInt8.ofNat (n / 65536 % 256).toNat, UInt8.ofNat (n / 256 % 256).toNat, UInt8.ofNat (n % 256).toNat]
theorem u8_is {x : UInt8} {z : Int} (h : (x.toNat : Int) = z) : x = UInt8.ofNat z.toNat := by
  rw [← h]
  simp
/-- A number that a message may have there. -/
def wordOK (n least : Int) : Bool := decide (least ≤ n) && decide (n ≤ 65535)
def subB (n : List UInt8) (k : Int) : List UInt8 := codS n ++ wordB k ++ wordB 1
def subOK (n : List UInt8) (k : Int) : Bool := okS n && wordOK k 1
theorem subB_len (n : List UInt8) (k : Int) : (subB n k).length ≤ 66000 := by
  have := encS_len (cleS n)
  unfold subB codS wordB
  simp only [List.length_append, List.length_cons, List.length_nil]
  omega
end Go.Wi
namespace Go.Proofs.YtogdkmkganpaaaaGreatDoor
open Go.RowKit Go.Lib Go.Wi Go.Tx
/-- What a call leaves that writes m behind the bytes, and finds it right or not. -/
def Wrote (B : Nat) (w : World) (p : Nat) (v : Value) (l : List UInt8) (b : Bool) (m : List UInt8) (e : Ending) (w' : World) : Prop :=
  e = .returned (.tuple #[]) ∧ ∃ v', WR B w' p v' (l ++ m) b ∧ WStep p w w' v v'
theorem wword_wrote {B p : Nat} {v : Value} {l : List UInt8} {bad : Bool} (n least : Int) (w : World) (hw : WR B w p v l bad) (hB : B ≤ w.heap.size) (hl : l.length ≤ 1000000000) :
    Calls Tryz.prog 168 #[.pointer (some ⟨p, 0, none⟩), .int .i64 n, .int .i64 least] w (Wrote B w p v l (bad || !wordOK n least) (wordB n)) :=
  (wword_any n least w hw hB hl).mono (by
    rintro e w' ⟨he, v', x, y, h1, h2, h3, h4⟩
    refine ⟨he, v', ?_, h2⟩
    rw [u8_is h3, u8_is h4] at h1
    exact h1)
theorem wlife_wrote {B p : Nat} {v : Value} {l : List UInt8} {bad : Bool} (n : Int) (w : World) (hw : WR B w p v l bad) (hB : B ≤ w.heap.size) (hl : l.length ≤ 1000000000) :
    Calls Tryz.prog 193 #[.pointer (some ⟨p, 0, none⟩), .int .i64 n] w (Wrote B w p v l (bad || !(decide (0 ≤ n) && decide (n ≤ 2147483647))) (lifeB n)) :=
  (wlife_any n w hw hB hl).mono (by
    rintro e w' ⟨he, v', a, c, x, y, h1, h2, h3, h4, h5, h6⟩
    refine ⟨he, v', ?_, h2⟩
    rw [u8_is h3, u8_is h4, u8_is h5, u8_is h6] at h1
    exact h1)
set_option maxHeartbeats 2000000 in
set_option maxRecDepth 100000 in
theorem wsubject_any {B p : Nat} {v : Value} {l : List UInt8} {bad : Bool} (s : ByteArray) (k : Int) (w : World) (hs : s.size ≤ maxLen) (hm : MaxAt w) (hw : WR B w p v l bad) (hp : 0 < p) (hB0 : 0 < B) (hB : B ≤ w.heap.size) (hl : l.length ≤ 900000000) :
    Calls Tryz.prog 171 #[.pointer (some ⟨p, 0, none⟩), .string s, .int .i64 k] w (Wrote B w p v l (bad || !subOK s.data.toList k) (subB s.data.toList k)) := by
  obtain ⟨i, hi, hz0, hz1, hz2⟩ := info_parts infoU8
  obtain ⟨va, vc, rfl⟩ := hw.shape
  have hcl : (codS s.data.toList).length ≤ 65000 := encS_len _
  obtain ⟨C, hC⟩ : ∃ C, codS s.data.toList = C := ⟨_, rfl⟩
  have HX : Hid (∀ bb, ((bb || !wordOK k 1) || !wordOK 1 0) = (bb || !wordOK k 1)) := Lib.hid (fun bb => by
    have : wordOK 1 0 = true := by decide
    rw [this]; simp)
  have HY : Hid (((bad || !okS s.data.toList) || !wordOK k 1) = (bad || !subOK s.data.toList k)) := Lib.hid (by
    unfold subOK
    cases bad <;> cases okS s.data.toList <;> cases wordOK k 1 <;> rfl)
  have HZ : Hid (((l ++ C) ++ wordB k) ++ wordB 1 = l ++ subB s.data.toList k) := Lib.hid (by unfold subB; rw [hC]; simp [List.append_assoc])
  have HCo : Hid (∀ W, MaxAt W → WR B W p (.slice va l.length vc) l bad → Calls Tryz.prog 192 #[.pointer (some ⟨p, 0, none⟩), .string s] W (CodedR B W p (.slice va l.length vc) l bad s.data.toList)) := Lib.hid (fun W h1 h2 => wcoded_any s W hs h1 h2 hp hB0)
  unfold CodedR at HCo
  rw [hC] at hcl HCo
  have HCl := Lib.hid hcl
  obtain ⟨cb, hcb⟩ : ∃ q : ByteArray, (⟨C.toArray⟩ : ByteArray) = q := ⟨_, rfl⟩
  rw [hcb] at HCo
  have hcs : cb.size = C.length := by rw [← hcb]; show C.toArray.size = _; simp
  have HCc : Hid (strCells cb = C.map Wi.u8V) := Lib.hid (by unfold strCells; rw [← hcb]; rfl)
  obtain ⟨b1, hb1⟩ : ∃ b1, (bad || !okS s.data.toList) = b1 := ⟨_, rfl⟩
  rw [hb1] at HCo HY
  have HW := Lib.hid hw
  have HM := Lib.hid hm
  have c0 := hw.c0
  have HWd : Hid (∀ W, Below w.heap.size w W → WR B W p (.slice va l.length vc) l bad) := Lib.hid (fun W h => hw.below h)
  have HMd : Hid (∀ W, Below w.heap.size w W → MaxAt W) := Lib.hid (fun W h => hm.below h)
  clear hC hcb hb1 hw hm hs
  go_enter Tryz.func171, Tryz.ntmps171
  go_upto_region 0 with (fail)
  go_cut [] from 6 to 17 (fun wx => ∃ v', WR B wx p v' (l ++ C) b1 ∧ WStep p w wx (.slice va l.length vc) v')
  case first =>
    have c0d : w.drew.cell? ⟨p, 0, none⟩ = some (.slice va l.length vc) := c0
    go_region_law (first | (refine step_append_str_lies _ (by rfl) _ _ _ _ (by rfl) B 5 i Tryz.underlying22 Tryz.underlying9 hi hz0 hz1 hz2 (.slice va l.length vc) l.length (l.map Wi.u8V) (by rfl) HW1.out.own cb (by rfl) (by rw [hcs]; unfold maxLen; omega) (by omega) (by have := HS1.out.size; have e2 : w.drew.heap.size = w.heap.size := rfl; omega) ?_; intro v6 w6 hown6 hg6 hat6; obtain ⟨va6, vc6, rfl⟩ := own_shape hown6; have HO6 := Lib.hid hown6; have HG6 := Lib.hid hg6; have HA6 := Lib.hid hat6; have hk0 : w6.cell? ⟨p, 0, none⟩ = some (.slice va l.length vc) := (by rw [hg6.cell_far ⟨p, 0, none⟩ HW1.out.lt (fun e => HW1.out.apart e.symm)]; exact HW1.out.c0); have hf0 : w6.frozen? ⟨p, 0, none⟩ = false := (by rw [hg6.frozen_far ⟨p, 0, none⟩ HW1.out.lt (fun e => HW1.out.apart e.symm)]; exact HW1.out.free 0); clear hown6 hg6 hat6) | (go_simp; go_at_call 192; refine (HCo.out _ (HMd.out _ (Below.refl _ _).drew) (HWd.out _ (Below.refl _ _).drew)).mono ?_; rintro e w1 ⟨rfl, hw1, hs1⟩; have HW1 := Lib.hid hw1; have HS1 := Lib.hid hs1; have hk0 := hw1.c0; clear hw1 hs1))
    all_goals
      go_wp2
      go_meet
      have ho := HO6.out
      have ha := HA6.out
      rw [hcs] at ha
      rw [hcs, HCc.out] at ho
      have h2 := HW1.out.put (m := C) ho HG6.out ha
      exact ⟨_, h2.1, (((WStep.refl p w _).below (Below.refl _ _).drew).trans HS1.out).trans h2.2⟩
  case rest =>
    obtain ⟨v1, hw1, hs1⟩ := hcut
    have HW1 := Lib.hid hw1
    have HS1 := Lib.hid hs1
    have hl1 : (l ++ C).length ≤ 950000000 := by rw [List.length_append]; omega
    clear hw1 hs1 c0
    have hC1 := wword_wrote k 1 _ HW1.out (Nat.le_trans hB HS1.out.size) (by omega)
    have HC1 := Lib.hid hC1
    clear hC1
    go_upto_region 2 with (go_at_call 168; refine HC1.out.mono ?_; rintro e w2 ⟨rfl, v2, hw2, hs2⟩; have HW2 := Lib.hid hw2; have HS2 := Lib.hid (HS1.out.trans hs2); clear hw2 hs2)
    have hC2 := wword_wrote 1 0 w2 HW2.out (Nat.le_trans hB HS2.out.size) (by rw [List.length_append]; show _ + 2 ≤ _; omega)
    have HC2 := Lib.hid hC2
    clear hC2
    go_wp2_with (go_at_call 168; refine HC2.out.mono ?_; rintro e w3 ⟨rfl, v3, hw3, hs3⟩; have HW3 := Lib.hid hw3; have HS3 := Lib.hid (HS2.out.trans hs3); clear hw3 hs3)
    go_end0
    have hw := HW3.out
    rw [HX.out, HY.out, HZ.out] at hw
    exact ⟨rfl, _, hw, HS3.out⟩
end Go.Proofs.YtogdkmkganpaaaaGreatDoor

namespace Go.Proofs.YtogdkmkganpaaaaGreatDoor
open Go.RowKit Go.Lib Go.Wi Go.Tx
def datS (k : Int) (d : List UInt8) : List UInt8 := if k = 12 then codS d else if fitsB k d = true then d else []
def datOK (k : Int) (d : List UInt8) : Bool := if k = 12 then okS d else fitsB k d
/-- What data gives, and what it leaves of the writer. -/
def DatR (B : Nat) (w : World) (p : Nat) (v : Value) (l : List UInt8) (b : Bool) (k : Int) (d : List UInt8) (e : Ending) (w' : World) : Prop :=
  e = .returned (.string ⟨(datS k d).toArray⟩) ∧ WR B w' p v l (b || !datOK k d) ∧ WStep p w w' v v
set_option maxHeartbeats 2000000 in
set_option maxRecDepth 100000 in
theorem wdata_any {B p : Nat} {v : Value} {l : List UInt8} {bad : Bool} (n : ByteArray) (k t : Int) (d : ByteArray) (w : World) (hd : d.size ≤ maxLen) (hm : MaxAt w) (hw : WR B w p v l bad) (hp : 0 < p) (hB0 : 0 < B) :
    Calls Tryz.prog 194 #[.pointer (some ⟨p, 0, none⟩), .agg #[.string n, .int .i64 k, .int .i64 t, .string d]] w (DatR B w p v l bad k d.data.toList) := by
  have hsh := hw.shape
  obtain ⟨va, vc, rfl⟩ := hsh
  have HB0 : Hid (∀ o, Below w.heap.size w (w.alloc o)) := Lib.hid (fun o => (Below.refl _ _).alloc (Nat.le_refl _) o)
  have HWa : Hid (∀ o, WR B (w.alloc o) p (.slice va l.length vc) l bad) := Lib.hid (fun o => hw.below (HB0.out o))
  have HMa : Hid (∀ o, MaxAt (w.alloc o)) := Lib.hid (fun o => hm.below (HB0.out o))
  have HSa : Hid (∀ o, WStep p w (w.alloc o) (.slice va l.length vc) (.slice va l.length vc)) := Lib.hid (fun o => (WStep.refl p w _).below (HB0.out o))
  have HFi : Hid (∀ W, Calls Tryz.prog 215 #[.int .i64 k, .string d] W fun e w' => e = .returned (.bool (fitsB k d.data.toList)) ∧ W = w') := Lib.hid (fun W => fits_any k d W)
  have HBa : Hid (∀ o, WR B ((w.alloc o).setCell ⟨p, 1, none⟩ (.bool true)) p (.slice va l.length vc) l true) := Lib.hid (fun o => (HWa.out o).setbad true)
  have HSb : Hid (∀ o, WStep p w ((w.alloc o).setCell ⟨p, 1, none⟩ (.bool true)) (.slice va l.length vc) (.slice va l.length vc)) := Lib.hid (fun o => (HSa.out o).set 1 _)
  have hf1 : ∀ o, (w.alloc o).frozen? ⟨p, 1, none⟩ = false := fun o => (HWa.out o).free 1
  have hc1 : ∀ o, (w.alloc o).cell? ⟨p, 1, none⟩ = some (.bool bad) := fun o => (HWa.out o).c1
  by_cases h12 : k = 12
  · subst h12
    have HX : Hid (datS 12 d.data.toList = codS d.data.toList ∧ datOK 12 d.data.toList = okS d.data.toList) := Lib.hid ⟨if_pos rfl, if_pos rfl⟩
    have HCo : Hid (∀ W, MaxAt W → WR B W p (.slice va l.length vc) l bad → Calls Tryz.prog 192 #[.pointer (some ⟨p, 0, none⟩), .string d] W (CodedR B W p (.slice va l.length vc) l bad d.data.toList)) := Lib.hid (fun W h1 h2 => wcoded_any d W hd h1 h2 hp hB0)
    unfold CodedR at HCo
    clear hw hm hd hf1 hc1
    go_enter Tryz.func194, Tryz.ntmps194
    go_wp2_with (go_at_call 192; refine (HCo.out _ (HMa.out _) (HWa.out _)).mono ?_; rintro e w1 ⟨rfl, hw1, hs1⟩; have HW1 := Lib.hid hw1; have HS1 := Lib.hid ((HSa.out _).trans hs1); clear hw1 hs1)
    go_ret
    exact ⟨by rw [HX.out.1]; rfl, by rw [HX.out.2]; exact HW1.out, HS1.out⟩
  · cases hfit : fitsB k d.data.toList with
    | true =>
      have HX : Hid (datS k d.data.toList = d.data.toList ∧ datOK k d.data.toList = true) := Lib.hid ⟨by unfold datS; rw [if_neg h12, if_pos hfit], by unfold datOK; rw [if_neg h12, hfit]⟩
      rw [hfit] at HFi
      clear hw hm hd hf1 hc1 hfit
      go_enter Tryz.func194, Tryz.ntmps194
      go_wp2_with (go_at_call 215; refine (HFi.out _).mono ?_; rintro e w1 ⟨rfl, rfl⟩)
      go_ret
      refine ⟨by rw [HX.out.1]; rfl, ?_, HSa.out _⟩
      rw [HX.out.2, Bool.not_true, Bool.or_false]
      exact HWa.out _
    | false =>
      have HX : Hid (datS k d.data.toList = [] ∧ datOK k d.data.toList = false) := Lib.hid ⟨by unfold datS; rw [if_neg h12, if_neg (by rw [hfit]; decide)], by unfold datOK; rw [if_neg h12, hfit]⟩
      rw [hfit] at HFi
      clear hw hm hd hfit
      go_enter Tryz.func194, Tryz.ntmps194
      go_wp2_with (go_at_call 215; refine (HFi.out _).mono ?_; rintro e w1 ⟨rfl, rfl⟩)
      go_ret
      refine ⟨by rw [HX.out.1]; rfl, ?_, HSb.out _⟩
      rw [HX.out.2, Bool.not_false, Bool.or_true]
      exact HBa.out _
end Go.Proofs.YtogdkmkganpaaaaGreatDoor

namespace Go.Proofs.YtogdkmkganpaaaaGreatDoor
open Go.RowKit Go.Lib Go.Wi Go.Tx
def lifeOK (n : Int) : Bool := decide (0 ≤ n) && decide (n ≤ 2147483647)
def recB (n : List UInt8) (k t : Int) (d : List UInt8) : List UInt8 := subB n k ++ lifeB t ++ wordB (datS k d).length ++ datS k d
def recOK (n : List UInt8) (k t : Int) (d : List UInt8) : Bool := subOK n k && lifeOK t && datOK k d
theorem datS_len (k : Int) (d : List UInt8) : (datS k d).length ≤ 65000 := by
  unfold datS
  split
  · exact encS_len _
  · split
    · rename_i h1 h2
      unfold fitsB at h2
      split at h2
      · rw [decide_eq_true_eq] at h2; omega
      · split at h2
        · rw [decide_eq_true_eq] at h2; omega
        · rw [decide_eq_true_eq] at h2; omega
    · simp
theorem recB_len (n : List UInt8) (k t : Int) (d : List UInt8) : (recB n k t d).length ≤ 140000 := by
  have h1 := subB_len n k
  have h2 := datS_len k d
  unfold recB lifeB wordB
  simp only [List.length_append, List.length_cons, List.length_nil]
  omega
theorem wordOK_len (k : Int) (d : List UInt8) : wordOK ((datS k d).length : Nat) 0 = true := by
  have h2 := datS_len k d
  unfold wordOK
  rw [Bool.and_eq_true, decide_eq_true_eq, decide_eq_true_eq]
  omega
theorem wnew_cells {w W : World} {p : Nat} {v v' : Value} {arr : Array Value} {ty : TypeId} (h : WStep p (w.alloc (.cells arr ty)) W v v') (hp : p < w.heap.size) (hv : v.ownBlock ≠ some w.heap.size) (j : Nat) (x : Value) (hx : arr[j]? = some x) : W.cell? ⟨w.heap.size, j, none⟩ = some x := by
  have e := h.same w.heap.size (by show w.heap.size < (w.heap.push _).size; simp) (by omega) hv
  have e2 := World.cell?_alloc_new w arr ty j
  rw [hx] at e2
  rw [← e2]
  unfold World.cell?
  rw [e]
set_option maxHeartbeats 2000000 in
set_option maxRecDepth 100000 in
theorem wrecord_any {B p : Nat} {v : Value} {l : List UInt8} {bad : Bool} (n : ByteArray) (k t : Int) (d : ByteArray) (w : World) (hn : n.size ≤ maxLen) (hd : d.size ≤ maxLen) (hm : MaxAt w) (hw : WR B w p v l bad) (hp : 0 < p) (hB0 : 0 < B) (hB : B ≤ w.heap.size) (hl : l.length ≤ 800000000) :
    Calls Tryz.prog 172 #[.pointer (some ⟨p, 0, none⟩), .agg #[.string n, .int .i64 k, .int .i64 t, .string d]] w (Wrote B w p v l (bad || !recOK n.data.toList k t d.data.toList) (recB n.data.toList k t d.data.toList)) := by
  obtain ⟨i, hi, hz0, hz1, hz2⟩ := info_parts infoU8
  have hsl := subB_len n.data.toList k
  have hdl := datS_len k d.data.toList
  have hw65 := wordOK_len k d.data.toList
  obtain ⟨S, hS⟩ : ∃ S, subB n.data.toList k = S := ⟨_, rfl⟩
  obtain ⟨D, hD⟩ : ∃ D, datS k d.data.toList = D := ⟨_, rfl⟩
  have HY : Hid (((((bad || !subOK n.data.toList k) || !(decide (0 ≤ t) && decide (t ≤ 2147483647))) || !datOK k d.data.toList) || !wordOK (D.length : Nat) 0) = (bad || !recOK n.data.toList k t d.data.toList)) := Lib.hid (by
    rw [← hD, hw65]
    unfold recOK lifeOK
    generalize decide (0 ≤ t) = x
    generalize decide (t ≤ 2147483647) = y
    cases bad <;> cases subOK n.data.toList k <;> cases x <;> cases y <;> cases datOK k d.data.toList <;> rfl)
  have HZ : Hid ((((l ++ S) ++ lifeB t) ++ wordB (D.length : Nat)) ++ D = l ++ recB n.data.toList k t d.data.toList) := Lib.hid (by unfold recB; rw [hS, hD]; simp [List.append_assoc])
  rw [hS] at hsl
  rw [hD] at hdl
  have hll : (lifeB t).length = 4 := rfl
  have hlw : (wordB (D.length : Nat)).length = 2 := rfl
  have HB1 : Hid (∀ o, Below w.heap.size w (w.alloc o)) := Lib.hid (fun o => (Below.refl _ _).alloc (Nat.le_refl _) o)
  have hpq : p < w.heap.size := hw.lt
  have hvq : v.ownBlock ≠ some w.heap.size := fun e => by have := (World.ownsRow.lt hw.own _ e).2; omega
  have HBa : Hid (∀ o W v', WStep p (w.alloc o) W v v' → B ≤ W.heap.size) := Lib.hid (fun o W v' h => Nat.le_trans hB (Nat.le_trans (HB1.out o).size h.size))
  have HMa : Hid (∀ o W v', WStep p (w.alloc o) W v v' → MaxAt W) := Lib.hid (fun o W v' h => max_step (hm.below (HB1.out o)) (hw.below (HB1.out o)) h hp hB0)
  have HSw : Hid (∀ o W v', WStep p (w.alloc o) W v v' → WStep p w W v v') := Lib.hid (fun o W v' h => ((WStep.refl p w v).below (HB1.out o)).trans h)
  have HSub : Hid (∀ o, Calls Tryz.prog 171 #[.pointer (some ⟨p, 0, none⟩), .string n, .int .i64 k] (w.alloc o) (Wrote B (w.alloc o) p v l (bad || !subOK n.data.toList k) S)) := Lib.hid (fun o => hS ▸ wsubject_any n k (w.alloc o) hn (hm.below (HB1.out o)) (hw.below (HB1.out o)) hp hB0 (HBa.out o _ _ (WStep.refl _ _ _)) (by omega))
  have HDat : Hid (∀ W v' l' b', WR B W p v' l' b' → MaxAt W → Calls Tryz.prog 194 #[.pointer (some ⟨p, 0, none⟩), .agg #[.string n, .int .i64 k, .int .i64 t, .string d]] W fun e w' => e = .returned (.string ⟨D.toArray⟩) ∧ WR B w' p v' l' (b' || !datOK k d.data.toList) ∧ WStep p W w' v' v') := Lib.hid (fun W v' l' b' h1 h2 => by
    have := wdata_any n k t d W hd h2 h1 hp hB0
    unfold DatR at this
    rw [hD] at this
    exact this)
  obtain ⟨db, hdb⟩ : ∃ q : ByteArray, (⟨D.toArray⟩ : ByteArray) = q := ⟨_, rfl⟩
  rw [hdb] at HDat
  have hds : db.size = D.length := by rw [← hdb]; show D.toArray.size = _; simp
  have HDc : Hid (strCells db = D.map Wi.u8V) := Lib.hid (by unfold strCells; rw [← hdb]; rfl)
  have HPq := Lib.hid hpq
  have HVq := Lib.hid hvq
  clear hdb hS hD hw65 hw hm hn hd hpq hvq
  go_enter Tryz.func172, Tryz.ntmps172
  go_upto_region 2 with (go_at_call 171; refine (HSub.out _).mono ?_; rintro e w2 ⟨rfl, v2, hw2, hs2⟩; have HW2 := Lib.hid hw2; have HS2 := Lib.hid hs2; clear hw2 hs2)
  have c2 := wnew_cells HS2.out HPq.out HVq.out 2 _ rfl
  have hC3 := wlife_wrote t w2 HW2.out (HBa.out _ _ _ HS2.out) (by rw [List.length_append]; omega)
  have HC3 := Lib.hid hC3
  clear hC3
  go_upto_region 3 with (go_at_call 193; refine HC3.out.mono ?_; rintro e w3 ⟨rfl, v3, hw3, hs3⟩; have HW3 := Lib.hid hw3; have HS3 := Lib.hid (HS2.out.trans hs3); clear hw3 hs3)
  have e0 := wnew_cells HS3.out HPq.out HVq.out 0 _ rfl
  have e1 := wnew_cells HS3.out HPq.out HVq.out 1 _ rfl
  have e2 := wnew_cells HS3.out HPq.out HVq.out 2 _ rfl
  have e3 := wnew_cells HS3.out HPq.out HVq.out 3 _ rfl
  go_upto_region 4 with (go_at_call 194; refine (HDat.out _ _ _ _ HW3.out (HMa.out _ _ _ HS3.out)).mono ?_; rintro e w4 ⟨rfl, hw4, hs4⟩; have HW4 := Lib.hid hw4; have HS4 := Lib.hid (HS3.out.trans hs4); clear hw4 hs4)
  have hC5 := wword_wrote (D.length : Nat) 0 w4 HW4.out (HBa.out _ _ _ HS4.out) (by rw [List.length_append, List.length_append]; omega)
  have HC5 := Lib.hid hC5
  clear hC5
  go_upto_region 5 with (go_at_call 168; refine HC5.out.mono ?_; rintro e w5 ⟨rfl, v5, hw5, hs5⟩; have HW5 := Lib.hid hw5; have HS5 := Lib.hid (HS4.out.trans hs5); clear hw5 hs5)
  obtain ⟨L5, hL5⟩ : ∃ L, l ++ S ++ lifeB t ++ wordB (D.length : Nat) = L := ⟨_, rfl⟩
  have hL : L5.length ≤ 850000000 := by rw [← hL5]; simp only [List.length_append]; omega
  rw [hL5] at HW5 HZ
  clear hL5
  obtain ⟨va5, vc5, hv5⟩ := HW5.out.shape
  subst hv5
  have k0 := HW5.out.c0
  have hf0 := HW5.out.free 0
  go_wp2_with (at_builtin; go_loud (refine wpList_append_str_lies w5 rfl _ _ 22 9 rfl B 5 i Tryz.underlying22 Tryz.underlying9 hi hz0 hz1 hz2 _ _ _ rfl HW5.out.own db rfl (by rw [hds]; unfold maxLen; omega) (by rw [hds]; omega) (HBa.out _ _ _ HS5.out) ?_; intro v6 w6 hown6 hg6 hat6; obtain ⟨va6, vc6, rfl⟩ := own_shape hown6; have HO6 := Lib.hid hown6; have HG6 := Lib.hid hg6; have HA6 := Lib.hid hat6; have hk0 := (hg6.cell_far ⟨p, 0, none⟩ HW5.out.lt (fun e => HW5.out.apart e.symm)).trans HW5.out.c0; have hf6 : w6.frozen? ⟨p, 0, none⟩ = false := (by rw [hg6.frozen_far ⟨p, 0, none⟩ HW5.out.lt (fun e => HW5.out.apart e.symm)]; exact HW5.out.free 0); clear hown6 hg6 hat6))
  go_end0
  have ho := HO6.out
  have ha := HA6.out
  rw [hds] at ha
  rw [hds, HDc.out] at ho
  have h2 := HW5.out.put (m := D) ho HG6.out ha
  have hw := h2.1
  rw [HY.out, HZ.out] at hw
  exact ⟨rfl, _, hw, HSw.out _ _ _ (HS5.out.trans h2.2)⟩
end Go.Proofs.YtogdkmkganpaaaaGreatDoor

namespace Go.Wi
/-- The flags of a message, and its code. -/
def flagV (c : Int) (r q x : Bool) : Int :=
  let a := if r = true then bits .or .i64 c 32768 else c
  let b := if q = true then bits .or .i64 a 512 else a
  if x = true then bits .or .i64 b 256 else b
end Go.Wi
namespace Go.Proofs.YtogdkmkganpaaaaGreatDoor
open Go.RowKit Go.Lib Go.Wi Go.Tx
set_option maxHeartbeats 2000000 in
set_option maxRecDepth 100000 in
theorem flags_any (i c k : Int) (r q x : Bool) (m : ByteArray) (v : Value) (w : World) : Calls Tryz.prog 170 #[.agg #[.int .i64 i, .bool r, .bool q, .bool x, .int .i64 c, .string m, .int .i64 k, v]] w fun e w' => e = .returned (.int .i64 (flagV c r q x)) ∧ Below w.heap.size w w' := by
  cases r <;> cases q <;> cases x
  all_goals
    go_enter Tryz.func170, Tryz.ntmps170
    go_wp2
    go_ret
    exact ⟨rfl, (Below.refl _ _).alloc (Nat.le_refl _) _⟩
end Go.Proofs.YtogdkmkganpaaaaGreatDoor

namespace Go.Proofs.YtogdkmkganpaaaaGreatDoor
open Go.RowKit Go.Lib Go.Wi Go.Tx
/-- A record as it lies in memory. -/
structure WRec where
  name : ByteArray
  kind : Int
  ttl : Int
  data : ByteArray
def WRec.bytes (r : WRec) : List UInt8 := recB r.name.data.toList r.kind r.ttl r.data.data.toList
def WRec.ok (r : WRec) : Bool := recOK r.name.data.toList r.kind r.ttl r.data.data.toList
/-- The records lie in block g. -/
def RecAt (w : World) (g : Nat) (rs : List WRec) : Prop := ∀ j r, rs[j]? = some r →
  w.cell? ⟨g, j * 4, none⟩ = some (.string r.name) ∧ w.cell? ⟨g, j * 4 + 1, none⟩ = some (.int .i64 r.kind) ∧ w.cell? ⟨g, j * 4 + 2, none⟩ = some (.int .i64 r.ttl) ∧ w.cell? ⟨g, j * 4 + 3, none⟩ = some (.string r.data)
/-- A slice of records that a call may read. -/
def RowsAt (w : World) (rv : Value) (rs : List WRec) : Prop := (rv = .slice none 0 0 ∧ rs = []) ∨ ∃ g c, rv = .slice (some ⟨g, 0, none⟩) rs.length c ∧ g < w.heap.size ∧ RecAt w g rs
def codeOK (c : Int) : Bool := decide (0 ≤ c) && decide (c ≤ 15)
def headB (i c : Int) (r q x : Bool) (m : Nat) (n : List UInt8) (k : Int) : List UInt8 :=
  wordB i ++ wordB (flagV c r q x) ++ wordB 1 ++ wordB m ++ wordB 0 ++ wordB 0 ++ subB n k
def msgB (i c : Int) (r q x : Bool) (n : List UInt8) (k : Int) (rs : List WRec) : List UInt8 := headB i c r q x rs.length n k ++ rs.flatMap WRec.bytes
def headOK (i c : Int) (r q x : Bool) (m : Nat) (n : List UInt8) (k : Int) : Bool := wordOK i 0 && codeOK c && wordOK (flagV c r q x) 0 && wordOK m 0 && subOK n k
def msgOK (i c : Int) (r q x : Bool) (n : List UInt8) (k : Int) (rs : List WRec) : Bool := headOK i c r q x rs.length n k && rs.all WRec.ok
theorem recs_len (rs : List WRec) : (rs.flatMap WRec.bytes).length ≤ rs.length * 140000 := by
  induction rs with
  | nil => simp
  | cons r rs ih =>
    rw [List.flatMap_cons, List.length_append, List.length_cons, Nat.succ_mul]
    have := recB_len r.name.data.toList r.kind r.ttl r.data.data.toList
    have e : r.bytes.length = (recB r.name.data.toList r.kind r.ttl r.data.data.toList).length := rfl
    omega
theorem recs_take {rs : List WRec} {k : Nat} {r : WRec} (h : rs[k]? = some r) : (rs.take (k + 1)).flatMap WRec.bytes = (rs.take k).flatMap WRec.bytes ++ r.bytes ∧ (rs.take (k + 1)).all WRec.ok = ((rs.take k).all WRec.ok && r.ok) := by
  have hk := (List.getElem?_eq_some_iff.1 h).1
  rw [List.getElem?_eq_getElem hk] at h
  cases h
  rw [List.take_succ_eq_append_getElem hk, List.flatMap_append, List.all_append]
  simp
set_option maxHeartbeats 4000000 in
set_option maxRecDepth 100000 in
theorem wmessage_any {B p : Nat} {v : Value} {l : List UInt8} {bad : Bool} (i c k : Int) (r q x : Bool) (n : ByteArray) (rv : Value) (rs : List WRec) (w : World) (hrs : RowsAt w rv rs) (hr32 : rs.length ≤ 32) (hn : n.size ≤ maxLen) (hnd : ∀ r ∈ rs, r.name.size ≤ maxLen ∧ r.data.size ≤ maxLen) (hm : MaxAt w) (hw : WR B w p v l bad) (hp : 0 < p) (hB0 : 0 < B) (hB : B ≤ w.heap.size) (hl : l.length ≤ 1000)
    (hfar : ∀ g c, rv = .slice (some ⟨g, 0, none⟩) rs.length c → g ≠ p ∧ v.ownBlock ≠ some g) :
    Calls Tryz.prog 139 #[.pointer (some ⟨p, 0, none⟩), .agg #[.int .i64 i, .bool r, .bool q, .bool x, .int .i64 c, .string n, .int .i64 k, rv]] w (Wrote B w p v l (bad || !msgOK i c r q x n.data.toList k rs) (msgB i c r q x n.data.toList k rs)) := by
  have hwl : ∀ z, (wordB z).length = 2 := fun _ => rfl
  have HY : Hid (∀ b, (((((((bad || !wordOK i 0) || !codeOK c) || !wordOK (flagV c r q x) 0) || !wordOK 1 0) || !wordOK (rs.length : Nat) 0) || !wordOK 0 0) || !wordOK 0 0) = b → (b || !subOK n.data.toList k) = (bad || !headOK i c r q x rs.length n.data.toList k)) := Lib.hid (by
    rintro _ rfl
    have e1 : wordOK 1 0 = true := by decide
    have e2 : wordOK 0 0 = true := by decide
    rw [e1, e2]
    unfold headOK
    cases bad <;> cases wordOK i 0 <;> cases codeOK c <;> cases wordOK (flagV c r q x) 0 <;> cases wordOK (rs.length : Nat) 0 <;> cases subOK n.data.toList k <;> rfl)
  have HZ : Hid ((((((((l ++ wordB i) ++ wordB (flagV c r q x)) ++ wordB 1) ++ wordB (rs.length : Nat)) ++ wordB 0) ++ wordB 0) ++ subB n.data.toList k) = l ++ headB i c r q x rs.length n.data.toList k) := Lib.hid (by unfold headB; simp [List.append_assoc])
  have hhl : (l ++ headB i c r q x rs.length n.data.toList k).length ≤ 200000 := by
    have := subB_len n.data.toList k
    rw [List.length_append]
    unfold headB
    simp only [List.length_append, hwl]
    omega
  have HHl := Lib.hid hhl
  have HB1 : Hid (∀ o, Below w.heap.size w (w.alloc o)) := Lib.hid (fun o => (Below.refl _ _).alloc (Nat.le_refl _) o)
  have HPq : Hid (p < w.heap.size) := Lib.hid hw.lt
  have HVq : Hid (v.ownBlock ≠ some w.heap.size) := Lib.hid (fun e => by have := (World.ownsRow.lt hw.own _ e).2; omega)
  have HBa : Hid (∀ o W v', WStep p (w.alloc o) W v v' → B ≤ W.heap.size) := Lib.hid (fun o W v' h => Nat.le_trans hB (Nat.le_trans (HB1.out o).size h.size))
  have HMa : Hid (∀ o W v', WStep p (w.alloc o) W v v' → MaxAt W) := Lib.hid (fun o W v' h => max_step (hm.below (HB1.out o)) (hw.below (HB1.out o)) h hp hB0)
  have HSw : Hid (∀ o W v', WStep p (w.alloc o) W v v' → WStep p w W v v') := Lib.hid (fun o W v' h => ((WStep.refl p w v).below (HB1.out o)).trans h)
  have HWa : Hid (∀ o, WR B (w.alloc o) p v l bad) := Lib.hid (fun o => hw.below (HB1.out o))
  have HRow : Hid (∀ o W v' g cc, WStep p (w.alloc o) W v v' → rv = .slice (some ⟨g, 0, none⟩) rs.length cc → RecAt W g rs) := Lib.hid (fun o W v' g cc h e => by
    rcases hrs with ⟨e1, _⟩ | ⟨g1, c1, e1, hg, hr⟩
    · rw [e] at e1; cases e1
    · rw [e] at e1
      have e3 : g = g1 := by injection e1 with a; injection a with a; injection a
      subst e3
      have hf := hfar g cc e
      have hh : W.heap[g]? = w.heap[g]? := (h.same g (Nat.lt_of_lt_of_le hg (HB1.out o).size) hf.1 hf.2).trans ((HB1.out o).block g hg)
      have hcl : ∀ j, W.cell? ⟨g, j, none⟩ = w.cell? ⟨g, j, none⟩ := fun j => by unfold World.cell?; rw [hh]
      intro j r hj
      obtain ⟨a1, a2, a3, a4⟩ := hr j r hj
      exact ⟨by rw [hcl]; exact a1, by rw [hcl]; exact a2, by rw [hcl]; exact a3, by rw [hcl]; exact a4⟩)
  have hrv : ∃ a cc, rv = .slice a rs.length cc := by
    rcases hrs with ⟨e1, e2⟩ | ⟨g1, c1, e1, _⟩
    · exact ⟨none, 0, by rw [e1, e2]; rfl⟩
    · exact ⟨_, _, e1⟩
  obtain ⟨ra, rc, hrv⟩ := hrv
  subst hrv
  have hra : rs.length = 0 ∨ ∃ g, ra = some ⟨g, 0, none⟩ := by
    rcases hrs with ⟨e1, e2⟩ | ⟨g1, c1, e1, _⟩
    · exact .inl (by rw [e2]; rfl)
    · injection e1 with a; exact .inr ⟨g1, a⟩
  have HRa := Lib.hid hra
  have HNd := Lib.hid hnd
  have HMl : Hid (msgB i c r q x n.data.toList k rs = headB i c r q x rs.length n.data.toList k ++ rs.flatMap WRec.bytes) := Lib.hid rfl
  have HMo : Hid (msgOK i c r q x n.data.toList k rs = (headOK i c r q x rs.length n.data.toList k && rs.all WRec.ok)) := Lib.hid rfl
  obtain ⟨m, hml⟩ : ∃ m, rs.length = m := ⟨_, rfl⟩
  rw [hml] at HRow HMl HMo HY HZ HHl hr32 HRa
  have HM := Lib.hid hml
  have HFl : Hid (∀ W vv, Calls Tryz.prog 170 #[.agg #[.int .i64 i, .bool r, .bool q, .bool x, .int .i64 c, .string n, .int .i64 k, vv]] W fun e w' => e = .returned (.int .i64 (flagV c r q x)) ∧ Below W.heap.size W w') := Lib.hid (fun W vv => flags_any i c k r q x n vv W)
  have HSub : Hid (∀ W v' l' b', WR B W p v' l' b' → MaxAt W → B ≤ W.heap.size → l'.length ≤ 900000000 → Calls Tryz.prog 171 #[.pointer (some ⟨p, 0, none⟩), .string n, .int .i64 k] W (Wrote B W p v' l' (b' || !subOK n.data.toList k) (subB n.data.toList k))) := Lib.hid (fun W v' l' b' h1 h2 h3 h4 => wsubject_any n k W hn h2 h1 hp hB0 h3 h4)
  have HRec : Hid (∀ (r : WRec) W v' l' b', r ∈ rs → WR B W p v' l' b' → MaxAt W → B ≤ W.heap.size → l'.length ≤ 800000000 → Calls Tryz.prog 172 #[.pointer (some ⟨p, 0, none⟩), .agg #[.string r.name, .int .i64 r.kind, .int .i64 r.ttl, .string r.data]] W (Wrote B W p v' l' (b' || !r.ok) r.bytes)) := Lib.hid (fun r W v' l' b' h0 h1 h2 h3 h4 => wrecord_any r.name r.kind r.ttl r.data W (hnd r h0).1 (hnd r h0).2 h2 h1 hp hB0 h3 h4)
  rw [hml]
  clear hrs hn hnd hm hw hhl hra hfar hml hp hB0 hB
  go_enter Tryz.func139, Tryz.ntmps139
  go_upto_region 1 with (fail)
  have hC1 := wword_wrote i 0 _ (HWa.out (.cells #[.int .i64 i, .bool r, .bool q, .bool x, .int .i64 c, .string n, .int .i64 k, .slice ra m rc] 48)) (HBa.out _ _ _ (WStep.refl _ _ _)) (by omega)
  have HC1 := Lib.hid hC1
  clear hC1
  go_upto_region 2 with (go_at_call 168; refine HC1.out.mono ?_; rintro e w1 ⟨rfl, v1, hw1, hs1⟩; have HW1 := Lib.hid hw1; have HS1 := Lib.hid hs1; clear hw1 hs1)
  have e4 := wnew_cells HS1.out HPq.out HVq.out 4 _ rfl
  have HCk : Hid (∀ h, Calls Tryz.prog 169 #[.pointer (some ⟨p, 0, none⟩), .bool h] w1 (CheckR w1 p ((bad || !wordOK i 0) || !h))) := Lib.hid (fun h => wcheck_any h w1 HW1.out)
  go_cut [] from 10 to 20 (fun wx => wx = w1.setCell ⟨p, 1, none⟩ (.bool ((bad || !wordOK i 0) || !codeOK c)))
  case first =>
    rcases Classical.em (0 ≤ c) with hc0 | hc0
    · rcases Classical.em (c ≤ 15) with hc1 | hc1
      · have hk : codeOK c = true := by unfold codeOK; rw [decide_eq_true hc0, decide_eq_true hc1]; rfl
        go_wp2_with (go_at_call 169; refine (HCk.out _).mono ?_; rintro e w2 ⟨rfl, rfl⟩)
        go_meet
        rw [hk]; simp
      · have hk : codeOK c = false := by unfold codeOK; rw [decide_eq_false hc1, Bool.and_false]
        go_wp2_with (go_at_call 169; refine (HCk.out _).mono ?_; rintro e w2 ⟨rfl, rfl⟩)
        go_meet
        rw [hk]; simp
    · have hk : codeOK c = false := by unfold codeOK; rw [decide_eq_false hc0, Bool.false_and]
      go_wp2_with (go_at_call 169; refine (HCk.out _).mono ?_; rintro e w2 ⟨rfl, rfl⟩)
      go_meet
      rw [hk]; simp
  case rest =>
    obtain ⟨w2, hw2⟩ : ∃ W, w1.setCell ⟨p, 1, none⟩ (.bool ((bad || !wordOK i 0) || !codeOK c)) = W := ⟨_, rfl⟩
    have HW2 := Lib.hid (HW1.out.setbad ((bad || !wordOK i 0) || !codeOK c))
    have HS2 := Lib.hid (HS1.out.set 1 (.bool ((bad || !wordOK i 0) || !codeOK c)))
    rw [hw2] at hcut HW2 HS2
    replace hcut := hcut.symm
    subst hcut
    clear hw2 e4 HCk
    have e0 := wnew_cells HS2.out HPq.out HVq.out 0 _ rfl
    have e1 := wnew_cells HS2.out HPq.out HVq.out 1 _ rfl
    have e2 := wnew_cells HS2.out HPq.out HVq.out 2 _ rfl
    have e3 := wnew_cells HS2.out HPq.out HVq.out 3 _ rfl
    have e4 := wnew_cells HS2.out HPq.out HVq.out 4 _ rfl
    have e5 := wnew_cells HS2.out HPq.out HVq.out 5 _ rfl
    have e6 := wnew_cells HS2.out HPq.out HVq.out 6 _ rfl
    have e7 := wnew_cells HS2.out HPq.out HVq.out 7 _ rfl
    have HC3 : Hid (∀ W, Below w2.heap.size w2 W → Calls Tryz.prog 168 #[.pointer (some ⟨p, 0, none⟩), .int .i64 (flagV c r q x), .int .i64 0] W (Wrote B W p v1 (l ++ wordB i) (((bad || !wordOK i 0) || !codeOK c) || !wordOK (flagV c r q x) 0) (wordB (flagV c r q x)))) := Lib.hid (fun W h => wword_wrote _ 0 W (HW2.out.below h) (Nat.le_trans (HBa.out _ _ _ HS2.out) h.size) (by rw [List.length_append, hwl]; omega))
    go_upto_region 4 with (first | (go_at_call 170; refine (HFl.out _ _).mono ?_; rintro e w3 ⟨rfl, hb3⟩; have HB3 := Lib.hid hb3; clear hb3) | (go_at_call 168; refine (HC3.out _ HB3.out).mono ?_; rintro e w4 ⟨rfl, v4, hw4, hs4⟩; have HW4 := Lib.hid hw4; have HS4 := Lib.hid ((HS2.out.below HB3.out).trans hs4); clear hw4 hs4))
    clear e0 e1 e2 e3 e4 e5 e6 e7
    have hC5 := wword_wrote 1 0 w4 HW4.out (HBa.out _ _ _ HS4.out) (by simp only [List.length_append, hwl]; omega)
    have HC5 := Lib.hid hC5
    clear hC5
    go_upto_region 5 with (go_at_call 168; refine HC5.out.mono ?_; rintro e w5 ⟨rfl, v5, hw5, hs5⟩; have HW5 := Lib.hid hw5; have HS5 := Lib.hid (HS4.out.trans hs5); clear hw5 hs5)
    have e7 := wnew_cells HS5.out HPq.out HVq.out 7 _ rfl
    have hC6 := wword_wrote (m : Nat) 0 w5 HW5.out (HBa.out _ _ _ HS5.out) (by simp only [List.length_append, hwl]; omega)
    have HC6 := Lib.hid hC6
    clear hC6
    go_upto_region 6 with (go_at_call 168; refine HC6.out.mono ?_; rintro e w6 ⟨rfl, v6, hw6, hs6⟩; have HW6 := Lib.hid hw6; have HS6 := Lib.hid (HS5.out.trans hs6); clear hw6 hs6)
    clear e7
    have hC7 := wword_wrote 0 0 w6 HW6.out (HBa.out _ _ _ HS6.out) (by simp only [List.length_append, hwl]; omega)
    have HC7 := Lib.hid hC7
    clear hC7
    go_upto_region 7 with (go_at_call 168; refine HC7.out.mono ?_; rintro e w7 ⟨rfl, v7, hw7, hs7⟩; have HW7 := Lib.hid hw7; have HS7 := Lib.hid (HS6.out.trans hs7); clear hw7 hs7)
    have hC8 := wword_wrote 0 0 w7 HW7.out (HBa.out _ _ _ HS7.out) (by simp only [List.length_append, hwl]; omega)
    have HC8 := Lib.hid hC8
    clear hC8
    go_upto_region 8 with (go_at_call 168; refine HC8.out.mono ?_; rintro e w8 ⟨rfl, v8, hw8, hs8⟩; have HW8 := Lib.hid hw8; have HS8 := Lib.hid (HS7.out.trans hs8); clear hw8 hs8)
    have e5 := wnew_cells HS8.out HPq.out HVq.out 5 _ rfl
    have e6 := wnew_cells HS8.out HPq.out HVq.out 6 _ rfl
    have hC9 := HSub.out w8 _ _ _ HW8.out (HMa.out _ _ _ HS8.out) (HBa.out _ _ _ HS8.out) (by simp only [List.length_append, hwl]; omega)
    have HC9 := Lib.hid hC9
    clear hC9
    go_upto_region 9 with (go_at_call 171; refine HC9.out.mono ?_; rintro e w9 ⟨rfl, v9, hw9, hs9⟩; have HW9 := Lib.hid hw9; have HS9 := Lib.hid (HS8.out.trans hs9); clear hw9 hs9)
    clear e5 e6
    rw [HZ.out, HY.out _ rfl] at HW9
    have e7 := wnew_cells HS9.out HPq.out HVq.out 7 _ rfl
    obtain ⟨L0, hL0⟩ : ∃ L, l ++ headB i c r q x m n.data.toList k = L := ⟨_, rfl⟩
    obtain ⟨b0, hb0⟩ : ∃ b, (bad || !headOK i c r q x m n.data.toList k) = b := ⟨_, rfl⟩
    rw [hL0, hb0] at HW9
    rw [hL0] at HHl
    have HL0 := Lib.hid hL0
    have Hb0 := Lib.hid hb0
    have hhl := HHl.out
    clear hL0 hb0
    go_wp2
    clear e7
    go_loopw [46] (fun iv wr => ∃ (j : Nat) (v' : Value), j ≤ m ∧ iv = .int .i64 j ∧ WR B wr p v' (L0 ++ (rs.take j).flatMap WRec.bytes) (b0 || !(rs.take j).all WRec.ok) ∧ WStep p (w.alloc (.cells #[.int .i64 i, .bool r, .bool q, .bool x, .int .i64 c, .string n, .int .i64 k, .slice ra m rc] 48)) wr v v') (fun iv _ => m - (intOf iv).toNat)
    case atStart => exact ⟨0, v9, Nat.zero_le _, rfl, by simpa using HW9.out, HS9.out⟩
    case round =>
      obtain ⟨j, vj, hj, rfl, hwj, hsj⟩ := hrel
      have HWj := Lib.hid hwj
      have HSj := Lib.hid hsj
      clear hwj hsj
      by_cases hlt : j < m
      · obtain ⟨rj, hx⟩ : ∃ y, rs[j]? = some y := ⟨_, List.getElem?_eq_getElem (by rw [HM.out]; exact hlt)⟩
        have hra := HRa.out.resolve_left (by omega)
        obtain ⟨g, rfl⟩ := hra
        obtain ⟨x0, x1, x2, x3⟩ := HRow.out _ _ _ g rc HSj.out rfl j rj hx
        have HTk := Lib.hid (recs_take hx)
        have HIn : Hid (rj ∈ rs) := Lib.hid (List.mem_of_getElem? hx)
        have hpl : (L0 ++ (rs.take j).flatMap WRec.bytes).length ≤ 800000000 := by
          have h1 := recs_len (rs.take j)
          have h2 := List.length_take_le j rs
          have h3 : (rs.take j).length * 140000 ≤ 32 * 140000 := Nat.mul_le_mul_right _ (by omega)
          rw [List.length_append]
          omega
        have HC : Hid (∀ W, Below wr.heap.size wr W → Calls Tryz.prog 172 #[.pointer (some ⟨p, 0, none⟩), .agg #[.string rj.name, .int .i64 rj.kind, .int .i64 rj.ttl, .string rj.data]] W (Wrote B W p vj (L0 ++ (rs.take j).flatMap WRec.bytes) ((b0 || !(rs.take j).all WRec.ok) || !rj.ok) rj.bytes)) := Lib.hid (fun W h => HRec.out rj W vj _ _ HIn.out (HWj.out.below h) (HMa.out _ _ _ (HSj.out.below h)) (HBa.out _ _ _ (HSj.out.below h)) hpl)
        have HBo : Hid (∀ o, Below wr.heap.size wr (wr.alloc o)) := Lib.hid (fun o => (Below.refl _ _).alloc (Nat.le_refl _) o)
        have hj0 : (0 : Int) ≤ (j : Int) := by omega
        have hj1 : (j : Int) < (m : Int) := by omega
        clear hx hpl
        go_wp2_with (go_at_call 172; refine (HC.out _ (HBo.out _)).mono ?_; rintro e w10 ⟨rfl, v10, hw10, hs10⟩; have HW10 := Lib.hid hw10; have HS10 := Lib.hid ((HSj.out.below (HBo.out _)).trans hs10); clear hw10 hs10)
        go_roundw
        case rel =>
          refine ⟨j + 1, v10, hlt, by go_num, ?_, HS10.out⟩
          rw [HTk.out.1, HTk.out.2, ← List.append_assoc]
          have e : (b0 || !((rs.take j).all WRec.ok && rj.ok)) = ((b0 || !(rs.take j).all WRec.ok) || !rj.ok) := by cases b0 <;> cases (rs.take j).all WRec.ok <;> cases rj.ok <;> rfl
          rw [e]
          exact HW10.out
        case measure => simp [intOf]; omega
      · obtain rfl : j = m := by omega
        go_wp2
        go_end0
        have hw := HWj.out
        rw [List.take_of_length_le (by rw [HM.out]; exact Nat.le_refl _), ← HL0.out, ← Hb0.out] at hw
        refine ⟨rfl, _, ?_, HSw.out _ _ _ HSj.out⟩
        rw [HMl.out, HMo.out, ← List.append_assoc]
        have e : (bad || !(headOK i c r q x j n.data.toList k && rs.all WRec.ok)) = ((bad || !headOK i c r q x j n.data.toList k) || !rs.all WRec.ok) := by cases bad <;> cases headOK i c r q x j n.data.toList k <;> cases rs.all WRec.ok <;> rfl
        rw [e]
        exact hw
end Go.Proofs.YtogdkmkganpaaaaGreatDoor

namespace Go.Wi
open Go.RowKit
end Go.Wi
namespace Go.Proofs.YtogdkmkganpaaaaGreatDoor
open Go.RowKit Go.Lib Go.Wi Go.Tx
abbrev badV : Value := .iface 79 (.int .i64 8)
theorem cell_of {W : World} {b : Nat} {arr : Array Value} {e : TypeId} {fr : Nat × Nat} (h : W.heap[b]? = some (.cells arr e fr)) {j : Nat} {v : Value} (hj : arr[j]? = some v) : W.cell? ⟨b, j, none⟩ = some v := by simp [World.cell?, h, hj]
theorem free_of {W : World} {b : Nat} {arr : Array Value} {e : TypeId} (h : W.heap[b]? = some (.cells arr e (0, 0))) (j : Nat) : W.frozen? ⟨b, j, none⟩ = false := by simp [World.frozen?, h]
section
variable {w : World} {b : Nat} {x0 x1 x2 x3 x4 x5 x6 x7 : Value}
end
end Go.Proofs.YtogdkmkganpaaaaGreatDoor

namespace Go.Proofs.YtogdkmkganpaaaaGreatDoor
open Go.RowKit Go.Lib Go.Wi Go.Tx
def encOK (i c : Int) (r q x : Bool) (n : List UInt8) (k : Int) (rs : List WRec) : Bool := decide (rs.length ≤ 32) && (msgOK i c r q x n k rs && decide ((msgB i c r q x n k rs).length ≤ 4096))
/-- What Encode answers: the message's bytes, or BadMessage. -/
def EncR (w : World) (i c : Int) (r q x : Bool) (n : List UInt8) (k : Int) (rs : List WRec) (e : Ending) (w' : World) : Prop :=
  Below w.heap.size w w' ∧ ((encOK i c r q x n k rs = true ∧ ∃ v, e = .returned (.tuple #[v, .nilIface]) ∧ OwnB (w.heap.size + 2) w' v (msgB i c r q x n k rs)) ∨ (encOK i c r q x n k rs = false ∧ e = .returned (.tuple #[.slice none 0 0, badV])))
theorem RowsAt.below {w w' : World} {rv : Value} {rs : List WRec} (h : RowsAt w rv rs) (hb : Below w.heap.size w w') : RowsAt w' rv rs := by
  rcases h with h | ⟨g, c, e, hg, hr⟩
  · exact .inl h
  · refine .inr ⟨g, c, e, Nat.lt_of_lt_of_le hg hb.size, fun j r hj => ?_⟩
    have hcl : ∀ j, w'.cell? ⟨g, j, none⟩ = w.cell? ⟨g, j, none⟩ := fun j => by unfold World.cell?; rw [hb.block g hg]
    obtain ⟨a1, a2, a3, a4⟩ := hr j r hj
    exact ⟨by rw [hcl]; exact a1, by rw [hcl]; exact a2, by rw [hcl]; exact a3, by rw [hcl]; exact a4⟩
set_option maxHeartbeats 4000000 in
set_option maxRecDepth 100000 in
theorem wencode_any (i c k : Int) (r q x : Bool) (n : ByteArray) (rv : Value) (rs : List WRec) (w : World) (hrs : RowsAt w rv rs) (hn : n.size ≤ maxLen) (hnd : ∀ r ∈ rs, r.name.size ≤ maxLen ∧ r.data.size ≤ maxLen) (hm : MaxAt w) :
    Calls Tryz.prog 108 #[.agg #[.int .i64 i, .bool r, .bool q, .bool x, .int .i64 c, .string n, .int .i64 k, rv]] w (EncR w i c r q x n.data.toList k rs) := by
  have hrv : ∃ a cc, rv = .slice a rs.length cc := by
    rcases hrs with ⟨e1, e2⟩ | ⟨g1, c1, e1, _⟩
    · exact ⟨none, 0, by rw [e1, e2]; rfl⟩
    · exact ⟨_, _, e1⟩
  obtain ⟨ra, rc, hrv⟩ := hrv
  subst hrv
  have HB1 : Hid (∀ o, Below w.heap.size w (w.alloc o)) := Lib.hid (fun o => (Below.refl _ _).alloc (Nat.le_refl _) o)
  by_cases h32 : rs.length ≤ 32
  · have HOK : Hid (encOK i c r q x n.data.toList k rs = (msgOK i c r q x n.data.toList k rs && decide ((msgB i c r q x n.data.toList k rs).length ≤ 4096))) := Lib.hid (by unfold encOK; rw [decide_eq_true h32, Bool.true_and])
    obtain ⟨bo, hbo⟩ : ∃ bo, w.alloc (.cells #[.int .i64 i, .bool r, .bool q, .bool x, .int .i64 c, .string n, .int .i64 k, .slice ra rs.length rc] 48) = bo := ⟨_, rfl⟩
    have hB2 : Below w.heap.size w (bo.alloc (.cells #[.slice none 0 0, .bool false] 225)) := by
      rw [← hbo]
      exact (HB1.out _).trans (((Below.refl _ _).alloc (Nat.le_refl _) _).mono (HB1.out _).size)
    have hbs : bo.heap.size = w.heap.size + 1 := by rw [← hbo]; show (w.heap.push _).size = _; simp
    have hws : (bo.alloc (.cells #[.slice none 0 0, .bool false] 225)).heap.size = w.heap.size + 2 := by
      rw [show (bo.alloc (.cells #[.slice none 0 0, .bool false] 225)).heap.size = bo.heap.size + 1 from by show (bo.heap.push _).size = _; simp, hbs]
    have hW0 : WR (w.heap.size + 2) (bo.alloc (.cells #[.slice none 0 0, .bool false] 225)) (w.heap.size + 1) (.slice none 0 0) [] false := by
      refine ⟨⟨225, ?_⟩, World.ownsRow_nil _ _ _ _, by simp [Value.ownBlock]⟩
      show (bo.heap.push _)[w.heap.size + 1]? = _
      rw [← hbs]
      simp
    have hC := wmessage_any i c k r q x n (.slice ra rs.length rc) rs _ (hrs.below hB2) h32 hn hnd (hm.below hB2) hW0 (by omega) (by omega) (by rw [hws]; exact Nat.le_refl _) (by simp) (fun g cc e => ⟨fun e2 => by
      rcases hrs with ⟨e1, _⟩ | ⟨g1, c1, e1, hg, _⟩
      · rw [e] at e1; cases e1
      · rw [e] at e1
        have e3 : g = g1 := by injection e1 with a; injection a with a; injection a
        omega, by simp [Value.ownBlock]⟩)
    rw [Bool.false_or] at hC
    rw [← hbo] at hC hB2 hws
    have HC := Lib.hid hC
    have HBel : Hid (∀ W v', WStep (w.heap.size + 1) ((w.alloc (.cells #[.int .i64 i, .bool r, .bool q, .bool x, .int .i64 c, .string n, .int .i64 k, .slice ra rs.length rc] 48)).alloc (.cells #[.slice none 0 0, .bool false] 225)) W (.slice none 0 0) v' → Below w.heap.size w W) := Lib.hid (fun W v' h => ⟨h.os.trans hB2.os, h.tape.trans hB2.tape, h.output.trans hB2.output, Nat.le_trans hB2.size h.size, fun b hb => (h.same b (Nat.lt_of_lt_of_le hb hB2.size) (by omega) (by simp [Value.ownBlock])).trans (hB2.block b hb)⟩)
    have HBx : Hid (∀ W v', WStep (w.heap.size + 1) ((w.alloc (.cells #[.int .i64 i, .bool r, .bool q, .bool x, .int .i64 c, .string n, .int .i64 k, .slice ra rs.length rc] 48)).alloc (.cells #[.slice none 0 0, .bool false] 225)) W (.slice none 0 0) v' → ∀ j y, (#[.int .i64 i, .bool r, .bool q, .bool x, .int .i64 c, .string n, .int .i64 k, .slice ra rs.length rc] : Array Value)[j]? = some y → W.cell? ⟨w.heap.size, j, none⟩ = some y) := Lib.hid (fun W v' h j y hy => by
      have e := h.same w.heap.size (by rw [hws]; omega) (by omega) (by simp [Value.ownBlock])
      have e2 := World.cell?_alloc_new w #[.int .i64 i, .bool r, .bool q, .bool x, .int .i64 c, .string n, .int .i64 k, .slice ra rs.length rc] 48 j
      have e3 := (Below.refl (w.alloc (.cells #[.int .i64 i, .bool r, .bool q, .bool x, .int .i64 c, .string n, .int .i64 k, .slice ra rs.length rc] 48)).heap.size (w.alloc (.cells #[.int .i64 i, .bool r, .bool q, .bool x, .int .i64 c, .string n, .int .i64 k, .slice ra rs.length rc] 48))).alloc (Nat.le_refl _) (.cells #[.slice none 0 0, .bool false] 225)
      have e4 := e3.block w.heap.size (by show w.heap.size < (w.heap.push _).size; simp)
      rw [hy] at e2
      rw [← e2]
      unfold World.cell?
      rw [e, e4])
    obtain ⟨mb, hmb⟩ : ∃ M, msgB i c r q x n.data.toList k rs = M := ⟨_, rfl⟩
    unfold EncR
    rw [hmb] at HC HOK ⊢
    clear hbo hB2 hbs hws hW0 hC hrs hn hnd hm hmb
    have hl32 : (rs.length : Int) ≤ 32 := by omega
    cases hok : msgOK i c r q x n.data.toList k rs with
    | false =>
      rw [hok, Bool.not_false] at HC
      rw [hok, Bool.false_and] at HOK
      clear hok
      go_enter Tryz.func108, Tryz.ntmps108
      go_upto_region 5 with (go_at_call 139; refine HC.out.mono ?_; rintro e w2 ⟨rfl, v2, hw2, hs2⟩; have HW2 := Lib.hid (show WR (w.heap.size + 2) w2 (w.heap.size + 1) v2 mb _ from hw2); have HS2 := Lib.hid hs2; clear hw2 hs2)
      have k1 := HW2.out.c1
      go_wp2
      go_ret2
      exact ⟨HBel.out _ _ HS2.out, .inr ⟨HOK.out, rfl⟩⟩
    | true =>
      rw [hok, Bool.not_true] at HC
      rw [hok, Bool.true_and] at HOK
      clear hok
      by_cases hlen : mb.length ≤ 4096
      · rw [decide_eq_true hlen] at HOK
        have hli : ¬ (mb.length : Int) > 4096 := by omega
        go_enter Tryz.func108, Tryz.ntmps108
        go_upto_region 5 with (go_at_call 139; refine HC.out.mono ?_; rintro e w2 ⟨rfl, v2, hw2, hs2⟩; have HW2 := Lib.hid (show WR (w.heap.size + 2) w2 (w.heap.size + 1) v2 mb _ from hw2); have HS2 := Lib.hid hs2; clear hw2 hs2)
        obtain ⟨va, vc, hv⟩ := HW2.out.shape
        subst hv
        have k0 := HW2.out.c0
        have k1 := HW2.out.c1
        go_wp2
        go_ret2
        exact ⟨HBel.out _ _ HS2.out, .inl ⟨HOK.out, _, rfl, HW2.out.own⟩⟩
      · rw [decide_eq_false hlen] at HOK
        have hli : (4096 : Int) < (mb.length : Int) := by omega
        go_enter Tryz.func108, Tryz.ntmps108
        go_upto_region 5 with (go_at_call 139; refine HC.out.mono ?_; rintro e w2 ⟨rfl, v2, hw2, hs2⟩; have HW2 := Lib.hid (show WR (w.heap.size + 2) w2 (w.heap.size + 1) v2 mb _ from hw2); have HS2 := Lib.hid hs2; clear hw2 hs2)
        obtain ⟨va, vc, hv⟩ := HW2.out.shape
        subst hv
        have k0 := HW2.out.c0
        have k1 := HW2.out.c1
        go_wp2
        go_ret2
        exact ⟨HBel.out _ _ HS2.out, .inr ⟨HOK.out, rfl⟩⟩
  · have HOK : Hid (encOK i c r q x n.data.toList k rs = false) := Lib.hid (by unfold encOK; rw [decide_eq_false h32, Bool.false_and])
    clear hrs hn hnd hm
    go_enter Tryz.func108, Tryz.ntmps108
    go_wp2
    go_ret2
    exact ⟨HB1.out _, .inr ⟨HOK.out, rfl⟩⟩
end Go.Proofs.YtogdkmkganpaaaaGreatDoor

namespace Go.Proofs.YtogdkmkganpaaaaGreatDoor
open Go.RowKit Go.Lib Go.Wi Go.Tx
/-- A lookup on its way. -/
structure LkL where
  stamp : Int
  srv : List ByteArray
  att : Int
  tmo : Int
  subj : List ByteArray
  kinds : List Int
  kind : Nat
  tries : List (Int × ByteArray)
  til : Int
  strm : Option (Nat × ByteArray × List UInt8)
  data : List ByteArray
  life : Int
  lost : Bool
/-- What a lookup that has ended tells. -/
structure EndL where
  stamp : Int
  code : Int
  names : List ByteArray
  addrs : List ByteArray
  life : Int
inductive LkS where
  | on (l : LkL)
  | off (e : EndL)
/-- A resolver's last ID, and the world. -/
structure MS where
  id : Int
  net : NetW
def nidF (i : Int) : Int := i % 65535 + 1
def LkL.name (l : LkL) : ByteArray := l.subj.headD ⟨#[]⟩
def LkL.ask (l : LkL) : Int := l.kinds.getD l.kind 0
def tryB (i : Int) (l : LkL) : List UInt8 := msgB i 0 false false true l.name.data.toList l.ask []
def LkL.server (l : LkL) : ByteArray := l.srv.getD (l.tries.length % l.srv.length) ⟨#[]⟩
def sendM (m : MS) (l : LkL) : MS := ⟨nidF m.id, { m.net with sent := m.net.sent ++ [(l.server, false, tryB (nidF m.id) l)] }⟩
def sendL (m : MS) (l : LkL) : LkL := { l with tries := l.tries ++ [(nidF m.id, l.server)], til := m.net.now + l.tmo }
/-- A name that can be asked for. -/
def goodN (x : ByteArray) : Prop := x.size ≤ 253 ∧ ∀ (i k : Int), 1 ≤ i → i ≤ 65535 → (k = 1 ∨ k = 12 ∨ k = 28) → encOK i 0 false false true x.data.toList k [] = true
/-- A lookup as the program's are. -/
structure LkOK (l : LkL) : Prop where
  srv : 1 ≤ l.srv.length ∧ l.srv.length ≤ 3
  srvB : ∀ x ∈ l.srv, x.size ≤ 16
  att : 1 ≤ l.att ∧ l.att ≤ 5
  tmo : 1 ≤ l.tmo ∧ l.tmo ≤ 30
  subj : 1 ≤ l.subj.length ∧ l.subj.length ≤ 8
  good : ∀ x ∈ l.subj, goodN x
  kinds : l.kinds = [1, 28] ∨ l.kinds = [12]
  tries : (l.tries.length : Int) ≤ l.att * l.srv.length
  data : l.data.length ≤ 32
  dataB : ∀ x ∈ l.data, x.size ≤ 300
  life : 0 ≤ l.life ∧ l.life ≤ 86400
structure MsOK (m : MS) : Prop where
  id : 0 ≤ m.id ∧ m.id ≤ 65535
  now : 0 ≤ m.net.now ∧ m.net.now ≤ 1152921504606846976
  net : Okn m.net
theorem nid_ok {i : Int} (h : 0 ≤ i ∧ i ≤ 65535) : 1 ≤ nidF i ∧ nidF i ≤ 65535 := by unfold nidF; omega
end Go.Proofs.YtogdkmkganpaaaaGreatDoor

namespace Go.Proofs.YtogdkmkganpaaaaGreatDoor
open Go.RowKit Go.Mp Go.Rb Go.Lib
abbrev pathR : ByteArray := ⟨#[47, 101, 116, 99, 47, 114, 101, 115, 111, 108, 118]⟩
/-- Elements of one cell each, in blocks of S: to be read alone. -/
def CsIn (S : Nat → Prop) (w : World) (v : Value) (L : List Value) : Prop :=
  ∃ (a : Option Addr) (c : Nat), v = .slice a L.length c ∧ L.length ≤ c ∧ c ≤ 9223372036854775807 ∧ ∀ i x, L[i]? = some x → ∃ g o, a = some ⟨g, o, none⟩ ∧ S g ∧ w.cell? ⟨g, o + i, none⟩ = some x
/-- A row that is appended to, in blocks of S. -/
def RowIn (S : Nat → Prop) (w : World) (e : TypeId) (sz : Nat) (v : Value) (n : Nat) (L : List Value) : Prop := w.ownsRow 0 e sz v n L ∧ ∀ q, v.ownBlock = some q → S q
/-- The stream that is heard. -/
def StIn (S : Nat → Prop) (w : World) (v : Value) : Option (Nat × ByteArray × List UInt8) → Prop
  | none => v = .pointer none
  | some (n, s, h) => ∃ (tb : Nat) (a : Option Addr) (k c : Nat), v = .pointer (some ⟨tb, 0, none⟩) ∧ w.heap[tb]? = some (.cells #[.int .i64 (n : Int), .string s, .slice a k c] 327 (0, 0)) ∧ S tb ∧ RB 0 w (.slice a k c) h ∧ ∀ q, a = some q → S q.block
structure LkV where
  srv : Value
  sea : Value
  dots : Int
  rot : Bool
  sub : Value
  kin : Value
  tri : Value
  str : Value
  dat : Value
def lkC (sb : Nat) (l : LkL) (V : LkV) : Array Value :=
  #[.pointer (some ⟨sb, 0, none⟩), .string pathR, .int .i64 l.stamp, V.srv, V.sea, .int .i64 V.dots, .int .i64 l.tmo, .int .i64 l.att, .bool V.rot, V.sub, V.kin, .int .i64 (l.kind : Int), V.tri, .int .i64 l.til, V.str, V.dat, .int .i64 l.life, .bool l.lost, .bool false, .int .i64 0, .slice none 0 0, .slice none 0 0, .int .i64 0, .int .i64 0]
theorem cellLt {w : World} {a : Addr} {v : Value} (h : w.cell? a = some v) : a.block < w.heap.size := by
  unfold World.cell? at h
  split at h
  · rename_i hh
    exact (Array.getElem?_eq_some_iff.1 hh).1
  · cases h
def triC (t : Int × ByteArray) : List Value := [.int .i64 t.1, .string t.2]
structure LkIn (c : Nat) (col : Nat → Nat) (w : World) (sb lb : Nat) (l : LkL) (V : LkV) : Prop where
  blk : w.heap[lb]? = some (.cells (lkC sb l V) 120 (0, 0))
  own : col lb = c
  srv : CsIn (fun k => col k = 6) w V.srv (l.srv.map .string)
  sub : CsIn (fun k => col k = 6) w V.sub (l.subj.map .string)
  kin : CsIn (fun k => col k = 6) w V.kin (l.kinds.map (.int .i64))
  tri : RowIn (fun k => col k = c) w 162 2 V.tri l.tries.length (l.tries.flatMap triC)
  str : StIn (fun k => col k = c) w V.str l.strm
  dat : RowIn (fun k => col k = c) w 9 1 V.dat l.data.length (l.data.map .string)
theorem CsIn.same {S S' : Nat → Prop} {w w' : World} {v : Value} {L : List Value} (h : CsIn S w v L) (hh : ∀ k, S k → S' k ∧ w'.heap[k]? = w.heap[k]?) : CsIn S' w' v L := by
  obtain ⟨a, c, e, h1, h2, h3⟩ := h
  refine ⟨a, c, e, h1, h2, fun i x hx => ?_⟩
  obtain ⟨g, o, ea, hs, hc⟩ := h3 i x hx
  exact ⟨g, o, ea, (hh g hs).1, (World.cell?_of_block (w := w) (hh g hs).2).trans hc⟩
theorem RowIn.same {S S' : Nat → Prop} {w w' : World} {e : TypeId} {sz n : Nat} {v : Value} {L : List Value} (h : RowIn S w e sz v n L) (hh : ∀ k, S k → S' k ∧ ((∃ (cs : Array Value) (fr : Nat × Nat), w.heap[k]? = some (Obj.cells cs e fr)) → w'.heap[k]? = w.heap[k]?)) : RowIn S' w' e sz v n L := by
  refine ⟨⟨h.1.1, h.1.2.imp id (fun ⟨g, cp, cur, a, r1, r2, r3⟩ => ⟨g, cp, cur, a, r1, ?_, r3⟩)⟩, fun q e => (hh q (h.2 q e)).1⟩
  exact ((hh g (h.2 g (by rw [a]; rfl))).2 ⟨_, _, r2⟩).trans r2
theorem StIn.same {S S' : Nat → Prop} {w w' : World} {v : Value} {s : Option (Nat × ByteArray × List UInt8)} (h : StIn S w v s) (hh : ∀ k, S k → S' k ∧ ((∃ (cs : Array Value) (fr : Nat × Nat), w.heap[k]? = some (Obj.cells cs 327 fr) ∨ w.heap[k]? = some (Obj.cells cs 5 fr)) → w'.heap[k]? = w.heap[k]?)) : StIn S' w' v s := by
  cases s with
  | none => exact h
  | some x =>
    obtain ⟨n, s, l⟩ := x
    obtain ⟨tb, a, k, c, e, hb, hs, hr, ha⟩ := h
    refine ⟨tb, a, k, c, e, ((hh tb hs).2 ⟨_, _, .inl hb⟩).trans hb, (hh tb hs).1, RB.keepB hr (fun q cs fr ea hq => (hh _ (ha q ea)).2 ⟨_, _, .inr hq⟩), fun q e => (hh _ (ha q e)).1⟩
section
variable {W0 c : Nat} {col col' : Nat → Nat} {w w' : World} {sb lb wb : Nat} {l l' : LkL} {V V' : LkV} {cs : Nat → Prop}
theorem LkIn.keep (h : LkIn c col w sb lb l V) (hc : ColOk W0 col w) (hf : Fr cs col col' w w') (h0 : c ≠ 0) (hcs : ¬ cs c ∧ ¬ cs 6) : LkIn c col' w' sb lb l V := by
  have h1 : ∀ k, col k = c → col' k = c ∧ w'.heap[k]? = w.heap[k]? := fun k e => ⟨(hf.old k (col_new hc h0 k e)).trans e, hf.keep k (col_new hc h0 k e) (by rw [e]; exact hcs.1)⟩
  have h6 : ∀ k, col k = 6 → col' k = 6 ∧ w'.heap[k]? = w.heap[k]? := fun k e => ⟨(hf.old k (col_new hc (by decide) k e)).trans e, hf.keep k (col_new hc (by decide) k e) (by rw [e]; exact hcs.2)⟩
  exact ⟨(h1 lb h.own).2.trans h.blk, (h1 lb h.own).1, h.srv.same h6, h.sub.same h6, h.kin.same h6, h.tri.same (fun k e => ⟨(h1 k e).1, fun _ => (h1 k e).2⟩), h.str.same (fun k e => ⟨(h1 k e).1, fun _ => (h1 k e).2⟩), h.dat.same (fun k e => ⟨(h1 k e).1, fun _ => (h1 k e).2⟩)⟩
theorem LkIn.below (h : LkIn c col w sb lb l V) (hc : ColOk W0 col w) (h0 : c ≠ 0) (hb : Below w.heap.size w w') : LkIn c col w' sb lb l V := h.keep hc (Fr.below (cs := fun _ => False) hb) h0 ⟨id, id⟩
theorem Fr.drew (h : Fr cs col col' w w') : Fr cs col col' w w'.drew := ⟨h.os, h.tape, h.output, h.size, h.old, h.keep, h.bod⟩
theorem ColOk.drew (h : ColOk W0 col w) : ColOk W0 col w.drew := ⟨h.base, h.lo, h.u8⟩
theorem fr_set (hc : ColOk W0 col w) (h100 : 100 ≤ col lb ∨ col lb = 4) (j : Nat) (v : Value) : ColOk W0 col (w.setCell ⟨lb, j, none⟩ v) ∧ Fr (fun x => x = col lb) col col w (w.setCell ⟨lb, j, none⟩ v) := by
  have hne : ∀ k, col k ≠ col lb → (w.setCell ⟨lb, j, none⟩ v).heap[k]? = w.heap[k]? := fun k hk => heap_setCell_ne _ _ _ _ _ (fun e => hk (by rw [e]))
  refine ⟨⟨by rw [size_setCell']; exact hc.base, fun k hk => by rw [size_setCell']; exact hc.lo k hk, fun k hk => ?_⟩, rfl, rfl, rfl, by rw [size_setCell']; exact Nat.le_refl _, fun _ _ => rfl, fun k _ hk => hne k hk, fun k _ hk _ => hne k (by omega)⟩
  obtain ⟨cs, fr, e⟩ := hc.u8 k hk
  exact ⟨cs, fr, (hne k (by omega)).trans e⟩
/-- A cell of the lookup is written. -/
theorem LkIn.set (h : LkIn c col w sb lb l V) (h100 : 100 ≤ c) (j : Nat) (v : Value) (he : (lkC sb l V).setIfInBounds j v = lkC sb l' V')
    (hsrv : CsIn (fun k => col k = 6) w V'.srv (l'.srv.map .string)) (hsub : CsIn (fun k => col k = 6) w V'.sub (l'.subj.map .string)) (hkin : CsIn (fun k => col k = 6) w V'.kin (l'.kinds.map (.int .i64)))
    (htri : RowIn (fun k => col k = c) w 162 2 V'.tri l'.tries.length (l'.tries.flatMap triC)) (hstr : StIn (fun k => col k = c) w V'.str l'.strm) (hdat : RowIn (fun k => col k = c) w 9 1 V'.dat l'.data.length (l'.data.map .string)) :
    LkIn c col (w.setCell ⟨lb, j, none⟩ v) sb lb l' V' := by
  have h6 : ∀ k, col k = 6 → col k = 6 ∧ (w.setCell ⟨lb, j, none⟩ v).heap[k]? = w.heap[k]? := fun k e => ⟨e, heap_setCell_ne _ _ _ _ _ (fun e2 => by rw [e2, h.own] at e; omega)⟩
  have hT : ∀ (t : TypeId) k, t ≠ 120 → (∃ (cs : Array Value) (fr : Nat × Nat), w.heap[k]? = some (Obj.cells cs t fr)) → (w.setCell ⟨lb, j, none⟩ v).heap[k]? = w.heap[k]? := fun t k ht ⟨cs, fr, e⟩ => heap_setCell_ne _ _ _ _ _ (fun e2 => by
    rw [e2, h.blk] at e
    injection e with e
    injection e with _ e
    exact ht e.symm)
  refine ⟨?_, h.own, hsrv.same h6, hsub.same h6, hkin.same h6, htri.same (fun k e => ⟨e, hT _ k (by decide)⟩), hstr.same (fun k e => ⟨e, fun ⟨cs, fr, q⟩ => ?_⟩), hdat.same (fun k e => ⟨e, hT _ k (by decide)⟩)⟩
  · rw [← he]
    exact heap_setCell_eq _ _ _ _ _ _ _ h.blk
  · rcases q with q | q
    · exact hT _ k (by decide) ⟨_, _, q⟩
    · exact hT _ k (by decide) ⟨_, _, q⟩
theorem LkIn.lt (h : LkIn c col w sb lb l V) : lb < w.heap.size := (Array.getElem?_eq_some_iff.1 h.blk).1
theorem LkIn.cell (h : LkIn c col w sb lb l V) {j : Nat} {v : Value} (hj : (lkC sb l V)[j]? = some v) : w.cell? ⟨lb, j, none⟩ = some v := by simp [World.cell?, h.blk, hj]
theorem LkIn.free (h : LkIn c col w sb lb l V) (j : Nat) : w.frozen? ⟨lb, j, none⟩ = false := by simp [World.frozen?, h.blk]
theorem LkIn.c0 (h : LkIn c col w sb lb l V) : w.cell? ⟨lb, 0, none⟩ = some (.pointer (some ⟨sb, 0, none⟩)) := h.cell rfl
theorem LkIn.c1 (h : LkIn c col w sb lb l V) : w.cell? ⟨lb, 1, none⟩ = some (.string pathR) := h.cell rfl
theorem LkIn.c2 (h : LkIn c col w sb lb l V) : w.cell? ⟨lb, 2, none⟩ = some (.int .i64 l.stamp) := h.cell rfl
theorem LkIn.c3 (h : LkIn c col w sb lb l V) : w.cell? ⟨lb, 3, none⟩ = some (V.srv) := h.cell rfl
theorem LkIn.c4 (h : LkIn c col w sb lb l V) : w.cell? ⟨lb, 4, none⟩ = some (V.sea) := h.cell rfl
theorem LkIn.c5 (h : LkIn c col w sb lb l V) : w.cell? ⟨lb, 5, none⟩ = some (.int .i64 V.dots) := h.cell rfl
theorem LkIn.c6 (h : LkIn c col w sb lb l V) : w.cell? ⟨lb, 6, none⟩ = some (.int .i64 l.tmo) := h.cell rfl
theorem LkIn.c7 (h : LkIn c col w sb lb l V) : w.cell? ⟨lb, 7, none⟩ = some (.int .i64 l.att) := h.cell rfl
theorem LkIn.c8 (h : LkIn c col w sb lb l V) : w.cell? ⟨lb, 8, none⟩ = some (.bool V.rot) := h.cell rfl
theorem LkIn.c9 (h : LkIn c col w sb lb l V) : w.cell? ⟨lb, 9, none⟩ = some (V.sub) := h.cell rfl
theorem LkIn.c10 (h : LkIn c col w sb lb l V) : w.cell? ⟨lb, 10, none⟩ = some (V.kin) := h.cell rfl
theorem LkIn.c11 (h : LkIn c col w sb lb l V) : w.cell? ⟨lb, 11, none⟩ = some (.int .i64 (l.kind : Int)) := h.cell rfl
theorem LkIn.c12 (h : LkIn c col w sb lb l V) : w.cell? ⟨lb, 12, none⟩ = some (V.tri) := h.cell rfl
theorem LkIn.c13 (h : LkIn c col w sb lb l V) : w.cell? ⟨lb, 13, none⟩ = some (.int .i64 l.til) := h.cell rfl
theorem LkIn.c18 (h : LkIn c col w sb lb l V) : w.cell? ⟨lb, 18, none⟩ = some (.bool false) := h.cell rfl
theorem LkIn.c20 (h : LkIn c col w sb lb l V) : w.cell? ⟨lb, 20, none⟩ = some (.slice none 0 0) := h.cell rfl
end
end Go.Proofs.YtogdkmkganpaaaaGreatDoor

namespace Go.Proofs.YtogdkmkganpaaaaGreatDoor
open Go.RowKit Go.Mp Go.Rb Go.Lib Go.Wi
/-- The resolver's own block. -/
def SbIn (col : Nat → Nat) (w : World) (sb wb : Nat) (id begun : Int) : Prop := w.heap[sb]? = some (.cells #[.pointer (some ⟨wb, 0, none⟩), .int .i64 id, .int .i64 begun] 104 (0, 0)) ∧ col sb = 4
section
variable {W0 c : Nat} {col col' : Nat → Nat} {w w' : World} {sb lb wb : Nat} {l l' : LkL} {V V' : LkV} {cs : Nat → Prop} {id bg : Int}
theorem SbIn.keep (h : SbIn col w sb wb id bg) (hc : ColOk W0 col w) (hf : Fr cs col col' w w') (hcs : ¬ cs 4) : SbIn col' w' sb wb id bg :=
  ⟨(hf.keep sb (col_new hc (by decide) sb h.2) (by rw [h.2]; exact hcs)).trans h.1, (hf.old sb (col_new hc (by decide) sb h.2)).trans h.2⟩
set_option maxRecDepth 100000 in
theorem nextID_any (h : SbIn col w sb wb id bg) (hc : ColOk W0 col w) (hid : 0 ≤ id ∧ id ≤ 65535) :
    Calls Tryz.prog 69 #[.pointer (some ⟨sb, 0, none⟩)] w fun e w' => e = .returned (.int .i64 (nidF id)) ∧ SbIn col w' sb wb (nidF id) bg ∧ ColOk W0 col w' ∧ Fr (fun x => x = 4) col col w w' := by
  have hb := h.1
  have k1 : w.cell? ⟨sb, 1, none⟩ = some (.int .i64 id) := by simp [World.cell?, hb]
  have f1 : w.frozen? ⟨sb, 1, none⟩ = false := by simp [World.frozen?, hb]
  have hm : IntKind.i64.wrap (id.tmod 65535) = id.tmod 65535 := by
    have h1 := Int.tmod_eq_emod_of_nonneg (a := id) (b := 65535) hid.1
    simp [IntKind.wrap, IntKind.bits, IntKind.signed]; omega
  have hm2 : IntKind.i64.wrap (id.tmod 65535 + 1) = nidF id := by
    have h1 := Int.tmod_eq_emod_of_nonneg (a := id) (b := 65535) hid.1
    unfold nidF
    simp [IntKind.wrap, IntKind.bits, IntKind.signed]; omega
  have HS := Lib.hid h
  have HC := Lib.hid hc
  clear h hc
  go_enter Tryz.func69, Tryz.ntmps69
  go_wp2
  go_ret
  have h4 := fr_set (lb := sb) HC.out (.inr HS.out.2) 1 (.int .i64 (nidF id))
  rw [HS.out.2] at h4
  exact ⟨rfl, ⟨heap_setCell_eq _ _ _ _ _ _ _ HS.out.1, HS.out.2⟩, h4.1, h4.2⟩
theorem CsIn.open {S : Nat → Prop} {v : Value} {L : List Value} (h : CsIn S w v L) {i : Nat} {x : Value} (hx : L[i]? = some x) : ∃ (g o cc : Nat), v = .slice (some ⟨g, o, none⟩) L.length cc ∧ L.length ≤ cc ∧ cc ≤ 9223372036854775807 ∧ S g ∧ ∀ j y, L[j]? = some y → w.cell? ⟨g, o + j, none⟩ = some y := by
  obtain ⟨a, cc, e, h1, h2, h3⟩ := h
  obtain ⟨g, o, rfl, hs, _⟩ := h3 i x hx
  refine ⟨g, o, cc, e, h1, h2, hs, fun j y hy => ?_⟩
  obtain ⟨g', o', e2, _, hc⟩ := h3 j y hy
  injection e2 with e2
  injection e2 with e3 e4
  subst e3 e4
  exact hc
set_option maxRecDepth 100000 in
theorem question_any (h : LkIn c col w sb lb l V) (hs : 1 ≤ l.subj.length) (hk : l.kind < l.kinds.length) (hkl : l.kinds.length ≤ 2) (hsl : l.subj.length ≤ 8) :
    Calls Tryz.prog 109 #[.pointer (some ⟨lb, 0, none⟩)] w fun e w' => e = .returned (.agg #[.string l.name, .int .i64 l.ask]) ∧ Below w.heap.size w w' := by
  obtain ⟨nm, hnm⟩ : ∃ x, l.subj[0]? = some x := ⟨_, List.getElem?_eq_getElem hs⟩
  obtain ⟨ak, hak⟩ : ∃ x, l.kinds[l.kind]? = some x := ⟨_, List.getElem?_eq_getElem hk⟩
  have hN : l.name = nm := by unfold LkL.name; rw [List.headD_eq_head?_getD, List.head?_eq_getElem?, hnm]; rfl
  have hA : l.ask = ak := by unfold LkL.ask; rw [List.getD_eq_getElem?_getD, hak]; rfl
  obtain ⟨g1, o1, c1, e1, n1, m1, _, r1⟩ := h.sub.open (i := 0) (x := .string nm) (by rw [List.getElem?_map, hnm]; rfl)
  obtain ⟨g2, o2, c2, e2, n2, m2, _, r2⟩ := h.kin.open (i := l.kind) (x := .int .i64 ak) (by rw [List.getElem?_map, hak]; rfl)
  have q1 := r1 0 (.string nm) (by rw [List.getElem?_map, hnm]; rfl)
  have q2 := r2 l.kind (.int .i64 ak) (by rw [List.getElem?_map, hak]; rfl)
  rw [List.length_map] at e1 e2 n1 n2
  rw [Nat.add_zero] at q1
  have k9 := h.c9
  have k10 := h.c10
  have k11 := h.c11
  rw [e1] at k9
  rw [e2] at k10
  have hlt := h.lt
  have hg1 : g1 < w.heap.size := cellLt q1
  have hg2 : g2 < w.heap.size := cellLt q2
  have hb1 : Below w.heap.size w (w.alloc (.cells #[.string ⟨#[]⟩, .int .i64 0] 45)) := (Below.refl _ w).alloc (Nat.le_refl _) _
  have hC : ∀ p v, w.cell? p = some v → (w.alloc (.cells #[.string ⟨#[]⟩, .int .i64 0] 45)).cell? p = some v := fun p v e => (hb1.cell (cellLt e)).trans e
  have hr := heap_alloc_new w (.cells #[.string ⟨#[]⟩, .int .i64 0] 45)
  have K9 := hC _ _ k9
  have K10 := hC _ _ k10
  have K11 := hC _ _ k11
  have Q1 := hC _ _ q1
  have Q2 := hC _ _ q2
  have HR := Lib.hid hr
  have HB := Lib.hid hb1
  have fr : ∀ j, (w.alloc (.cells #[.string ⟨#[]⟩, .int .i64 0] 45)).frozen? ⟨w.heap.size, j, none⟩ = false := fun j => free_of hr j
  have fr0 := fr 0
  have fr1 := fr 1
  rw [hN, hA]
  have hs1 : (0 : Int) < (l.subj.length : Int) := by omega
  have hk1 : (l.kind : Int) < (l.kinds.length : Int) := by omega
  clear h hnm hak hN hA r1 r2 e1 e2 k9 k10 k11 q1 q2 hb1 hC hr fr
  go_enter Tryz.func109, Tryz.ntmps109
  go_wp2
  go_region
  go_wp2
  refine bodyPost_ret (results_cell_row rfl _ _ w.heap.size _ _ _ _ rfl (heap_alloc_new w _) Tryz.underlying45 rfl (by kernel_rfl)) rfl ?_
  exact ⟨rfl, ((Below.refl _ w).alloc (Nat.le_refl _) _).drew⟩
theorem own_rb {B : Nat} {w : World} {v : Value} {l : List UInt8} (h : OwnB B w v l) : ∃ a n c, v = .slice a n c ∧ RB 0 w (.slice a n c) l := by
  rcases h with ⟨h1, ⟨h2, h3⟩ | ⟨g, cap, cur, e, h3, h4, h5, h6, h7, h8⟩⟩
  · have e : l = [] := List.length_eq_zero_iff.1 h3
    exact ⟨none, 0, 0, h2, .inl ⟨rfl, e⟩⟩
  · refine ⟨_, _, _, e, .inr ⟨g, cap, rfl, Nat.zero_le _, by unfold maxLen at h6; omega, cur, 0, 0, h4, .inr rfl, by omega, h5, fun j c hj => ?_⟩⟩
    have e2 : (l.map u8V)[j]? = some (u8V c) := by rw [List.getElem?_map, hj]; rfl
    rw [← h8] at e2
    have hj2 := (List.getElem?_eq_some_iff.1 hj).1
    rw [List.getElem?_take, if_pos (by omega)] at e2
    rw [← Array.getElem?_toList]
    exact e2
theorem goodN.enc {x : ByteArray} (h : goodN x) {i k : Int} (h1 : 1 ≤ i) (h2 : i ≤ 65535) (hk : k = 1 ∨ k = 12 ∨ k = 28) : encOK i 0 false false true x.data.toList k [] = true := h.2 i k h1 h2 hk
set_option maxRecDepth 100000 in
theorem lmessage_any (h : LkIn c col w sb lb l V) (hs : 1 ≤ l.subj.length) (hk : l.kind < l.kinds.length) (hkl : l.kinds.length ≤ 2) (hsl : l.subj.length ≤ 8) (hm : MaxAt w) (i : Int) (hi : 1 ≤ i ∧ i ≤ 65535) (hg : goodN l.name) (hak : l.ask = 1 ∨ l.ask = 12 ∨ l.ask = 28) :
    Calls Tryz.prog 71 #[.pointer (some ⟨lb, 0, none⟩), .int .i64 i] w fun e w' => ∃ a n cc, e = .returned (.slice a n cc) ∧ RB 0 w' (.slice a n cc) (tryB i l) ∧ Below w.heap.size w w' := by
  have hQ := question_any h hs hk hkl hsl
  have hE : ∀ W, Below w.heap.size w W → Calls Tryz.prog 108 #[.agg #[.int .i64 i, .bool false, .bool false, .bool true, .int .i64 0, .string l.name, .int .i64 l.ask, .slice none 0 0]] W fun e w' => ∃ a n cc, e = .returned (.tuple #[.slice a n cc, .nilIface]) ∧ RB 0 w' (.slice a n cc) (tryB i l) ∧ Below w.heap.size w w' := fun W hW => by
    refine (wencode_any i 0 l.ask false false true l.name (.slice none 0 0) [] W (.inl ⟨rfl, rfl⟩) (by have := hg.1; unfold maxLen; omega) (fun r hr => by cases hr) (hm.below hW)).mono ?_
    rintro e w' ⟨hb, ⟨_, v, he, ho⟩ | ⟨hno, _⟩⟩
    · obtain ⟨a, n, cc, rfl, hr⟩ := own_rb ho
      exact ⟨a, n, cc, he, hr, hW.trans (hb.mono hW.size)⟩
    · rw [hg.enc hi.1 hi.2 hak] at hno
      cases hno
  have HQ := Lib.hid hQ
  have HE := Lib.hid hE
  clear h hQ hE hm hg hak
  generalize l.name = nm at *
  generalize l.ask = ak at *
  generalize tryB i l = tb at *
  go_enter Tryz.func71, Tryz.ntmps71
  go_wp2_with (first | (go_at_call 109; refine HQ.out.mono ?_; rintro e w2 ⟨rfl, hb2⟩; have HB2 := Lib.hid hb2; clear hb2) | (go_at_call 108; refine (HE.out _ HB2.out).mono ?_; rintro e w3 ⟨a3, n3, c3, rfl, hr3, hb3⟩; have HR3 := Lib.hid hr3; have HB3 := Lib.hid hb3; clear hr3 hb3))
  go_ret
  exact ⟨_, _, _, rfl, HR3.out, HB3.out⟩
set_option maxRecDepth 100000 in
theorem wait_any (h : LkIn c col w sb lb l V) (h100 : 100 ≤ c) (hc : ColOk W0 col w) (hsb : SbIn col w sb wb id bg) {s : NetW} (hp : PW col w wb s) (hn : 0 ≤ s.now ∧ s.now ≤ 1152921504606846976) (ht : 1 ≤ l.tmo ∧ l.tmo ≤ 30) :
    Calls Tryz.prog 72 #[.pointer (some ⟨lb, 0, none⟩)] w fun e w' => e = .returned (.tuple #[]) ∧ LkIn c col w' sb lb { l with til := s.now + l.tmo } V ∧ ColOk W0 col w' ∧ Fr (fun x => x = c) col col w w' := by
  have hN := (hp.below hc (Below.refl w.heap.size w).drew).now_
  have k0 := h.c0
  have k6 := h.c6
  have s0 : w.cell? ⟨sb, 0, none⟩ = some (.pointer (some ⟨wb, 0, none⟩)) := cell_of hsb.1 rfl
  have f13 := h.free 13
  have k13 := h.c13
  have hw2 : IntKind.i64.wrap (s.now + l.tmo) = s.now + l.tmo := by simp [IntKind.wrap, IntKind.bits, IntKind.signed]; omega
  have HN := Lib.hid hN
  have HL := Lib.hid h
  have HC := Lib.hid hc
  clear h hc hsb hp hN
  go_enter Tryz.func72, Tryz.ntmps72
  go_region_law (go_simp; go_at_call 110; refine HN.out.mono ?_; rintro e w3 ⟨rfl, rfl⟩)
  all_goals (
    go_end0
    have h5 := fr_set (lb := lb) HC.out (.inl (by rw [HL.out.own]; exact h100)) 13 (.int .i64 (s.now + l.tmo))
    rw [HL.out.own] at h5
    exact ⟨rfl, (HL.out.set (l' := { l with til := s.now + l.tmo }) (V' := V) h100 13 _ rfl HL.out.srv HL.out.sub HL.out.kin HL.out.tri HL.out.str HL.out.dat).below h5.1 (by omega) (Below.refl _ _).drew, h5.1.drew, h5.2.drew⟩)
end
end Go.Proofs.YtogdkmkganpaaaaGreatDoor

