/- Contracts and plain facts that the law leans on. -/
import Derived.Test.YtfmnemcnonbkfaaGreatDoorRlCa
import Derived.Deep.AppendLies
import Derived.Laws.CopyOwn
import Derived.Test.YtfmnemcnonbkfaaGreatDoorChecked
import Derived.WalkKit
import Derived.LoopTactic
import Derived.Test.YtfmnemcnonbkfaaGreatDoorShelf
import Derived.OwnWalk
import Derived.Deep.CutRange
import Derived.Test.YtfmnemcnonbkfaaGreatDoorRows
import Derived.Below
import Derived.Laws.IdiomStrings
import Derived.Lib.Hide
import Derived.Laws.AppendOwn
import Derived.Lib.SplitLaws
import Derived.Lib.IndexMore
import Derived.Lib.ParseIntB
namespace Go.Tx
open Go.Lib
theorem takeH {α : Type} {T : List α} {k : Nat} {t : α} (h : T[k]? = some t) : T.take (k + 1) = T.take k ++ [t] := by
  have hk := (List.getElem?_eq_some_iff.1 h).1
  rw [List.getElem?_eq_getElem hk] at h
  cases h
  exact List.take_succ_eq_append_getElem hk
/-! ### How long words are -/
theorem stepW_word {n : Nat} {u : List UInt8 × List (List UInt8)} {c : UInt8} (h1 : u.1.length ≤ n) (h2 : ∀ x ∈ u.2, x.length ≤ n) : (stepW blankN u c).1.length ≤ n + 1 ∧ ∀ x ∈ (stepW blankN u c).2, x.length ≤ n + 1 := by
  unfold stepW
  split
  · split
    · exact ⟨by simp, fun x hx => Nat.le_succ_of_le (h2 x hx)⟩
    · refine ⟨by simp, fun x hx => ?_⟩
      rcases List.mem_append.1 hx with hx | hx
      · exact Nat.le_succ_of_le (h2 x hx)
      · rw [List.mem_singleton.1 hx]; omega
  · exact ⟨by simp; omega, fun x hx => Nat.le_succ_of_le (h2 x hx)⟩
theorem fold_word : ∀ (l : List UInt8) (n : Nat) (u : List UInt8 × List (List UInt8)), u.1.length ≤ n → (∀ x ∈ u.2, x.length ≤ n) → (l.foldl (stepW blankN) u).1.length ≤ n + l.length ∧ ∀ x ∈ (l.foldl (stepW blankN) u).2, x.length ≤ n + l.length
  | [], n, u, h1, h2 => ⟨h1, h2⟩
  | c :: l, n, u, h1, h2 => by
    have h3 := stepW_word (c := c) h1 h2
    have h4 := fold_word l (n + 1) _ h3.1 h3.2
    rw [List.foldl_cons, List.length_cons]
    exact ⟨by omega, fun x hx => by have := h4.2 x hx; omega⟩
theorem hashCut_len (l : List UInt8) : (hashCut l).length ≤ l.length := by
  unfold hashCut
  exact (List.takeWhile_sublist _).length_le
theorem wordsOf_few (l : List UInt8) : (wordsOf l).length ≤ 513 ∧ ∀ x ∈ wordsOf l, x.length ≤ 512 := by
  unfold wordsOf
  cases hb : badSeg l with
  | true => simp
  | false =>
    simp only [Bool.false_eq_true, if_false]
    have hl : l.length ≤ 512 := by
      unfold badSeg at hb
      simp only [Bool.or_eq_false_iff, decide_eq_false_iff_not] at hb
      omega
    have hc := hashCut_len l
    have h1 := fold_len (hashCut l) ([], [])
    have h2 := fold_word (hashCut l) 0 ([], []) (by simp) (by simp)
    unfold wordsL closeW
    simp only [List.length_nil, Nat.zero_add] at h1 h2
    split
    · exact ⟨by omega, fun x hx => by have := h2.2 x hx; omega⟩
    · refine ⟨by simp; omega, fun x hx => ?_⟩
      rcases List.mem_append.1 hx with hx | hx
      · have := h2.2 x hx; omega
      · rw [List.mem_singleton.1 hx]; omega
/-- A line that is told. -/
structure FineL (ws : List (List UInt8)) : Prop where
  ne : ws ≠ []
  few : ws.length ≤ 513
  word : ∀ x ∈ ws, x.length ≤ 512
theorem tell_fine (no : Nat) (l : List UInt8) : ∀ t ∈ tell no l, FineL t.2 := by
  intro t ht
  unfold tell at ht
  split at ht
  · simp at ht
  · rename_i h
    rw [List.mem_singleton.1 ht]
    exact ⟨h, (wordsOf_few l).1, (wordsOf_few l).2⟩
theorem tell_few (no : Nat) (l : List UInt8) : (tell no l).length ≤ 1 := by
  unfold tell
  split <;> simp
theorem toldG_fine : ∀ (l : List UInt8) (no : Nat) (cur : List UInt8), (∀ t ∈ toldG no cur l, FineL t.2) ∧ (toldG no cur l).length ≤ l.length + 1
  | [], no, cur => ⟨tell_fine no cur, tell_few no cur⟩
  | c :: l, no, cur => by
    unfold toldG
    split
    · have h := toldG_fine l (no + 1) []
      have h2 := tell_few no cur
      refine ⟨fun t ht => ?_, by simp; omega⟩
      rcases List.mem_append.1 ht with ht | ht
      · exact tell_fine no cur t ht
      · exact h.1 t ht
    · have h := toldG_fine l no (cur ++ [c])
      exact ⟨h.1, by simp; omega⟩
end Go.Tx
namespace Go.Proofs.YtfmnemcnonbkfaaGreatDoor
open Go.RowKit Go.Lib Go.Tx
/-- All blocks below B but b are as they were. -/
structure Keep (B b : Nat) (a w : World) : Prop where
  os : w.os = a.os
  tape : w.tape = a.tape
  output : w.output = a.output
  size : a.heap.size ≤ w.heap.size
  block : ∀ k, k < B → k ≠ b → w.heap[k]? = a.heap[k]?
theorem Keep.refl (B b : Nat) (w : World) : Keep B b w w := ⟨rfl, rfl, rfl, Nat.le_refl _, fun _ _ _ => rfl⟩
theorem Keep.below {B b : Nat} {a w w' : World} (h : Keep B b a w) (hB : B ≤ w.heap.size) (k : Below w.heap.size w w') : Keep B b a w' :=
  ⟨k.os.trans h.os, k.tape.trans h.tape, k.output.trans h.output, Nat.le_trans h.size k.size, fun j h1 h2 => (k.block j (by omega)).trans (h.block j h1 h2)⟩
theorem Keep.set {B b : Nat} {a w : World} (h : Keep B b a w) (j : Nat) (v : Value) : Keep B b a (w.setCell ⟨b, j, none⟩ v) :=
  ⟨h.os, h.tape, h.output, by have := h.size; simpa [World.setCell] using this, fun k h1 h2 => by
    rw [← h.block k h1 h2]
    simp [World.setCell, Array.getElem?_modify]
    intro e
    omega⟩
theorem Keep.grown {B b : Nat} {a w w' : World} {row : Option Nat} (h : Keep B b a w) (hB : B ≤ w.heap.size) (g : w.grownBy w' row) (hr : ∀ k, row = some k → B ≤ k) : Keep B b a w' :=
  ⟨g.os.trans h.os, g.tape.trans h.tape, g.output.trans h.output, Nat.le_trans h.size g.size, fun j h1 h2 => (g.block j (by omega) (fun e => by have := hr j e.symm; omega)).trans (h.block j h1 h2)⟩
theorem Keep.cell {B b : Nat} {a w : World} (h : Keep B b a w) {p : Addr} (hp : p.block < B) (hn : p.block ≠ b) : w.cell? p = a.cell? p := World.cell?_of_block (w := a) (h.block p.block hp hn)
theorem setE_ne {w : World} {b c : Nat} (h : c ≠ b) (j : Nat) (v : Value) : (w.setCell ⟨b, j, none⟩ v).heap[c]? = w.heap[c]? := by
  simp [World.setCell, Array.getElem?_modify]
  intro e
  omega
theorem setE_eq {w : World} {b j : Nat} {cs : Array Value} {y : Value} {e : TypeId} {fr : Nat × Nat} (h : w.heap[b]? = some (.cells cs e fr)) : (w.setCell ⟨b, j, none⟩ y).heap[b]? = some (.cells (cs.setIfInBounds j y) e fr) := by
  simp [World.setCell, Array.getElem?_modify, h]
theorem setE_size {w : World} {b j : Nat} {y : Value} : (w.setCell ⟨b, j, none⟩ y).heap.size = w.heap.size := by simp [World.setCell]
theorem strc_set {B b j : Nat} {w : World} {v u : Value} {ws : List (List UInt8)} (h : StrC B w v ws) (hb : b < B) : StrC B (w.setCell ⟨b, j, none⟩ u) v ws := by
  refine ⟨h.1, ?_⟩
  rcases h.2 with h0 | ⟨g, cap, cur, q1, q2, q3, q4⟩
  · exact .inl h0
  · refine .inr ⟨g, cap, cur, q1, q2, ?_, q4⟩
    rw [setE_ne (by omega)]
    exact q3
theorem strc_less {B B' : Nat} {w : World} {v : Value} {ws : List (List UInt8)} (h : StrC B w v ws) (hb : B' ≤ B) : StrC B' w v ws := by
  refine ⟨h.1, ?_⟩
  rcases h.2 with h0 | ⟨g, cap, cur, q1, q2, q3⟩
  · exact .inl h0
  · exact .inr ⟨g, cap, cur, q1, by omega, q3⟩
/-- Settings in the block b, their rows from B on. -/
structure SetAt (a : World) (B b : Nat) (v1 v2 : Value) (S : SetL) (w : World) : Prop where
  blk : w.heap[b]? = some (.cells #[v1, v2, .int .i64 S.dots, .int .i64 S.tmo, .int .i64 S.att, .bool S.rot] 28 (0, 0))
  srv : StrC B w v1 S.servers
  sea : StrC B w v2 S.search
  two : ∀ g, v1.ownBlock = some g → v2.ownBlock ≠ some g
  low : b < B
  top : B ≤ w.heap.size
  kp : Keep B b a w
theorem SetAt.below {a w w' : World} {B b : Nat} {v1 v2 : Value} {S : SetL} (h : SetAt a B b v1 v2 S w) (hb : Below w.heap.size w w') : SetAt a B b v1 v2 S w' :=
  ⟨(hb.block b (by have := h.low; have := h.top; omega)).trans h.blk, own_below h.srv hb, own_below h.sea hb, h.two, h.low, Nat.le_trans h.top hb.size, h.kp.below h.top hb⟩
theorem SetAt.cells {a w : World} {B b : Nat} {v1 v2 : Value} {S : SetL} (h : SetAt a B b v1 v2 S w) : (w.cell? ⟨b, 0, none⟩ = some v1 ∧ w.cell? ⟨b, 1, none⟩ = some v2 ∧ w.cell? ⟨b, 2, none⟩ = some (.int .i64 S.dots) ∧ w.cell? ⟨b, 3, none⟩ = some (.int .i64 S.tmo) ∧ w.cell? ⟨b, 4, none⟩ = some (.int .i64 S.att) ∧ w.cell? ⟨b, 5, none⟩ = some (.bool S.rot)) ∧
    (w.frozen? ⟨b, 0, none⟩ = false ∧ w.frozen? ⟨b, 1, none⟩ = false ∧ w.frozen? ⟨b, 2, none⟩ = false ∧ w.frozen? ⟨b, 3, none⟩ = false ∧ w.frozen? ⟨b, 4, none⟩ = false ∧ w.frozen? ⟨b, 5, none⟩ = false) := by
  have hb := h.blk
  refine ⟨⟨?_, ?_, ?_, ?_, ?_, ?_⟩, ⟨?_, ?_, ?_, ?_, ?_, ?_⟩⟩ <;> simp [World.cell?, World.frozen?, hb]
theorem SetAt.setN {a w : World} {B b : Nat} {v1 v2 : Value} {S : SetL} (h : SetAt a B b v1 v2 S w) : ∀ x, SetAt a B b v1 v2 ⟨S.servers, S.search, x, S.tmo, S.att, S.rot⟩ (w.setCell ⟨b, 2, none⟩ (.int .i64 x)) := fun x =>
  ⟨setE_eq h.blk, strc_set h.srv h.low, strc_set h.sea h.low, h.two, h.low, by rw [setE_size]; exact h.top, h.kp.set 2 _⟩
theorem SetAt.setT {a w : World} {B b : Nat} {v1 v2 : Value} {S : SetL} (h : SetAt a B b v1 v2 S w) : ∀ x, SetAt a B b v1 v2 ⟨S.servers, S.search, S.dots, x, S.att, S.rot⟩ (w.setCell ⟨b, 3, none⟩ (.int .i64 x)) := fun x =>
  ⟨setE_eq h.blk, strc_set h.srv h.low, strc_set h.sea h.low, h.two, h.low, by rw [setE_size]; exact h.top, h.kp.set 3 _⟩
theorem SetAt.setA {a w : World} {B b : Nat} {v1 v2 : Value} {S : SetL} (h : SetAt a B b v1 v2 S w) : ∀ x, SetAt a B b v1 v2 ⟨S.servers, S.search, S.dots, S.tmo, x, S.rot⟩ (w.setCell ⟨b, 4, none⟩ (.int .i64 x)) := fun x =>
  ⟨setE_eq h.blk, strc_set h.srv h.low, strc_set h.sea h.low, h.two, h.low, by rw [setE_size]; exact h.top, h.kp.set 4 _⟩
theorem SetAt.setR {a w : World} {B b : Nat} {v1 v2 : Value} {S : SetL} (h : SetAt a B b v1 v2 S w) : ∀ x, SetAt a B b v1 v2 ⟨S.servers, S.search, S.dots, S.tmo, S.att, x⟩ (w.setCell ⟨b, 5, none⟩ (.bool x)) := fun x =>
  ⟨setE_eq h.blk, strc_set h.srv h.low, strc_set h.sea h.low, h.two, h.low, by rw [setE_size]; exact h.top, h.kp.set 5 _⟩
theorem SetAt.setNil {a w : World} {B b : Nat} {v1 v2 : Value} {S : SetL} (h : SetAt a B b v1 v2 S w) : SetAt a B b v1 (.slice none 0 0) ⟨S.servers, [], S.dots, S.tmo, S.att, S.rot⟩ (w.setCell ⟨b, 1, none⟩ (.slice none 0 0)) :=
  ⟨setE_eq h.blk, strc_set h.srv h.low, World.ownsRow_nil _ _ _ _, fun g _ => by simp [Value.ownBlock], h.low, by rw [setE_size]; exact h.top, h.kp.set 1 _⟩
theorem SetAt.al {a w : World} {B b : Nat} {v1 v2 : Value} {S : SetL} (h : SetAt a B b v1 v2 S w) (o : Obj) : SetAt a B b v1 v2 S (w.alloc o) := h.below ((Below.refl _ _).alloc (Nat.le_refl _) o)
theorem SetAt.grS {a w w' : World} {B b : Nat} {v1 v2 : Value} {S : SetL} (h : SetAt a B b v1 v2 S w) (hg : w.grownBy w' v1.ownBlock) : w'.cell? ⟨b, 0, none⟩ = some v1 ∧ w'.frozen? ⟨b, 0, none⟩ = false := by
  have hb := h.low
  have ht := h.top
  have hblk := (hg.block b (by omega) (fun e => by have := (World.ownsRow.lt h.srv b e.symm).1; omega)).trans h.blk
  simp [World.cell?, World.frozen?, hblk]
theorem SetAt.grN {a w w' : World} {B b : Nat} {v1 v2 : Value} {S : SetL} (h : SetAt a B b v1 v2 S w) (hg : w.grownBy w' v2.ownBlock) : w'.cell? ⟨b, 1, none⟩ = some v2 ∧ w'.frozen? ⟨b, 1, none⟩ = false := by
  have hb := h.low
  have ht := h.top
  have hblk := (hg.block b (by omega) (fun e => by have := (World.ownsRow.lt h.sea b e.symm).1; omega)).trans h.blk
  simp [World.cell?, World.frozen?, hblk]
/-- A server more: behind the append. -/
theorem SetAt.pushS {a w w' : World} {B b g cap : Nat} {v1 v2 : Value} {S : SetL} {x : List UInt8} (h : SetAt a B b v1 v2 S w)
    (ho : w'.ownsRow B 9 1 (.slice (some ⟨g, 0, none⟩) (S.servers.length + 1) cap) (S.servers.length + 1) (S.servers.map strV ++ [.string ⟨x.toArray⟩])) (hg : w.grownBy w' v1.ownBlock) (hat : v1.ownBlock = some g ∨ g = w.heap.size) :
    SetAt a B b (.slice (some ⟨g, 0, none⟩) (S.servers.length + 1) cap) v2 ⟨S.servers ++ [x], S.search, S.dots, S.tmo, S.att, S.rot⟩ (w'.setCell ⟨b, 0, none⟩ (.slice (some ⟨g, 0, none⟩) (S.servers.length + 1) cap)) := by
  have hlow : ∀ k, v1.ownBlock = some k → B ≤ k := fun k hk => (World.ownsRow.lt h.srv k hk).1
  have hb := h.low
  have ht := h.top
  have hne : some b ≠ v1.ownBlock := fun e => by have := hlow b e.symm; omega
  have hblk := (hg.block b (by omega) hne).trans h.blk
  have hkv : v2.ownBlock = none ∨ v2.ownBlock ≠ v1.ownBlock := by
    cases hv : v2.ownBlock with
    | none => exact .inl rfl
    | some k => exact .inr (fun e => h.two k e.symm hv)
  refine ⟨setE_eq hblk, ?_, strc_set (World.ownsRow.kept h.sea hg hkv) hb, ?_, hb, by rw [setE_size]; exact Nat.le_trans ht hg.size, (h.kp.grown ht hg hlow).set 0 _⟩
  · refine strc_set ?_ hb
    unfold StrC
    rw [List.length_append, List.map_append]
    exact ho
  · intro k hk e
    have hk' : g = k := by simpa [Value.ownBlock] using hk
    subst hk'
    rcases hat with h1 | h1
    · exact h.two g h1 e
    · have := (World.ownsRow.lt h.sea g e).2
      omega
/-- A name more: behind the append. -/
theorem SetAt.pushN {a w w' : World} {B b g cap : Nat} {v1 v2 : Value} {S : SetL} {x : List UInt8} (h : SetAt a B b v1 v2 S w)
    (ho : w'.ownsRow B 9 1 (.slice (some ⟨g, 0, none⟩) (S.search.length + 1) cap) (S.search.length + 1) (S.search.map strV ++ [.string ⟨x.toArray⟩])) (hg : w.grownBy w' v2.ownBlock) (hat : v2.ownBlock = some g ∨ g = w.heap.size) :
    SetAt a B b v1 (.slice (some ⟨g, 0, none⟩) (S.search.length + 1) cap) ⟨S.servers, S.search ++ [x], S.dots, S.tmo, S.att, S.rot⟩ (w'.setCell ⟨b, 1, none⟩ (.slice (some ⟨g, 0, none⟩) (S.search.length + 1) cap)) := by
  have hlow : ∀ k, v2.ownBlock = some k → B ≤ k := fun k hk => (World.ownsRow.lt h.sea k hk).1
  have hb := h.low
  have ht := h.top
  have hne : some b ≠ v2.ownBlock := fun e => by have := hlow b e.symm; omega
  have hblk := (hg.block b (by omega) hne).trans h.blk
  have hkv : v1.ownBlock = none ∨ v1.ownBlock ≠ v2.ownBlock := by
    cases hv : v1.ownBlock with
    | none => exact .inl rfl
    | some k => exact .inr (fun e => h.two k hv e.symm)
  refine ⟨setE_eq hblk, strc_set (World.ownsRow.kept h.srv hg hkv) hb, ?_, ?_, hb, by rw [setE_size]; exact Nat.le_trans ht hg.size, (h.kp.grown ht hg hlow).set 1 _⟩
  · refine strc_set ?_ hb
    unfold StrC
    rw [List.length_append, List.map_append]
    exact ho
  · intro k hk e
    have hk' : g = k := by simpa [Value.ownBlock] using e
    subst hk'
    rcases hat with h1 | h1
    · exact h.two g hk h1
    · have := (World.ownsRow.lt h.srv g hk).2
      omega
end Go.Proofs.YtfmnemcnonbkfaaGreatDoor

namespace Go.Proofs.YtfmnemcnonbkfaaGreatDoor
open Go.RowKit Go.Lib Go.Tx Go.Rb Go.Ev
def fullP (r : Option (List UInt8)) : Option (List UInt8) := match r with
  | some b => if b.length = 16 then some b else none
  | none => none
def plainP (l : List UInt8) : Option (List UInt8) := fullP (groupsP true l)
/-- The head of Parse's scan: no '::' at k, the next round. -/
theorem cc_bytes {s : ByteArray} {k : Nat} (hlt : k + 1 < s.size) (h : ccAt s.data.toList k = false) : ((s[k].toNat : Int) != 58) = true ∨ (((s[k].toNat : Int) != 58) = false ∧ ((s[k + 1].toNat : Int) != 58) = true) := by
  have hc1 : s.data.toList[k]? = some s[k] := List.getElem?_eq_getElem (by show k < s.size; omega)
  have hc2 : s.data.toList[k + 1]? = some s[k + 1] := List.getElem?_eq_getElem hlt
  unfold ccAt at h
  rw [hc1, hc2] at h
  simp only [Option.some.injEq, Bool.and_eq_false_iff, decide_eq_false_iff_not] at h
  by_cases h1 : s[k] = 58
  · right
    refine ⟨by rw [h1]; rfl, ?_⟩
    rw [bne_iff_ne]
    intro h2
    rcases h with h | h
    · exact h h1
    · exact h (UInt8.toNat_inj.1 (by show _ = 58; omega))
  · left
    rw [bne_iff_ne]
    intro h2
    exact h1 (UInt8.toNat_inj.1 (by show _ = 58; omega))
set_option maxHeartbeats 2000000 in
set_option maxRecDepth 100000 in
theorem parse_plain (s : ByteArray) (w : World) (hn : s.size ≤ 100000) (hf : fourP (splitL 46 s.data.toList) = none) (hcc : ∀ j, j + 1 < s.size → ccAt s.data.toList j = false) :
    Calls Tryz.prog 16 #[.string s] w (FourR w (plainP s.data.toList)) := by
  have HF := Lib.hid hf
  have HC := Lib.hid hcc
  clear hf hcc
  have hg : ∀ W, Calls Tryz.prog 27 #[.string s, .bool true] W (GroupsR W (groupsP true s.data.toList)) := fun W => groups_any true s W hn
  have HGA := Lib.hid hg
  clear hg
  obtain ⟨r, hr⟩ : ∃ r, groupsP true s.data.toList = r := ⟨_, rfl⟩
  have HR := Lib.hid hr
  have HX : Hid (plainP s.data.toList = fullP r) := Lib.hid (by unfold plainP; rw [hr])
  clear hr
  go_enter Tryz.func16, Tryz.ntmps16
  go_wp2_with (go_at_call 26; refine (four_any s _ (by omega)).mono ?_; rw [HF.out]; rintro e w3 ⟨rfl, hb3⟩; simp only [Option.getD_none, Option.isSome_none])
  have HB := Lib.hid hb3
  clear hb3
  go_loopw [6] (fun i wr => ∃ k : Nat, k ≤ s.size ∧ i = .int .i64 k ∧ wr = w3) (fun i _ => s.size - (intOf i).toNat)
  case atStart => exact ⟨0, Nat.zero_le _, rfl, rfl⟩
  case round =>
    obtain ⟨k, hk, rfl, rfl⟩ := hrel
    by_cases hlt : k + 1 < s.size
    · rcases cc_bytes hlt (HC.out k hlt) with e1 | ⟨e1, e2⟩
      · go_wp2
        go_roundw
        case rel => exact ⟨k + 1, by omega, by go_num, trivial⟩
        case measure => simp [intOf]; omega
      · go_wp2
        go_roundw
        case rel => exact ⟨k + 1, by omega, by go_num, trivial⟩
        case measure => simp [intOf]; omega
    · cases r with
      | none =>
        go_wp2_with (go_at_call 27; refine (HGA.out _).mono ?_; intro e w4 h4; obtain ⟨rfl, hb4⟩ := groupsR_none HR.out h4; clear h4)
        go_ret2
        exact ⟨by rw [HX.out]; rfl, HB.out.trans (hb4.mono HB.out.size)⟩
      | some b =>
        by_cases h16 : b.length = 16
        · have e16 : ((b.length : Int) != 16) = false := by simp; omega
          have H16 := Lib.hid h16
          clear h16
          go_wp2_with (go_at_call 27; refine (HGA.out _).mono ?_; intro e w4 h4; obtain ⟨v4, rfl, hr4, hb4⟩ := groupsR_some HR.out h4; clear h4; have hstr := hr4.str (src := 22) (dst := 9) Tryz.underlying22 Tryz.underlying5 Tryz.underlying9; obtain ⟨p4, c4, rfl, hc4, hc5⟩ := hr4.shape)
          go_ret2
          exact ⟨by rw [HX.out]; simp only [fullP, if_pos H16.out]; rfl, HB.out.trans (hb4.mono HB.out.size)⟩
        · have e16 : ((b.length : Int) != 16) = true := by simp; omega
          have H16 := Lib.hid h16
          clear h16
          go_wp2_with (go_at_call 27; refine (HGA.out _).mono ?_; intro e w4 h4; obtain ⟨v4, rfl, hr4, hb4⟩ := groupsR_some HR.out h4; clear h4; obtain ⟨p4, c4, rfl, hc4, hc5⟩ := hr4.shape)
          go_ret2
          exact ⟨by rw [HX.out]; simp only [fullP, if_neg H16.out]; rfl, HB.out.trans (hb4.mono HB.out.size)⟩
end Go.Proofs.YtfmnemcnonbkfaaGreatDoor

namespace Go.Proofs.YtfmnemcnonbkfaaGreatDoor
open Go.RowKit Go.Lib Go.Tx Go.Rb Go.Ev
theorem cc_yes {s : ByteArray} {k : Nat} (hlt : k + 1 < s.size) (h : ccAt s.data.toList k = true) : ((s[k].toNat : Int) != 58) = false ∧ ((s[k + 1].toNat : Int) != 58) = false := by
  have hc1 : s.data.toList[k]? = some s[k] := List.getElem?_eq_getElem (by show k < s.size; omega)
  have hc2 : s.data.toList[k + 1]? = some s[k + 1] := List.getElem?_eq_getElem hlt
  unfold ccAt at h
  rw [hc1, hc2] at h
  simp only [Option.some.injEq, Bool.and_eq_true, decide_eq_true_eq] at h
  rw [h.1, h.2]
  exact ⟨rfl, rfl⟩
/-- Where bytes lie. -/
theorem RB.cells {B : Nat} {w : World} {p : Option Addr} {n c : Nat} {l : List UInt8} (h : RB B w (.slice p n c) l) (h0 : 0 < l.length) : ∃ ad, p = some ad ∧ ad.block < w.heap.size ∧ ∀ j v, (vbytes l)[j]? = some v → w.cell? (ad.add j) = some v := by
  rcases h with ⟨h1, rfl⟩ | ⟨b, cap, h1, _, h3, hr⟩
  · simp at h0
  · cases h1
    refine ⟨⟨b, 0, none⟩, rfl, ?_, fun j v hj => ?_⟩
    · obtain ⟨arr, lo, hi, e, _⟩ := hr
      exact (Array.getElem?_eq_some_iff.1 e).1
    · have ha : (⟨b, 0, none⟩ : Addr).add j = ⟨b, j, none⟩ := by unfold Addr.add; split <;> simp_all
      rw [ha]
      unfold vbytes at hj
      rw [List.getElem?_map] at hj
      obtain ⟨x, hx, rfl⟩ := Option.map_eq_some_iff.1 hj
      exact hr.cell hx
theorem groupsP_len {t : Bool} {l a : List UInt8} (h : groupsP t l = some a) : a.length ≤ 4 * (l.length + 1) := by
  unfold groupsP at h
  split at h
  · cases h; simp
  · have h1 := accG_len h
    have h2 := (splitG_len 58 l []).2
    unfold splitL at h1
    omega
set_option maxHeartbeats 1000000 in
set_option maxRecDepth 100000 in
theorem dbl_nn (s : ByteArray) (w : World) (q : Nat) (hn : s.size ≤ 100000) (hf : fourP (splitL 46 s.data.toList) = none) (hq : q + 1 < s.size) (hno : ∀ j, j < q → ccAt s.data.toList j = false) (hyes : ccAt s.data.toList q = true) (hA : groupsP false (s.data.toList.take q) = none) (hB : groupsP true (s.data.toList.drop (q + 2)) = none) :
    Calls Tryz.prog 16 #[.string s] w (FourR w none) := by
  have HF := Lib.hid hf
  have HC := Lib.hid hno
  obtain ⟨y1, y2⟩ := cc_yes hq hyes
  have hga : ∀ W, Calls Tryz.prog 27 #[.string (s.extract 0 q), .bool false] W (GroupsR W (groupsP false (s.data.toList.take q))) := fun W => by
    have := groups_any false (s.extract 0 q) W (by rw [ByteArray.size_extract]; omega)
    rwa [ext_take] at this
  have hgb : ∀ W, Calls Tryz.prog 27 #[.string (s.extract (q + 2) s.size), .bool true] W (GroupsR W (groupsP true (s.data.toList.drop (q + 2)))) := fun W => by
    have := groups_any true (s.extract (q + 2) s.size) W (by rw [ByteArray.size_extract]; omega)
    rwa [ext_from] at this
  have HRA := Lib.hid hA
  have HRB := Lib.hid hB
  have HGA := Lib.hid hga
  have HGB := Lib.hid hgb
  clear hga hgb hf hno hyes
  go_enter Tryz.func16, Tryz.ntmps16
  go_wp2_with (go_at_call 26; refine (four_any s _ (by omega)).mono ?_; rw [HF.out]; rintro e w3 ⟨rfl, hb3⟩; simp only [Option.getD_none, Option.isSome_none])
  have HB := Lib.hid hb3
  clear hb3
  go_loopw [6] (fun i wr => ∃ k : Nat, k ≤ q ∧ i = .int .i64 k ∧ wr = w3) (fun i _ => s.size - (intOf i).toNat)
  case atStart => exact ⟨0, Nat.zero_le _, rfl, rfl⟩
  case round =>
    obtain ⟨k, hk, rfl, rfl⟩ := hrel
    have hlt : k + 1 < s.size := by omega
    by_cases hkq : k < q
    · rcases cc_bytes hlt (HC.out k hkq) with e1 | ⟨e1, e2⟩
      · clear y1 y2
        go_wp2
        go_roundw
        case rel => exact ⟨k + 1, by omega, by go_num, trivial⟩
        case measure => simp [intOf]; omega
      · clear y1 y2
        go_wp2
        go_roundw
        case rel => exact ⟨k + 1, by omega, by go_num, trivial⟩
        case measure => simp [intOf]; omega
    · obtain rfl : k = q := by omega
      go_wp2_with (go_at_call 27; first | (with_reducible refine (HGA.out _).mono ?_; intro e w4 h4; obtain ⟨rfl, hb4⟩ := groupsR_none HRA.out h4; clear h4) | (with_reducible refine (HGB.out _).mono ?_; intro e w5 h5; obtain ⟨rfl, hb5⟩ := groupsR_none HRB.out h5; clear h5))
      go_ret2
      exact ⟨rfl, (HB.out.trans (hb4.mono HB.out.size)).trans (hb5.mono (Nat.le_trans HB.out.size hb4.size))⟩
set_option maxHeartbeats 1000000 in
set_option maxRecDepth 100000 in
theorem dbl_ns (s : ByteArray) (w : World) (q : Nat) (hn : s.size ≤ 100000) (hf : fourP (splitL 46 s.data.toList) = none) (hq : q + 1 < s.size) (hno : ∀ j, j < q → ccAt s.data.toList j = false) (hyes : ccAt s.data.toList q = true) (b : List UInt8) (hA : groupsP false (s.data.toList.take q) = none) (hB : groupsP true (s.data.toList.drop (q + 2)) = some b) :
    Calls Tryz.prog 16 #[.string s] w (FourR w none) := by
  have HF := Lib.hid hf
  have HC := Lib.hid hno
  obtain ⟨y1, y2⟩ := cc_yes hq hyes
  have hga : ∀ W, Calls Tryz.prog 27 #[.string (s.extract 0 q), .bool false] W (GroupsR W (groupsP false (s.data.toList.take q))) := fun W => by
    have := groups_any false (s.extract 0 q) W (by rw [ByteArray.size_extract]; omega)
    rwa [ext_take] at this
  have hgb : ∀ W, Calls Tryz.prog 27 #[.string (s.extract (q + 2) s.size), .bool true] W (GroupsR W (groupsP true (s.data.toList.drop (q + 2)))) := fun W => by
    have := groups_any true (s.extract (q + 2) s.size) W (by rw [ByteArray.size_extract]; omega)
    rwa [ext_from] at this
  have HRA := Lib.hid hA
  have HRB := Lib.hid hB
  have HGA := Lib.hid hga
  have HGB := Lib.hid hgb
  clear hga hgb hf hno hyes
  go_enter Tryz.func16, Tryz.ntmps16
  go_wp2_with (go_at_call 26; refine (four_any s _ (by omega)).mono ?_; rw [HF.out]; rintro e w3 ⟨rfl, hb3⟩; simp only [Option.getD_none, Option.isSome_none])
  have HB := Lib.hid hb3
  clear hb3
  go_loopw [6] (fun i wr => ∃ k : Nat, k ≤ q ∧ i = .int .i64 k ∧ wr = w3) (fun i _ => s.size - (intOf i).toNat)
  case atStart => exact ⟨0, Nat.zero_le _, rfl, rfl⟩
  case round =>
    obtain ⟨k, hk, rfl, rfl⟩ := hrel
    have hlt : k + 1 < s.size := by omega
    by_cases hkq : k < q
    · rcases cc_bytes hlt (HC.out k hkq) with e1 | ⟨e1, e2⟩
      · clear y1 y2
        go_wp2
        go_roundw
        case rel => exact ⟨k + 1, by omega, by go_num, trivial⟩
        case measure => simp [intOf]; omega
      · clear y1 y2
        go_wp2
        go_roundw
        case rel => exact ⟨k + 1, by omega, by go_num, trivial⟩
        case measure => simp [intOf]; omega
    · obtain rfl : k = q := by omega
      go_wp2_with (go_at_call 27; first | (with_reducible refine (HGA.out _).mono ?_; intro e w4 h4; obtain ⟨rfl, hb4⟩ := groupsR_none HRA.out h4; clear h4) | (with_reducible refine (HGB.out _).mono ?_; intro e w5 h5; obtain ⟨v5, rfl, hr5, hb5⟩ := groupsR_some HRB.out h5; clear h5; obtain ⟨p5, c5, rfl, hc5, hm5⟩ := hr5.shape; have HR5 := Lib.hid hr5; clear hr5))
      go_ret2
      exact ⟨rfl, (HB.out.trans (hb4.mono HB.out.size)).trans (hb5.mono (Nat.le_trans HB.out.size hb4.size))⟩
set_option maxHeartbeats 1000000 in
set_option maxRecDepth 100000 in
theorem dbl_sn (s : ByteArray) (w : World) (q : Nat) (hn : s.size ≤ 100000) (hf : fourP (splitL 46 s.data.toList) = none) (hq : q + 1 < s.size) (hno : ∀ j, j < q → ccAt s.data.toList j = false) (hyes : ccAt s.data.toList q = true) (a : List UInt8) (hA : groupsP false (s.data.toList.take q) = some a) (hB : groupsP true (s.data.toList.drop (q + 2)) = none) :
    Calls Tryz.prog 16 #[.string s] w (FourR w none) := by
  have HF := Lib.hid hf
  have HC := Lib.hid hno
  obtain ⟨y1, y2⟩ := cc_yes hq hyes
  have hga : ∀ W, Calls Tryz.prog 27 #[.string (s.extract 0 q), .bool false] W (GroupsR W (groupsP false (s.data.toList.take q))) := fun W => by
    have := groups_any false (s.extract 0 q) W (by rw [ByteArray.size_extract]; omega)
    rwa [ext_take] at this
  have hgb : ∀ W, Calls Tryz.prog 27 #[.string (s.extract (q + 2) s.size), .bool true] W (GroupsR W (groupsP true (s.data.toList.drop (q + 2)))) := fun W => by
    have := groups_any true (s.extract (q + 2) s.size) W (by rw [ByteArray.size_extract]; omega)
    rwa [ext_from] at this
  have HRA := Lib.hid hA
  have HRB := Lib.hid hB
  have HGA := Lib.hid hga
  have HGB := Lib.hid hgb
  clear hga hgb hf hno hyes
  go_enter Tryz.func16, Tryz.ntmps16
  go_wp2_with (go_at_call 26; refine (four_any s _ (by omega)).mono ?_; rw [HF.out]; rintro e w3 ⟨rfl, hb3⟩; simp only [Option.getD_none, Option.isSome_none])
  have HB := Lib.hid hb3
  clear hb3
  go_loopw [6] (fun i wr => ∃ k : Nat, k ≤ q ∧ i = .int .i64 k ∧ wr = w3) (fun i _ => s.size - (intOf i).toNat)
  case atStart => exact ⟨0, Nat.zero_le _, rfl, rfl⟩
  case round =>
    obtain ⟨k, hk, rfl, rfl⟩ := hrel
    have hlt : k + 1 < s.size := by omega
    by_cases hkq : k < q
    · rcases cc_bytes hlt (HC.out k hkq) with e1 | ⟨e1, e2⟩
      · clear y1 y2
        go_wp2
        go_roundw
        case rel => exact ⟨k + 1, by omega, by go_num, trivial⟩
        case measure => simp [intOf]; omega
      · clear y1 y2
        go_wp2
        go_roundw
        case rel => exact ⟨k + 1, by omega, by go_num, trivial⟩
        case measure => simp [intOf]; omega
    · obtain rfl : k = q := by omega
      go_wp2_with (go_at_call 27; first | (with_reducible refine (HGA.out _).mono ?_; intro e w4 h4; obtain ⟨v4, rfl, hr4, hb4⟩ := groupsR_some HRA.out h4; clear h4; obtain ⟨p4, c4, rfl, hc4, hm4⟩ := hr4.shape; have HR4 := Lib.hid hr4; clear hr4) | (with_reducible refine (HGB.out _).mono ?_; intro e w5 h5; obtain ⟨rfl, hb5⟩ := groupsR_none HRB.out h5; clear h5))
      go_ret2
      exact ⟨rfl, (HB.out.trans (hb4.mono HB.out.size)).trans (hb5.mono (Nat.le_trans HB.out.size hb4.size))⟩
set_option maxHeartbeats 1000000 in
set_option maxRecDepth 100000 in
theorem dbl_long (s : ByteArray) (w : World) (q : Nat) (hn : s.size ≤ 100000) (hf : fourP (splitL 46 s.data.toList) = none) (hq : q + 1 < s.size) (hno : ∀ j, j < q → ccAt s.data.toList j = false) (hyes : ccAt s.data.toList q = true) (a b : List UInt8) (hA : groupsP false (s.data.toList.take q) = some a) (hB : groupsP true (s.data.toList.drop (q + 2)) = some b) (h14 : 14 < a.length + b.length) :
    Calls Tryz.prog 16 #[.string s] w (FourR w none) := by
  have HF := Lib.hid hf
  have HC := Lib.hid hno
  obtain ⟨y1, y2⟩ := cc_yes hq hyes
  have hga : ∀ W, Calls Tryz.prog 27 #[.string (s.extract 0 q), .bool false] W (GroupsR W (groupsP false (s.data.toList.take q))) := fun W => by
    have := groups_any false (s.extract 0 q) W (by rw [ByteArray.size_extract]; omega)
    rwa [ext_take] at this
  have hgb : ∀ W, Calls Tryz.prog 27 #[.string (s.extract (q + 2) s.size), .bool true] W (GroupsR W (groupsP true (s.data.toList.drop (q + 2)))) := fun W => by
    have := groups_any true (s.extract (q + 2) s.size) W (by rw [ByteArray.size_extract]; omega)
    rwa [ext_from] at this
  have HRA := Lib.hid hA
  have HRB := Lib.hid hB
  have hla : a.length ≤ 1000000 := by have := groupsP_len hA; have h2 : s.data.toList.length = s.size := rfl; rw [List.length_take] at this; omega
  have hlb : b.length ≤ 1000000 := by have := groupsP_len hB; have h2 : s.data.toList.length = s.size := rfl; rw [List.length_drop] at this; omega
  have hi14 : (14 : Int) < (a.length : Int) + (b.length : Int) := by omega
  have HGA := Lib.hid hga
  have HGB := Lib.hid hgb
  clear hga hgb hf hno hyes
  go_enter Tryz.func16, Tryz.ntmps16
  go_wp2_with (go_at_call 26; refine (four_any s _ (by omega)).mono ?_; rw [HF.out]; rintro e w3 ⟨rfl, hb3⟩; simp only [Option.getD_none, Option.isSome_none])
  have HB := Lib.hid hb3
  clear hb3
  go_loopw [6] (fun i wr => ∃ k : Nat, k ≤ q ∧ i = .int .i64 k ∧ wr = w3) (fun i _ => s.size - (intOf i).toNat)
  case atStart => exact ⟨0, Nat.zero_le _, rfl, rfl⟩
  case round =>
    obtain ⟨k, hk, rfl, rfl⟩ := hrel
    have hlt : k + 1 < s.size := by omega
    by_cases hkq : k < q
    · rcases cc_bytes hlt (HC.out k hkq) with e1 | ⟨e1, e2⟩
      · clear y1 y2
        go_wp2
        go_roundw
        case rel => exact ⟨k + 1, by omega, by go_num, trivial⟩
        case measure => simp [intOf]; omega
      · clear y1 y2
        go_wp2
        go_roundw
        case rel => exact ⟨k + 1, by omega, by go_num, trivial⟩
        case measure => simp [intOf]; omega
    · obtain rfl : k = q := by omega
      go_wp2_with (go_at_call 27; first | (with_reducible refine (HGA.out _).mono ?_; intro e w4 h4; obtain ⟨v4, rfl, hr4, hb4⟩ := groupsR_some HRA.out h4; clear h4; obtain ⟨p4, c4, rfl, hc4, hm4⟩ := hr4.shape; have HR4 := Lib.hid hr4; clear hr4) | (with_reducible refine (HGB.out _).mono ?_; intro e w5 h5; obtain ⟨v5, rfl, hr5, hb5⟩ := groupsR_some HRB.out h5; clear h5; obtain ⟨p5, c5, rfl, hc5, hm5⟩ := hr5.shape; have HR5 := Lib.hid hr5; clear hr5))
      go_ret2
      exact ⟨rfl, (HB.out.trans (hb4.mono HB.out.size)).trans (hb5.mono (Nat.le_trans HB.out.size hb4.size))⟩
end Go.Proofs.YtfmnemcnonbkfaaGreatDoor

namespace Go.Proofs.YtfmnemcnonbkfaaGreatDoor
open Go.RowKit Go.Lib Go.Tx Go.Rb Go.Ev
def zer : List Value := List.replicate 16 (.int .u8 0)
theorem make16 (w : World) : (Instr.makeSlice 22 (.int .i64 16) (.int .i64 16)).run Tryz.prog w = .ok (.slice (some ⟨w.heap.size, 0, none⟩) 16 16) (w.alloc (.cells zer.toArray 5)) := by
  obtain ⟨i0, hi, hz0, hz1, hz2⟩ := info_parts info5
  have hr := run_make (P := Tryz.prog) w 22 5 i0 _ Tryz.underlying22 hi hz0 .i64 .i64 16 16 (by omega) (Int.le_refl _) (by rw [hz2]; omega) (by omega)
  rw [hz1] at hr
  have e : madeCells (Value.int .u8 0).cells (Int.toNat 16 * 1) = zer.toArray := by
    apply Array.ext
    · rw [size_madeCells]; rfl
    · intro i h1 h2
      rw [size_madeCells] at h1
      have e0 : zer.toArray[i] = Value.int .u8 0 := by simp only [zer, List.getElem_toArray, List.getElem_replicate]
      rw [e0]
      simp [madeCells, Value.cells, Nat.mod_one]
  rw [e] at hr
  exact hr
theorem size8 : (Tryz.prog.info? 5).map (·.size) = some 1 := by kernel_rfl
theorem vb_one (l : List UInt8) : ∀ v ∈ vbytes l, v.oneCell' = true := fun v hv => by
  unfold vbytes at hv
  obtain ⟨c, _, rfl⟩ := List.mem_map.1 hv
  rfl
theorem vb_len (l : List UInt8) : (vbytes l).length = l.length := by simp [vbytes]
theorem zer_len : zer.length = 16 := rfl
theorem vb_append (x y : List UInt8) : vbytes (x ++ y) = vbytes x ++ vbytes y := by simp [vbytes]
theorem vb_zero (n : Nat) : vbytes (List.replicate n 0) = List.replicate n (.int .u8 0) := by
  unfold vbytes
  rw [List.map_replicate]
  rfl
theorem splice16 (a b : List UInt8) (h : a.length + b.length ≤ 16) : splice (splice zer 0 (vbytes a)) (16 - b.length) (vbytes b) = vbytes (a ++ List.replicate (16 - a.length - b.length) 0 ++ b) := by
  have e1 : splice zer 0 (vbytes a) = vbytes (a ++ List.replicate (16 - a.length) 0) := by
    unfold splice zer
    rw [List.take_zero, List.nil_append, Nat.zero_add, vb_len, List.drop_replicate, vb_append, vb_zero]
  have e2 : a ++ List.replicate (16 - a.length) 0 = (a ++ List.replicate (16 - a.length - b.length) 0) ++ List.replicate b.length 0 := by
    rw [List.append_assoc, List.replicate_append_replicate]
    congr 2
    omega
  have e3 : (vbytes (a ++ List.replicate (16 - a.length - b.length) (0 : UInt8))).length = 16 - b.length := by rw [vb_len]; simp; omega
  rw [e1, e2]
  unfold splice
  rw [vb_append (a ++ _) (List.replicate b.length 0), List.take_left' e3, vb_append (a ++ _) b]
  congr 1
  rw [List.drop_of_length_le (by rw [List.length_append, e3, vb_len, vb_len]; simp), List.append_nil]
theorem conv16 (w : World) (g : Nat) (L : List UInt8) (hL : L.length = 16) (h : w.heap[g]? = some (.cells (vbytes L).toArray 5 (0, 0))) : (convert 22 9 (.slice (some ⟨g, 0, none⟩) 16 16)).run Tryz.prog w = .ok (.string ⟨L.toArray⟩) w := by
  have hc := run_convert_bytes_back (P := Tryz.prog) w 22 9 5 ⟨g, 0, none⟩ 16 L Tryz.underlying22 Tryz.underlying5 Tryz.underlying9 (fun j hj => by
    have ha : (⟨g, 0, none⟩ : Addr).add j = ⟨g, j, none⟩ := by unfold Addr.add; split <;> simp_all
    rw [ha]
    unfold World.cell?
    rw [h]
    simp [vbytes, hj])
  rw [hL] at hc
  exact hc
set_option maxHeartbeats 1000000 in
set_option maxRecDepth 100000 in
theorem dbl_full (s : ByteArray) (w : World) (q : Nat) (hn : s.size ≤ 100000) (hf : fourP (splitL 46 s.data.toList) = none) (hq : q + 1 < s.size) (hno : ∀ j, j < q → ccAt s.data.toList j = false) (hyes : ccAt s.data.toList q = true) (a b : List UInt8) (hA : groupsP false (s.data.toList.take q) = some a) (hB : groupsP true (s.data.toList.drop (q + 2)) = some b) (h14 : a.length + b.length ≤ 14) (hb0 : 0 < b.length) :
    Calls Tryz.prog 16 #[.string s] w (FourR w (some (a ++ List.replicate (16 - a.length - b.length) 0 ++ b))) := by
  have HF := Lib.hid hf
  have HC := Lib.hid hno
  obtain ⟨y1, y2⟩ := cc_yes hq hyes
  have hga : ∀ W, Calls Tryz.prog 27 #[.string (s.extract 0 q), .bool false] W (GroupsR W (groupsP false (s.data.toList.take q))) := fun W => by
    have := groups_any false (s.extract 0 q) W (by rw [ByteArray.size_extract]; omega)
    rwa [ext_take] at this
  have hgb : ∀ W, Calls Tryz.prog 27 #[.string (s.extract (q + 2) s.size), .bool true] W (GroupsR W (groupsP true (s.data.toList.drop (q + 2)))) := fun W => by
    have := groups_any true (s.extract (q + 2) s.size) W (by rw [ByteArray.size_extract]; omega)
    rwa [ext_from] at this
  have HRA := Lib.hid hA
  have HRB := Lib.hid hB
  have hla : a.length ≤ 14 := by omega
  have hlb : b.length ≤ 14 := by omega
  have hi14 : (a.length : Int) + (b.length : Int) ≤ 14 := by omega
  obtain ⟨z, hz⟩ : ∃ z, 16 - b.length = z := ⟨_, rfl⟩
  have hz2 : (16 : Int) - (b.length : Int) = (z : Int) := by omega
  have hz3 : z < 16 := by omega
  have hz4 : (z : Int) < 16 := by omega
  have hz5 : ¬ z = 16 := by omega
  have HZ := Lib.hid hz
  have hmk := make16
  obtain ⟨R, hR⟩ : ∃ R : ByteArray, ⟨(a ++ List.replicate (16 - a.length - b.length) 0 ++ b).toArray⟩ = R := ⟨_, rfl⟩
  have HCV : Hid (∀ (w : World) (g : Nat), w.heap[g]? = some (.cells (splice (splice zer 0 (vbytes a)) z (vbytes b)).toArray 5 (0, 0)) → (convert 22 9 (.slice (some ⟨g, 0, none⟩) 16 16)).run Tryz.prog w = .ok (.string R) w) := Lib.hid (fun w g h => by
    rw [← HZ.out, splice16 a b (by omega)] at h
    have := conv16 w g _ (by simp; omega) h
    rw [hR] at this
    exact this)
  have hRes : FourR w (some (a ++ List.replicate (16 - a.length - b.length) 0 ++ b)) = fun e w' => e = .returned (.tuple #[.string R, .bool true]) ∧ Below w.heap.size w w' := by
    funext e w'
    unfold FourR
    rw [← hR]
    rfl
  rw [hRes]
  clear hRes hR
  clear hz
  have HGA := Lib.hid hga
  have HGB := Lib.hid hgb
  clear hga hgb hf hno hyes
  go_enter Tryz.func16, Tryz.ntmps16
  go_wp2_with (go_at_call 26; refine (four_any s _ (by omega)).mono ?_; rw [HF.out]; rintro e w3 ⟨rfl, hb3⟩; simp only [Option.getD_none, Option.isSome_none])
  have HB := Lib.hid hb3
  clear hb3
  go_loopw [6] (fun i wr => ∃ k : Nat, k ≤ q ∧ i = .int .i64 k ∧ wr = w3) (fun i _ => s.size - (intOf i).toNat)
  case atStart => exact ⟨0, Nat.zero_le _, rfl, rfl⟩
  case round =>
    obtain ⟨k, hk, rfl, rfl⟩ := hrel
    have hlt : k + 1 < s.size := by omega
    by_cases hkq : k < q
    · rcases cc_bytes hlt (HC.out k hkq) with e1 | ⟨e1, e2⟩
      · clear y1 y2
        go_wp2
        go_roundw
        case rel => exact ⟨k + 1, by omega, by go_num, trivial⟩
        case measure => simp [intOf]; omega
      · clear y1 y2
        go_wp2
        go_roundw
        case rel => exact ⟨k + 1, by omega, by go_num, trivial⟩
        case measure => simp [intOf]; omega
    · obtain rfl : k = q := by omega
      go_wp2_with (first | (go_at_call 27; first | (with_reducible refine (HGA.out _).mono ?_; intro e w4 h4; obtain ⟨v4, rfl, hr4, hb4⟩ := groupsR_some HRA.out h4; clear h4; obtain ⟨p4, c4, rfl, hc4, hm4⟩ := hr4.shape; have HR4 := Lib.hid hr4; clear hr4) | (with_reducible refine (HGB.out _).mono ?_; intro e w5 h5; obtain ⟨v5, rfl, hr5, hb5⟩ := groupsR_some HRB.out h5; clear h5; obtain ⟨p5, c5, rfl, hc5, hm5⟩ := hr5.shape; have HR5 := Lib.hid hr5; clear hr5)) | (with_reducible show wpList _ _ _ (⟨some 70, _, _, _, _, _⟩ :: _) _ _; refine wpList_copy_splice rfl _ _ 22 22 rfl 5 Tryz.underlying22 size8 _ _ 16 16 a.length c4 rfl rfl w5.heap.size 0 zer 5 (heap_alloc_new _ _) (vbytes a) (by rw [vb_len]; show a.length = min a.length 16; omega) (fun h0 => ⟨rfl, by obtain ⟨ad, h1, _, h2⟩ := RB.cells ((HR4.out.below hb5).alloc _) (by rw [vb_len] at h0; exact h0); exact ⟨ad, h1, h2⟩⟩) (by rw [vb_len, zer_len]; omega) (vb_one a) w5.heap.size w5 ((Below.refl _ _).alloc (Nat.le_refl _) _) (Nat.le_refl _) ?_; intro w6 hg6 hb6) | (with_reducible show wpList _ _ _ (⟨some 77, _, _, _, _, _⟩ :: _) _ _; refine wpList_copy_splice rfl _ _ 22 22 rfl 5 Tryz.underlying22 size8 _ _ (16 - z) (16 - z) b.length c5 rfl rfl w5.heap.size z (splice zer 0 (vbytes a)) 5 hg6.out (vbytes b) (by rw [vb_len]; show b.length = min b.length (16 - z); have := HZ.out; omega) (fun h0 => ⟨rfl, by obtain ⟨ad, h1, _, h2⟩ := RB.cells (HR5.out.below hb6) (by rw [vb_len] at h0; exact h0); exact ⟨ad, h1, h2⟩⟩) (by rw [vb_len, length_splice _ _ _ (by rw [vb_len, zer_len]; omega), zer_len]; have := HZ.out; omega) (vb_one b) w5.heap.size w5 hb6 (Nat.le_refl _) ?_; intro w7 hg7 hb7; have hcv := HCV.out w7 w5.heap.size hg7.out))
      go_ret2
      have hb45 := (HB.out.trans (hb4.mono HB.out.size)).trans (hb5.mono (Nat.le_trans HB.out.size hb4.size))
      exact ⟨rfl, hb45.trans (hb7.mono hb45.size)⟩
set_option maxHeartbeats 1000000 in
set_option maxRecDepth 100000 in
theorem dbl_full0 (s : ByteArray) (w : World) (q : Nat) (hn : s.size ≤ 100000) (hf : fourP (splitL 46 s.data.toList) = none) (hq : q + 1 < s.size) (hno : ∀ j, j < q → ccAt s.data.toList j = false) (hyes : ccAt s.data.toList q = true) (a : List UInt8) (hA : groupsP false (s.data.toList.take q) = some a) (hB : groupsP true (s.data.toList.drop (q + 2)) = some []) (h14 : a.length ≤ 14) :
    Calls Tryz.prog 16 #[.string s] w (FourR w (some (a ++ List.replicate (16 - a.length - 0) 0 ++ []))) := by
  have HF := Lib.hid hf
  have HC := Lib.hid hno
  obtain ⟨y1, y2⟩ := cc_yes hq hyes
  have hga : ∀ W, Calls Tryz.prog 27 #[.string (s.extract 0 q), .bool false] W (GroupsR W (groupsP false (s.data.toList.take q))) := fun W => by
    have := groups_any false (s.extract 0 q) W (by rw [ByteArray.size_extract]; omega)
    rwa [ext_take] at this
  have hgb : ∀ W, Calls Tryz.prog 27 #[.string (s.extract (q + 2) s.size), .bool true] W (GroupsR W (groupsP true (s.data.toList.drop (q + 2)))) := fun W => by
    have := groups_any true (s.extract (q + 2) s.size) W (by rw [ByteArray.size_extract]; omega)
    rwa [ext_from] at this
  have HRA := Lib.hid hA
  have HRB := Lib.hid hB
  have hla : a.length ≤ 14 := h14
  have hi14 : (a.length : Int) ≤ 14 := by omega
  have hmk := make16
  obtain ⟨R, hR⟩ : ∃ R : ByteArray, ⟨(a ++ List.replicate (16 - a.length - 0) 0 ++ []).toArray⟩ = R := ⟨_, rfl⟩
  have HCV : Hid (∀ (w : World) (g : Nat), w.heap[g]? = some (.cells (splice (splice zer 0 (vbytes a)) 0 []).toArray 5 (0, 0)) → (convert 22 9 (.slice (some ⟨g, 0, none⟩) 16 16)).run Tryz.prog w = .ok (.string R) w) := Lib.hid (fun w g h => by
    have e : splice (splice zer 0 (vbytes a)) 0 [] = vbytes (a ++ List.replicate (16 - a.length - 0) 0 ++ []) := by
      have h1 := splice16 a [] (by simp; omega)
      have h2 : splice (splice zer 0 (vbytes a)) (16 - ([] : List UInt8).length) (vbytes []) = splice zer 0 (vbytes a) := by
        have hl : (splice zer 0 (vbytes a)).length = 16 := by rw [length_splice _ _ _ (by rw [vb_len, zer_len]; omega), zer_len]
        unfold splice at hl ⊢
        simp only [vbytes, List.map_nil, List.length_nil, List.nil_append, Nat.sub_zero, Nat.add_zero] at hl ⊢
        exact List.take_append_drop _ _
      rw [h2] at h1
      rw [← List.length_nil (α := UInt8), ← h1]
      simp [splice]
    rw [e] at h
    have := conv16 w g _ (by simp; omega) h
    rw [hR] at this
    exact this)
  have hRes : FourR w (some (a ++ List.replicate (16 - a.length - 0) 0 ++ [])) = fun e w' => e = .returned (.tuple #[.string R, .bool true]) ∧ Below w.heap.size w w' := by
    funext e w'
    unfold FourR
    rw [← hR]
    rfl
  rw [hRes]
  clear hRes hR
  have HGA := Lib.hid hga
  have HGB := Lib.hid hgb
  clear hga hgb hf hno hyes
  go_enter Tryz.func16, Tryz.ntmps16
  go_wp2_with (go_at_call 26; refine (four_any s _ (by omega)).mono ?_; rw [HF.out]; rintro e w3 ⟨rfl, hb3⟩; simp only [Option.getD_none, Option.isSome_none])
  have HB := Lib.hid hb3
  clear hb3
  go_loopw [6] (fun i wr => ∃ k : Nat, k ≤ q ∧ i = .int .i64 k ∧ wr = w3) (fun i _ => s.size - (intOf i).toNat)
  case atStart => exact ⟨0, Nat.zero_le _, rfl, rfl⟩
  case round =>
    obtain ⟨k, hk, rfl, rfl⟩ := hrel
    have hlt : k + 1 < s.size := by omega
    by_cases hkq : k < q
    · rcases cc_bytes hlt (HC.out k hkq) with e1 | ⟨e1, e2⟩
      · clear y1 y2
        go_wp2
        go_roundw
        case rel => exact ⟨k + 1, by omega, by go_num, trivial⟩
        case measure => simp [intOf]; omega
      · clear y1 y2
        go_wp2
        go_roundw
        case rel => exact ⟨k + 1, by omega, by go_num, trivial⟩
        case measure => simp [intOf]; omega
    · obtain rfl : k = q := by omega
      go_wp2_with (first | (go_at_call 27; first | (with_reducible refine (HGA.out _).mono ?_; intro e w4 h4; obtain ⟨v4, rfl, hr4, hb4⟩ := groupsR_some HRA.out h4; clear h4; obtain ⟨p4, c4, rfl, hc4, hm4⟩ := hr4.shape; have HR4 := Lib.hid hr4; clear hr4) | (with_reducible refine (HGB.out _).mono ?_; intro e w5 h5; obtain ⟨v5, rfl, hr5, hb5⟩ := groupsR_some HRB.out h5; clear h5; obtain ⟨p5, c5, rfl, hc5, hm5⟩ := hr5.shape; have HR5 := Lib.hid hr5; clear hr5)) | (with_reducible show wpList _ _ _ (⟨some 70, _, _, _, _, _⟩ :: _) _ _; refine wpList_copy_splice rfl _ _ 22 22 rfl 5 Tryz.underlying22 size8 _ _ 16 16 a.length c4 rfl rfl w5.heap.size 0 zer 5 (heap_alloc_new _ _) (vbytes a) (by rw [vb_len]; show a.length = min a.length 16; omega) (fun h0 => ⟨rfl, by obtain ⟨ad, h1, _, h2⟩ := RB.cells ((HR4.out.below hb5).alloc _) (by rw [vb_len] at h0; exact h0); exact ⟨ad, h1, h2⟩⟩) (by rw [vb_len, zer_len]; omega) (vb_one a) w5.heap.size w5 ((Below.refl _ _).alloc (Nat.le_refl _) _) (Nat.le_refl _) ?_; intro w6 hg6 hb6) | (with_reducible show wpList _ _ _ (⟨some 77, _, _, _, _, _⟩ :: _) _ _; refine wpList_copy_splice rfl _ _ 22 22 rfl 5 Tryz.underlying22 size8 _ _ _ _ _ _ rfl rfl w5.heap.size 0 (splice zer 0 (vbytes a)) 5 hg6.out [] rfl (fun h0 => absurd h0 (by simp)) (by simp) (by simp) w5.heap.size w5 hb6 (Nat.le_refl _) ?_; intro w7 hg7 hb7; have hcv := HCV.out w7 w5.heap.size hg7.out))
      go_ret2
      have hb45 := (HB.out.trans (hb4.mono HB.out.size)).trans (hb5.mono (Nat.le_trans HB.out.size hb4.size))
      exact ⟨rfl, hb45.trans (hb7.mono hb45.size)⟩
end Go.Proofs.YtfmnemcnonbkfaaGreatDoor

namespace Go.Proofs.YtfmnemcnonbkfaaGreatDoor
open Go.RowKit Go.Lib Go.Tx Go.Rb Go.Ev
theorem rparse_any (s : ByteArray) (w : World) (hn : s.size ≤ 100000) : Calls Tryz.prog 16 #[.string s] w (FourR w (parseP s.data.toList)) := by
  have hl : s.data.toList.length = s.size := rfl
  cases hf : fourP (splitL 46 s.data.toList) with
  | some f => exact parse_four s f w hn hf
  | none =>
    cases hc : (List.range s.data.toList.length).find? (ccAt s.data.toList) with
    | none =>
      have hcc : ∀ j, j + 1 < s.size → ccAt s.data.toList j = false := fun j hj => by
        have := List.find?_eq_none.1 hc j (List.mem_range.2 (by omega))
        simpa using this
      have e : parseP s.data.toList = plainP s.data.toList := by unfold parseP plainP fullP; rw [hf, hc]; cases groupsP true s.data.toList <;> rfl
      rw [e]
      exact parse_plain s w hn hf hcc
    | some q =>
      have e : parseP s.data.toList = dblP s.data.toList q := by unfold parseP; rw [hf, hc]
      rw [e]
      obtain ⟨h1, _, h3⟩ := List.find?_range_eq_some.1 hc
      have hno : ∀ j, j < q → ccAt s.data.toList j = false := fun j hj => by simpa using h3 j hj
      have hq : q + 1 < s.size := by
        unfold ccAt at h1
        simp only [Bool.and_eq_true, decide_eq_true_eq] at h1
        have := (List.getElem?_eq_some_iff.1 h1.2).1
        omega
      unfold dblP
      cases hA : groupsP false (s.data.toList.take q) with
      | none =>
        cases hB : groupsP true (s.data.toList.drop (q + 2)) with
        | none => exact dbl_nn s w q hn hf hq hno h1 hA hB
        | some b => exact dbl_ns s w q hn hf hq hno h1 b hA hB
      | some a =>
        cases hB : groupsP true (s.data.toList.drop (q + 2)) with
        | none => exact dbl_sn s w q hn hf hq hno h1 a hA hB
        | some b =>
          simp only
          by_cases h14 : 14 < a.length + b.length
          · rw [if_pos h14]
            exact dbl_long s w q hn hf hq hno h1 a b hA hB h14
          · rw [if_neg h14]
            by_cases hb : 0 < b.length
            · exact dbl_full s w q hn hf hq hno h1 a b hA hB (by omega) hb
            · have : b = [] := List.eq_nil_of_length_eq_zero (by omega)
              subst this
              exact dbl_full0 s w q hn hf hq hno h1 a hA hB (by simpa using h14)
end Go.Proofs.YtfmnemcnonbkfaaGreatDoor

namespace Go.Proofs.YtfmnemcnonbkfaaGreatDoor
open Go.RowKit Go.Lib Go.Tx
def alnum (x : Nat) : Bool := (decide (97 ≤ (x : Int)) && decide ((x : Int) ≤ 122)) || (decide (65 ≤ (x : Int)) && decide ((x : Int) ≤ 90)) || (decide (48 ≤ (x : Int)) && decide ((x : Int) ≤ 57))
def lettersB (more l : List UInt8) : Bool := l.all (fun b => alnum b.toNat || more.any fun m => b == m) && decide (l ≠ [])
theorem all_till {p : UInt8 → Bool} (l : List UInt8) (k : Nat) (hk : l.length ≤ k) (h : ∀ j b, j < k → l[j]? = some b → p b = true) : l.all p = true := by
  rw [List.all_eq_true]
  intro b hb
  obtain ⟨j, hj, rfl⟩ := List.getElem_of_mem hb
  exact h j _ (by omega) (List.getElem?_eq_getElem hj)
theorem all_not {p : UInt8 → Bool} (l : List UInt8) (k : Nat) (b : UInt8) (hk : l[k]? = some b) (h : p b = false) : l.all p = false := by
  rw [List.all_eq_false]
  exact ⟨b, List.mem_of_getElem? hk, by simp [h]⟩
theorem u8_beq (a b : UInt8) : ((a.toNat : Int) == (b.toNat : Int)) = (a == b) := by
  by_cases h : a = b
  · subst h; simp
  · have : ¬ (a.toNat : Int) = (b.toNat : Int) := fun e => h (UInt8.toNat_inj.1 (by omega))
    rw [beq_eq_false_iff_ne.2 this, beq_eq_false_iff_ne.2 h]
theorem ne_nil (s : ByteArray) : (!s.toList.isEmpty) = (true && decide (s.data.toList ≠ [])) := by
  rw [Go.Lib.toList_data]
  cases s.data.toList <;> simp
theorem ret_b {a b : Bool} (h : a = b) : Ending.returned (.bool a) = .returned (.bool b) := by rw [h]
set_option maxHeartbeats 2000000 in
set_option maxRecDepth 100000 in
theorem letters_any (s more : ByteArray) (w : World) (hs : s.size ≤ 1000000) (hm : more.size ≤ 100) : Calls Tryz.prog 29 #[.string s, .string more] w fun e w' => e = .returned (.bool (lettersB more.data.toList s.data.toList)) ∧ w' = w := by
  go_enter Tryz.func29, Tryz.ntmps29
  go_wp2
  go_loop [5] (fun i => ∃ k : Nat, k ≤ s.size ∧ i = .int .i64 k ∧ Hid (∀ j b, j < k → s.data.toList[j]? = some b → (alnum b.toNat || more.data.toList.any fun m => b == m) = true)) (fun i => s.size - (intOf i).toNat)
  case atStart => exact ⟨0, Nat.zero_le _, rfl, Lib.hid (by omega)⟩
  case round =>
    obtain ⟨k, hk, rfl, hall⟩ := hrel
    by_cases hlt : k < s.size
    · have HK : Hid (s.data.toList[k]? = some s[k]) := Lib.hid (List.getElem?_eq_getElem hlt)
      go_wp2
      all_goals (
        go_loop [7, 8] (fun ok i => ∃ j : Nat, j ≤ more.size ∧ i = .int .i64 j ∧ ok = .bool (alnum s[k].toNat || (more.data.toList.take j).any fun m => s[k] == m)) (fun _ i => more.size - (intOf i).toNat)
        case atStart => exact ⟨0, Nat.zero_le _, rfl, congrArg Value.bool (by unfold alnum; simp [*] <;> first | omega | (rw [Bool.eq_iff_iff]; simp; omega))⟩
        case round =>
          obtain ⟨j, hj, rfl, rfl⟩ := hrel
          by_cases hjl : j < more.size
          · have hstep : ∀ m, more.data.toList[j]? = some m → (more.data.toList.take (j + 1)).any (fun m => s[k] == m) = ((more.data.toList.take j).any (fun m => s[k] == m) || (s[k] == m)) := fun m hm => by
              rw [List.take_add_one, hm, List.any_append]; simp
            have HS := Lib.hid (hstep more[j] (List.getElem?_eq_getElem hjl))
            clear hstep
            cases hX : (alnum s[k].toNat || (more.data.toList.take j).any fun m => s[k] == m) with
            | true =>
              have HX := Lib.hid hX
              clear hX
              go_wp2
              go_round
              case rel => exact ⟨j + 1, hjl, by go_num, congrArg Value.bool (by rw [HS.out, ← Bool.or_assoc, HX.out]; rfl)⟩
              case measure => simp [intOf]; omega
            | false =>
              have HX := Lib.hid hX
              clear hX
              go_wp2
              go_round
              case rel => exact ⟨j + 1, hjl, by go_num, congrArg Value.bool (by rw [HS.out, ← Bool.or_assoc, HX.out, Bool.false_or]; exact u8_beq _ _)⟩
              case measure => simp [intOf]; omega
          · obtain rfl : j = more.size := by omega
            have ht : more.data.toList.take more.size = more.data.toList := List.take_of_length_le (Nat.le_refl _)
            have HT := Lib.hid ht
            clear ht
            cases hX : (alnum s[k].toNat || (more.data.toList.take more.size).any fun m => s[k] == m) with
            | true =>
              have HX := Lib.hid hX
              clear hX
              go_wp2
              go_round
              case rel => exact ⟨k + 1, hlt, by go_num, Lib.hid (by
                intro j d hj hd
                by_cases e : j = k
                · subst e
                  have := HK.out
                  rw [this] at hd
                  cases hd
                  have := HX.out
                  rw [HT.out] at this
                  exact this
                · exact hall.out j d (by omega) hd)⟩
              case measure => simp [intOf]; omega
            | false =>
              have HX := Lib.hid hX
              clear hX
              go_wp2
              go_ret
              have := HX.out
              rw [HT.out] at this
              exact ⟨by unfold lettersB; rw [all_not _ k _ HK.out this]; rfl, rfl⟩)
    · obtain rfl : k = s.size := by omega
      have HA := Lib.hid (all_till (p := fun b => alnum b.toNat || more.data.toList.any fun m => b == m) s.data.toList s.size (Nat.le_refl _) hall.out)
      go_wp2
      go_ret
      exact ⟨by unfold lettersB; rw [HA.out]; exact ret_b (ne_nil s), rfl⟩
end Go.Proofs.YtfmnemcnonbkfaaGreatDoor

namespace Go.Proofs.YtfmnemcnonbkfaaGreatDoor
open Go.RowKit Go.Lib Go.Tx Go.Rb
theorem lowTake_at' (s : ByteArray) (k : Nat) (h : k < s.size) : (lowTake k s.data.toList)[k]? = some s[k] := lowTake_at k s.data.toList h
theorem ret_str {a b : List UInt8} (h : a = b) : Ending.returned (.string ⟨a.toArray⟩) = .returned (.string ⟨b.toArray⟩) := by rw [h]
theorem row_up (s : ByteArray) {wr : World} {b cap k : Nat} {x : Int} (h : k < s.size) (h1 : 65 ≤ (s[k].toNat : Int)) (h2 : (s[k].toNat : Int) ≤ 90) (hx : x = (s[k].toNat : Int) + 32) (hr : RowB 5 wr b cap (lowTake k s.data.toList)) :
    RowB 5 (wr.setCell ⟨b, k, none⟩ (.int .u8 x)) b cap (lowTake (k + 1) s.data.toList) := by
  have e1 : lowTake (k + 1) s.data.toList = (lowTake k s.data.toList).set k (low s[k]) := lowTake_step k s.data.toList h
  rw [e1, hx, ← low_up _ h1 h2]
  exact hr.set (by rw [lowTake_len]; exact h) _
theorem row_skip (s : ByteArray) {wr : World} {b cap k : Nat} (h : k < s.size) (h1 : low s[k] = s[k]) (hr : RowB 5 wr b cap (lowTake k s.data.toList)) : RowB 5 wr b cap (lowTake (k + 1) s.data.toList) := by
  have e1 : lowTake (k + 1) s.data.toList = lowTake k s.data.toList := lowTake_skip k s.data.toList h h1
  rw [e1]; exact hr
theorem row_str (s : ByteArray) {wr : World} {b cap k : Nat} (h : s.size ≤ k) (hr : RowB 5 wr b cap (lowTake k s.data.toList)) (c : Nat) :
    (convert 22 9 (.slice (some ⟨b, 0, none⟩) s.size c)).run Tryz.prog wr = .ok (.string ⟨(s.data.toList.map low).toArray⟩) wr := by
  have := hr.str (P := Tryz.prog) (src := 22) (dst := 9) c Tryz.underlying22 Tryz.underlying5 Tryz.underlying9
  rw [lowTake_all k _ h] at this
  have hl : (s.data.toList.map low).length = s.size := by simp
  rw [hl] at this
  exact this
set_option maxHeartbeats 1000000 in
set_option maxRecDepth 100000 in
theorem fold_any (s : ByteArray) (w : World) (hs : s.size ≤ maxLen) :
    Calls Tryz.prog 42 #[.string s] w fun e w' => e = .returned (.string ⟨(s.data.toList.map low).toArray⟩) ∧ Below w.heap.size w w' := by
  unfold maxLen at hs
  obtain ⟨cap, o, hconv, hcap, hrow⟩ := RowB.made (P := Tryz.prog) s w Tryz.underlying9 Tryz.underlying22 Tryz.underlying5
  have HR := Lib.hid hrow
  clear hrow
  go_enter Tryz.func42, Tryz.ntmps42
  go_wp2
  go_loopw [10] (fun i wr => ∃ k : Nat, k ≤ s.size ∧ i = .int .i64 k ∧ RowB 5 wr w.heap.size cap (lowTake k s.data.toList) ∧ Below w.heap.size w wr) (fun i _ => s.size - (intOf i).toNat)
  case atStart => exact ⟨0, Nat.zero_le _, rfl, by rw [lowTake_zero]; exact HR.out.drew, ((Below.refl _ _).alloc (Nat.le_refl _) _).drew⟩
  case round =>
    obtain ⟨k, hk, rfl, hrow, hbel⟩ := hrel
    by_cases hlt : k < s.size
    · have hcell := hrow.cell (lowTake_at' s k hlt)
      have hfz := hrow.frozen (j := k) (by omega)
      have HR1 := Lib.hid hrow
      clear hrow
      go_wp2
      all_goals
        go_roundw
        case rel => exact ⟨k + 1, by omega, by go_num, by first | exact row_up s hlt (by assumption) (by assumption) (by omega) HR1.out | exact row_skip s hlt (low_hi _ (by omega)) HR1.out | exact row_skip s hlt (low_lo _ (by omega)) HR1.out, by first | exact hbel | exact hbel.setCell (Nat.le_refl _) _⟩
        case measure => simp [intOf]; omega
    · have hback := row_str s (by omega) hrow cap
      clear hrow
      go_wp2
      go_ret
      exact ⟨rfl, hbel⟩
set_option maxHeartbeats 1000000 in
set_option maxRecDepth 100000 in
theorem rfold_any (s : ByteArray) (w : World) (hs : s.size ≤ maxLen) :
    Calls Tryz.prog 30 #[.string s] w fun e w' => e = .returned (.string ⟨(s.data.toList.map low).toArray⟩) ∧ Below w.heap.size w w' := by
  unfold maxLen at hs
  obtain ⟨cap, o, hconv, hcap, hrow⟩ := RowB.made (P := Tryz.prog) s w Tryz.underlying9 Tryz.underlying22 Tryz.underlying5
  have HR := Lib.hid hrow
  clear hrow
  go_enter Tryz.func30, Tryz.ntmps30
  go_wp2
  go_loopw [4] (fun i wr => ∃ k : Nat, k ≤ s.size ∧ i = .int .i64 k ∧ RowB 5 wr w.heap.size cap (lowTake k s.data.toList) ∧ Below w.heap.size w wr) (fun i _ => s.size - (intOf i).toNat)
  case atStart => exact ⟨0, Nat.zero_le _, rfl, by rw [lowTake_zero]; exact HR.out.drew, ((Below.refl _ _).alloc (Nat.le_refl _) _).drew⟩
  case round =>
    obtain ⟨k, hk, rfl, hrow, hbel⟩ := hrel
    by_cases hlt : k < s.size
    · have hcell := hrow.cell (lowTake_at' s k hlt)
      have hfz := hrow.frozen (j := k) (by omega)
      have HR1 := Lib.hid hrow
      clear hrow
      go_wp2
      all_goals
        go_roundw
        case rel => exact ⟨k + 1, by omega, by go_num, by first | exact row_up s hlt (by assumption) (by assumption) (by omega) HR1.out | exact row_skip s hlt (low_hi _ (by omega)) HR1.out | exact row_skip s hlt (low_lo _ (by omega)) HR1.out, by first | exact hbel | exact hbel.setCell (Nat.le_refl _) _⟩
        case measure => simp [intOf]; omega
    · have hback := row_str s (by omega) hrow cap
      clear hrow
      go_wp2
      go_ret
      exact ⟨rfl, hbel⟩
end Go.Proofs.YtfmnemcnonbkfaaGreatDoor

namespace Go.Proofs.YtfmnemcnonbkfaaGreatDoor
open Go.RowKit Go.Lib Go.Tx
theorem foreign_any (x : Nat) (hx : x ≤ 1114111) (w : World) : Calls Tryz.prog 78 #[.int .i32 (x : Int)] w fun e w' => e = .returned (.bool (!sign x)) ∧ w' = w := by
  have hc : x < 45 ∨ x = 45 ∨ (46 ≤ x ∧ x ≤ 47) ∨ (48 ≤ x ∧ x ≤ 57) ∨ (58 ≤ x ∧ x ≤ 64) ∨ (65 ≤ x ∧ x ≤ 90) ∨ (91 ≤ x ∧ x ≤ 94) ∨ x = 95 ∨ x = 96 ∨ (97 ≤ x ∧ x ≤ 122) ∨ 122 < x := by omega
  have key : ∀ b, sign x = b → Calls Tryz.prog 78 #[.int .i32 (x : Int)] w (fun e w' => e = .returned (.bool (!b)) ∧ w' = w) → Calls Tryz.prog 78 #[.int .i32 (x : Int)] w fun e w' => e = .returned (.bool (!sign x)) ∧ w' = w := fun b h k => by rw [h]; exact k
  have hs : sign x = decide ((97 ≤ x ∧ x ≤ 122) ∨ (65 ≤ x ∧ x ≤ 90) ∨ (48 ≤ x ∧ x ≤ 57) ∨ x = 45 ∨ x = 95) := by
    simp only [sign]
    by_cases h1 : 97 ≤ x <;> by_cases h2 : x ≤ 122 <;> by_cases h3 : 65 ≤ x <;> by_cases h4 : x ≤ 90 <;> by_cases h5 : 48 ≤ x <;> by_cases h6 : x ≤ 57 <;> by_cases h7 : x = 45 <;> by_cases h8 : x = 95 <;> simp [*]
  rcases hc with h | h | ⟨h, h'⟩ | ⟨h, h'⟩ | ⟨h, h'⟩ | ⟨h, h'⟩ | ⟨h, h'⟩ | h | h | ⟨h, h'⟩ | h
  · refine key false (by rw [hs]; exact decide_eq_false (by omega)) ?_
    clear hs key hx
    have : (x : Int) < 45 := by omega
    go_enter Tryz.func78, Tryz.ntmps78
    go_wp2
    all_goals (go_ret; exact ⟨rfl, rfl⟩)
  · subst h
    refine key true (by decide) ?_
    clear hs key hx
    go_enter Tryz.func78, Tryz.ntmps78
    go_wp2
    all_goals (go_ret; exact ⟨rfl, rfl⟩)
  · refine key false (by rw [hs]; exact decide_eq_false (by omega)) ?_
    clear hs key hx
    have a1 : (46:Int) ≤ (x : Int) := by omega
    have a2 : (x : Int) ≤ 47 := by omega
    go_enter Tryz.func78, Tryz.ntmps78
    go_wp2
    all_goals (go_ret; exact ⟨rfl, rfl⟩)
  · refine key true (by rw [hs]; exact decide_eq_true (by omega)) ?_
    clear hs key hx
    have a1 : (48:Int) ≤ (x : Int) := by omega
    have a2 : (x : Int) ≤ 57 := by omega
    go_enter Tryz.func78, Tryz.ntmps78
    go_wp2
    all_goals (go_ret; exact ⟨rfl, rfl⟩)
  · refine key false (by rw [hs]; exact decide_eq_false (by omega)) ?_
    clear hs key hx
    have a1 : (58:Int) ≤ (x : Int) := by omega
    have a2 : (x : Int) ≤ 64 := by omega
    go_enter Tryz.func78, Tryz.ntmps78
    go_wp2
    all_goals (go_ret; exact ⟨rfl, rfl⟩)
  · refine key true (by rw [hs]; exact decide_eq_true (by omega)) ?_
    clear hs key hx
    have a1 : (65:Int) ≤ (x : Int) := by omega
    have a2 : (x : Int) ≤ 90 := by omega
    go_enter Tryz.func78, Tryz.ntmps78
    go_wp2
    all_goals (go_ret; exact ⟨rfl, rfl⟩)
  · refine key false (by rw [hs]; exact decide_eq_false (by omega)) ?_
    clear hs key hx
    have a1 : (91:Int) ≤ (x : Int) := by omega
    have a2 : (x : Int) ≤ 94 := by omega
    go_enter Tryz.func78, Tryz.ntmps78
    go_wp2
    all_goals (go_ret; exact ⟨rfl, rfl⟩)
  · subst h
    refine key true (by decide) ?_
    clear hs key hx
    go_enter Tryz.func78, Tryz.ntmps78
    go_wp2
    all_goals (go_ret; exact ⟨rfl, rfl⟩)
  · subst h
    refine key false (by decide) ?_
    clear hs key hx
    go_enter Tryz.func78, Tryz.ntmps78
    go_wp2
    all_goals (go_ret; exact ⟨rfl, rfl⟩)
  · refine key true (by rw [hs]; exact decide_eq_true (by omega)) ?_
    clear hs key hx
    have a1 : (97:Int) ≤ (x : Int) := by omega
    have a2 : (x : Int) ≤ 122 := by omega
    go_enter Tryz.func78, Tryz.ntmps78
    go_wp2
    all_goals (go_ret; exact ⟨rfl, rfl⟩)
  · refine key false (by rw [hs]; exact decide_eq_false (by omega)) ?_
    clear hs key hx
    have a1 : (122:Int) < (x : Int) := by omega
    go_enter Tryz.func78, Tryz.ntmps78
    go_wp2
    all_goals (go_ret; exact ⟨rfl, rfl⟩)
theorem foreignAt (w : World) : PredAtRunes Tryz.prog 78 #[] (fun x => !sign x) w := fun W x hx _ =>
  (foreign_any x hx W).mono fun _ _ ⟨h1, h2⟩ => ⟨h1, 0, h2⟩
set_option maxRecDepth 100000 in
theorem hasForeign (s : ByteArray) (w : World) : Calls Tryz.prog 77 #[.string s, .func (.func 78) #[] #[]] w fun e w' => e = .returned (.bool (s.data.toList.any fun b => !sign b.toNat)) ∧ Below w.heap.size w w' := by
  refine (Tryz.strings_ContainsFunc_runes 78 #[] (fun args w => by rfl) (fun x => !sign x) s w (foreignAt w)).mono fun e w' ⟨h1, h2⟩ => ⟨?_, h2⟩
  rw [h1, idx_anyR (fun x => !sign x) (fun x hx => by simp [sign_high x hx])]
theorem noLabel_any (s : ByteArray) (w : World) : Calls Tryz.prog 62 #[.string s] w fun e w' => e = .returned (.bool (!labelB s.data.toList)) ∧ Below w.heap.size w w' := by
  have HF := Lib.hid (fun w => hasForeign s w)
  have HN := Lib.hid (noLabel s.data.toList)
  have hl : s.data.toList.length = s.size := rfl
  by_cases h0 : s = ⟨#[]⟩
  · subst h0
    go_enter Tryz.func62, Tryz.ntmps62
    go_wp2
    all_goals (go_ret; exact ⟨rfl, Below.refl _ _⟩)
  · have h0' : s.data.toList ≠ [] := fun h => h0 (by cases s; simp at h; simp [h])
    by_cases h1 : 63 < s.size
    · have h1' : (63 : Int) < (s.size : Int) := by omega
      have hb : labelB s.data.toList = false := by unfold labelB; simp [hl]; omega
      rw [hb]
      clear HN HF
      go_enter Tryz.func62, Tryz.ntmps62
      go_wp2
      all_goals (go_ret; exact ⟨rfl, Below.refl _ _⟩)
    · have h1' : (s.size : Int) ≤ 63 := by omega
      have hb : (!labelB s.data.toList) = s.data.toList.any fun b => !sign b.toNat := by
        rw [← HN.out]
        simp [h0', hl, h1]
      rw [hb]
      clear HN hb
      have e2 : s.toList.isEmpty = false := by
        rw [Go.Lib.toList_data]
        cases hh : s.data.toList with
        | nil => exact absurd hh h0'
        | cons x y => rfl
      have e3 : decide (63 < (s.size : Int)) = false := decide_eq_false (by omega)
      clear h0 h0' h1 hl
      have HF' : ∀ w, Calls Tryz.prog 77 #[.string s, .func (.func 78) #[] #[]] w fun e w' => e = .returned (.bool (s.data.toList.any fun b => !sign b.toNat)) ∧ Below w.heap.size w w' := HF.out
      clear HF
      generalize (s.data.toList.any fun b => !sign b.toNat) = X at HF' ⊢
      have HF := Lib.hid HF'
      clear HF'
      go_enter Tryz.func62, Tryz.ntmps62
      go_wp2_with (go_at_call 77; refine (HF.out _).mono ?_; rintro e w2 ⟨rfl, hb⟩)
      all_goals (go_ret; exact ⟨by simp only [e3, Bool.false_or]; rfl, hb⟩)
end Go.Proofs.YtfmnemcnonbkfaaGreatDoor

namespace Go.Proofs.YtfmnemcnonbkfaaGreatDoor
open Go.RowKit Go.Lib Go.Tx
/-- A row of texts, whose address and length are known. -/
structure TextsAt (w : World) (b cap : Nat) (ws : List (List UInt8)) : Prop where
  lt : b < w.heap.size
  fits : ws.length ≤ cap
  max : cap ≤ 9223372036854775807
  cell : ∀ (i : Nat) l, ws[i]? = some l → w.cell? ⟨b, i, none⟩ = some (.string ⟨l.toArray⟩)
theorem TextsAt.below {w w' : World} {b cap : Nat} {ws : List (List UInt8)} (h : TextsAt w b cap ws) (hb : Below w.heap.size w w') : TextsAt w' b cap ws :=
  ⟨Nat.lt_of_lt_of_le h.lt hb.size, h.fits, h.max, fun i l hi => by
    have := h.cell i l hi
    unfold World.cell? at this ⊢
    rw [hb.block b h.lt]
    exact this⟩
def IdxT (p : List UInt8 → Bool) (ws : List (List UInt8)) (w : World) (e : Ending) (w' : World) : Prop := ∃ i : Int, e = .returned (.int .i64 i) ∧ decide (0 ≤ i) = ws.any p ∧ Below w.heap.size w w'
theorem anyT_no {p : List UInt8 → Bool} (l : List (List UInt8)) (k : Nat) (hk : l.length ≤ k) (h : ∀ j b, j < k → l[j]? = some b → p b = false) : l.any p = false := by
  rw [List.any_eq_false]
  intro b hb
  obtain ⟨j, hj, rfl⟩ := List.getElem_of_mem hb
  rw [h j _ (by omega) (List.getElem?_eq_getElem hj)]
  simp
theorem anyT_yes {p : List UInt8 → Bool} (l : List (List UInt8)) (k : Nat) (b : List UInt8) (hk : l[k]? = some b) (h : p b = true) : l.any p = true := by
  rw [List.any_eq_true]
  exact ⟨b, List.mem_of_getElem? hk, h⟩
set_option maxHeartbeats 1000000 in
set_option maxRecDepth 100000 in
theorem idxT_any (b n cap : Nat) (ws : List (List UInt8)) (w : World) (hn : ws.length = n) (h : TextsAt w b cap ws) :
    Calls Tryz.prog 76 #[.slice (some ⟨b, 0, none⟩) n cap, .func (.func 62) #[] #[]] w (IdxT (fun l => !labelB l) ws w) := by
  have hcap := h.fits
  have hmax := h.max
  rw [hn] at hcap
  have HT := Lib.hid h
  clear h
  go_enter Tryz.func76, Tryz.ntmps76
  go_wp2
  go_loopw [8] (fun i wr => ∃ k : Nat, k ≤ n ∧ i = .int .i64 k ∧ Below w.heap.size w wr ∧ Hid (∀ j b, j < k → ws[j]? = some b → (!labelB b) = false)) (fun i _ => n - (intOf i).toNat)
  case atStart => exact ⟨0, Nat.zero_le _, rfl, Below.refl _ _, Lib.hid (by omega)⟩
  case round =>
    obtain ⟨k, hk, rfl, hbel, hall⟩ := hrel
    by_cases hlt : k < n
    · have hkl : k < ws.length := by omega
      have hcell := (HT.out.below hbel).cell k ws[k] (List.getElem?_eq_getElem hkl)
      have HK := Lib.hid (List.getElem?_eq_getElem hkl)
      clear hn
      generalize ws[k] = t at hcell HK
      have HN := Lib.hid (fun w => noLabel_any ⟨t.toArray⟩ w)
      cases hb : labelB t with
      | false =>
        have HB := Lib.hid hb
        clear hb
        go_wp2_with (go_at_call 62; refine (HN.out _).mono ?_; rw [show labelB (ByteArray.data ⟨t.toArray⟩).toList = false from HB.out]; rintro e w' ⟨rfl, hb2⟩)
        go_ret
        exact ⟨k, rfl, by rw [anyT_yes ws k t HK.out (by rw [HB.out]; rfl)]; simp, hbel.trans (hb2.mono hbel.size)⟩
      | true =>
        have HB := Lib.hid hb
        clear hb
        go_wp2_with (go_at_call 62; refine (HN.out _).mono ?_; rw [show labelB (ByteArray.data ⟨t.toArray⟩).toList = true from HB.out]; rintro e w' ⟨rfl, hb2⟩)
        go_roundw
        case rel => exact ⟨k + 1, hlt, by go_num, hbel.trans (hb2.mono hbel.size), Lib.hid (by
          intro j d hj hd
          by_cases e : j = k
          · subst e
            have := HK.out
            rw [this] at hd
            cases hd
            rw [HB.out]; rfl
          · exact hall.out j d (by omega) hd)⟩
        case measure => simp [intOf]; omega
    · go_wp2
      go_ret
      exact ⟨-1, rfl, by rw [anyT_no ws k (by omega) hall.out]; rfl, hbel⟩
theorem containsT_any (b n cap : Nat) (ws : List (List UInt8)) (w : World) (hn : ws.length = n) (h : TextsAt w b cap ws) :
    Calls Tryz.prog 60 #[.slice (some ⟨b, 0, none⟩) n cap, .func (.func 62) #[] #[]] w fun e w' => e = .returned (.bool (ws.any fun l => !labelB l)) ∧ Below w.heap.size w w' := by
  have HI := Lib.hid (idxT_any b n cap ws w hn h)
  clear h hn
  go_enter Tryz.func60, Tryz.ntmps60
  go_wp2_with (go_at_call 76; refine HI.out.mono ?_; rintro e w' ⟨i, rfl, hi, hb⟩; have HD := Lib.hid hi; clear hi)
  go_ret
  exact ⟨by rw [← HD.out]; rfl, hb⟩
/-- The library's variable holds a number. -/
def MaxAt (w : World) : Prop := ∃ m : Int, w.cell? ⟨0, 0, none⟩ = some (.int .i64 m)
theorem MaxAt.lt {w : World} (h : MaxAt w) : 0 < w.heap.size := by
  obtain ⟨m, h⟩ := h
  unfold World.cell? at h
  split at h
  · rename_i hh
    exact (Array.getElem?_eq_some_iff.1 hh).1
  · cases h
theorem MaxAt.below {w w' : World} (h : MaxAt w) (hb : Below w.heap.size w w') : MaxAt w' := by
  have := h.lt
  obtain ⟨m, h⟩ := h
  exact ⟨m, by rw [hb.cell (p := ⟨0, 0, none⟩) this]; exact h⟩
theorem split_textsAt (s : ByteArray) (w : World) (hs : s.size < 9223372036854775807) :
    TextsAt (w.alloc (.cells ((Lib.splitB ⟨#[46]⟩ 0 (Lib.countB s ⟨#[46]⟩) s).map Value.string).toArray 9)) w.heap.size (Lib.countB s ⟨#[46]⟩ + 1) (splitL 46 s.data.toList) := by
  rw [split_pieces, split_count]
  have hl := splitG_len 46 s.data.toList []
  refine ⟨by show w.heap.size < (w.heap.push _).size; simp, Nat.le_refl _, ?_, fun i l hi => ?_⟩
  · have : s.data.toList.length = s.size := rfl
    unfold splitL; omega
  · rw [World.cell?_alloc_new]
    simp only [List.getElem?_toArray, List.getElem?_map, hi]
    rfl
set_option maxHeartbeats 1000000 in
theorem isName_any (s : ByteArray) (w : World) (hm : MaxAt w) : Calls Tryz.prog 41 #[.string s] w fun e w' => e = .returned (.bool (nameB s.data.toList)) ∧ Below w.heap.size w w' := by
  have hl : s.data.toList.length = s.size := rfl
  by_cases h1 : s.size ≤ 253
  · have h1' : (s.size : Int) ≤ 253 := by omega
    obtain ⟨m, hm⟩ := hm
    have HS := Lib.hid (Tryz.strings_Split s ⟨#[46]⟩ m w (by omega) hm (Nat.le_refl 1))
    have HT := Lib.hid (split_textsAt s w (by omega))
    have HC := Lib.hid (split_count s 46).symm
    have hb : nameB s.data.toList = !((splitL 46 s.data.toList).any fun l => !labelB l) := by
      unfold nameB
      rw [decide_eq_true (by omega), Bool.true_and]
      simp [List.all_eq_not_any_not]
    rw [hb]
    clear hb hm hl
    go_enter Tryz.func41, Tryz.ntmps41
    go_wp2_with (first | (go_at_call 61; refine HS.out.mono ?_; rintro e w2 ⟨rfl, rfl⟩) | (go_at_call 60; refine (containsT_any _ _ _ _ _ HC.out HT.out).mono ?_; rintro e w2 ⟨rfl, hb⟩))
    go_ret
    exact ⟨rfl, ((Below.refl _ _).alloc (Nat.le_refl _) _).trans (hb.mono (by show w.heap.size ≤ (w.heap.push _).size; simp))⟩
  · have h1' : (253 : Int) < (s.size : Int) := by omega
    have hb : nameB s.data.toList = false := by unfold nameB; rw [decide_eq_false (by omega), Bool.false_and]
    rw [hb]
    clear hb
    go_enter Tryz.func41, Tryz.ntmps41
    go_wp2
    all_goals (go_ret; exact ⟨rfl, Below.refl _ _⟩)
set_option maxHeartbeats 1000000 in
theorem clean_any (s : ByteArray) (w : World) (hs : s.size ≤ maxLen) (hm : MaxAt w) : Calls Tryz.prog 22 #[.string s] w fun e w' => e = .returned (cleanV s.data.toList) ∧ Below w.heap.size w w' := by
  have HC := Lib.hid (Tryz.strings_CutSuffix s ⟨#[46]⟩ w (by unfold maxLen at hs; omega))
  have hbl : (bare s.data.toList).length ≤ maxLen := Nat.le_trans (bare_len _) hs
  have HF := Lib.hid (fun w => fold_any ⟨(bare s.data.toList).toArray⟩ w hbl)
  have HN := Lib.hid (fun w hm => isName_any ⟨(bare s.data.toList).toArray⟩ w hm)
  clear hbl hs
  cases hn : nameB (bare s.data.toList) with
  | true =>
    have hv : cleanV s.data.toList = .tuple #[.string ⟨((bare s.data.toList).map low).toArray⟩, .bool (isRoot s.data.toList), .bool true] := by unfold cleanV; rw [if_pos hn]
    rw [hv]
    have HB := Lib.hid hn
    clear hn hv
    go_enter Tryz.func22, Tryz.ntmps22
    go_wp2_with (first | (go_at_call 40; refine HC.out.mono ?_; rintro e w2 ⟨rfl, rfl⟩) | (go_at_call 41; refine (HN.out _ hm).mono ?_; rw [show nameB (ByteArray.data ⟨(bare s.data.toList).toArray⟩).toList = true from HB.out]; rintro e w2 ⟨rfl, hb⟩) | (go_at_call 42; refine (HF.out _).mono ?_; rintro e w3 ⟨rfl, hb3⟩))
    go_ret3
    exact ⟨rfl, hb.trans (hb3.mono hb.size)⟩
  | false =>
    have hv : cleanV s.data.toList = .tuple #[.string ⟨#[]⟩, .bool false, .bool false] := by unfold cleanV; rw [if_neg (by rw [hn]; decide)]
    rw [hv]
    have HB := Lib.hid hn
    clear hn hv
    go_enter Tryz.func22, Tryz.ntmps22
    go_wp2_with (first | (go_at_call 40; refine HC.out.mono ?_; rintro e w2 ⟨rfl, rfl⟩) | (go_at_call 41; refine (HN.out _ hm).mono ?_; rw [show nameB (ByteArray.data ⟨(bare s.data.toList).toArray⟩).toList = false from HB.out]; rintro e w2 ⟨rfl, hb⟩))
    go_ret3
    exact ⟨rfl, hb⟩
end Go.Proofs.YtfmnemcnonbkfaaGreatDoor

namespace Go.Proofs.YtfmnemcnonbkfaaGreatDoor
open Go.RowKit Go.Lib Go.Tx
theorem labelB_letters (l : List UInt8) : labelB l = (decide (l.length ≤ 63) && lettersB [45, 95] l) := by
  unfold labelB lettersB
  have : (l.all fun b => sign b.toNat) = l.all fun b => alnum b.toNat || [45, 95].any fun m => b == m := by
    congr 1
    funext b
    unfold sign alnum
    have e1 : (b == 45) = decide (b.toNat = 45) := by
      by_cases h : b = 45
      · subst h; rfl
      · rw [beq_eq_false_iff_ne.2 h, decide_eq_false (fun e => h (UInt8.toNat_inj.1 (by rw [e]; rfl)))]
    have e2 : (b == 95) = decide (b.toNat = 95) := by
      by_cases h : b = 95
      · subst h; rfl
      · rw [beq_eq_false_iff_ne.2 h, decide_eq_false (fun e => h (UInt8.toNat_inj.1 (by rw [e]; rfl)))]
    simp only [List.any_cons, List.any_nil, Bool.or_false, e1, e2]
    rw [Bool.eq_iff_iff]
    simp
    omega
  rw [this]
  generalize (l.all fun b => alnum b.toNat || [45, 95].any fun m => b == m) = X
  cases X <;> by_cases h : l = [] <;> simp [h]
theorem suffix46 (s : ByteArray) (k : Nat) (hk : s.size = k + 1) (hlt : k < s.size) : hasSuffix s.data.toList [46] = decide (s[k] = 46) ∧ s.data.toList.take k = (s.extract 0 k).data.toList := by
  refine ⟨?_, (extract_from_zero s k).symm⟩
  have hl : s.data.toList.length = k + 1 := hk
  have e : s.data.toList = s.data.toList.take k ++ [s[k]] := by
    have hd : s.data.toList.drop k = [s[k]] := by
      rw [List.drop_eq_getElem_cons (by omega), List.drop_of_length_le (by omega)]
      rfl
    rw [← hd, List.take_append_drop]
  rw [e]
  generalize s[k] = b
  generalize s.data.toList.take k = t
  unfold hasSuffix
  by_cases h : b = 46
  · subst h
    simp
  · have : ¬ ([46] : List UInt8) <:+ t ++ [b] := by
      rintro ⟨u, hu⟩
      have := List.append_inj_right' hu rfl
      simp at this
      exact h this.symm
    rw [decide_eq_false h]
    cases hc : ([46] : List UInt8).isSuffixOf (t ++ [b]) with
    | false => rfl
    | true => exact absurd (List.isSuffixOf_iff_suffix.1 hc) this
theorem strC_at {B : Nat} {w : World} {v : Value} {ws : List (List UInt8)} (h : StrC B w v ws) (h1 : 1 ≤ ws.length) : ∃ g c, v = .slice (some ⟨g, 0, none⟩) ws.length c ∧ TextsAt w g c ws := by
  obtain ⟨p, c, rfl, hc, hm, hr⟩ := h.read
  obtain ⟨g, rfl, hg, _⟩ := hr 0 ws[0] (List.getElem?_eq_getElem (by omega))
  refine ⟨g, c, rfl, hg, hc, hm, fun i l hi => ?_⟩
  obtain ⟨g', e, _, h3⟩ := hr i l hi
  cases e
  exact h3
theorem all_tillL {p : List UInt8 → Bool} (l : List (List UInt8)) (k : Nat) (hk : l.length ≤ k) (h : ∀ j b, j < k → l[j]? = some b → p b = true) : l.all p = true := by
  rw [List.all_eq_true]
  intro b hb
  obtain ⟨j, hj, rfl⟩ := List.getElem_of_mem hb
  exact h j _ (by omega) (List.getElem?_eq_getElem hj)
theorem all_notL {p : List UInt8 → Bool} (l : List (List UInt8)) (k : Nat) (b : List UInt8) (hk : l[k]? = some b) (h : p b = false) : l.all p = false := by
  rw [List.all_eq_false]
  exact ⟨b, List.mem_of_getElem? hk, by simp [h]⟩
set_option maxHeartbeats 2000000 in
set_option maxRecDepth 100000 in
theorem rclean_any (s : ByteArray) (w : World) (hs : s.size ≤ 1000000) : Calls Tryz.prog 17 #[.string s] w fun e w' => e = .returned (cleanV s.data.toList) ∧ Below w.heap.size w w' := by
  by_cases h0 : 0 < s.size
  · obtain ⟨k, hk⟩ : ∃ k, s.size = k + 1 := ⟨s.size - 1, by omega⟩
    have hlt : k < s.size := by omega
    have hki : (s.size : Int) - 1 = (k : Int) := by omega
    have hkc : (s.size : Int) = (k : Int) + 1 := by omega
    obtain ⟨e1, e2⟩ := suffix46 s k hk hlt
    by_cases hd : s[k] = 46
    · have hroot : isRoot s.data.toList = true := by unfold isRoot; rw [e1, hd]; rfl
      have hbare : bare s.data.toList = (s.extract 0 k).data.toList := by
        unfold bare trimSuffix
        have : s.data.toList.length = k + 1 := hk
        rw [e1, hd, if_pos (by decide), ← e2, this]
        rfl
      have hNs : (s.extract 0 k).size = k := by simp [ByteArray.size_extract]; omega
      clear e1 e2
      obtain ⟨F, hF⟩ : ∃ F : ByteArray, ⟨((s.extract 0 k).data.toList.map low).toArray⟩ = F := ⟨_, rfl⟩
      have HV : Hid (cleanV s.data.toList = if nameB (s.extract 0 k).data.toList = true then .tuple #[.string F, .bool true, .bool true] else .tuple #[.string ⟨#[]⟩, .bool false, .bool false]) := Lib.hid (by unfold cleanV; rw [hbare, hroot, hF])
      have hnl : (s.extract 0 k).data.toList.length = (s.extract 0 k).size := rfl
      have HNB : Hid (∀ b, (s.extract 0 k).size ≤ 253 → (splitL 46 (s.extract 0 k).data.toList).all labelB = b → nameB (s.extract 0 k).data.toList = b) := Lib.hid (fun b h1 h2 => by unfold nameB; rw [h2, hnl, decide_eq_true h1, Bool.true_and])
      have HNL : Hid ((s.extract 0 k).size < 1 ∨ 253 < (s.extract 0 k).size → nameB (s.extract 0 k).data.toList = false) := Lib.hid (fun h => by
        rcases h with h | h
        · have : (s.extract 0 k).data.toList = [] := List.eq_nil_of_length_eq_zero (by omega)
          rw [this]; decide
        · unfold nameB; rw [hnl, decide_eq_false (by omega), Bool.false_and])
      have HSp : Hid (∀ w, Calls Tryz.prog 28 #[.string (s.extract 0 k), .int .u8 46] w (SplitR w (splitL 46 (s.extract 0 k).data.toList))) := Lib.hid (fun w => split_any (s.extract 0 k) 46 w (by omega))
      have HF : Hid (∀ w, Calls Tryz.prog 30 #[.string (s.extract 0 k)] w fun e w' => e = .returned (.string F) ∧ Below w.heap.size w w') := Lib.hid (fun w => by have := rfold_any (s.extract 0 k) w (by unfold maxLen; omega); rw [hF] at this; exact this)
      have HS1 := Lib.hid (splitG_len 46 (s.extract 0 k).data.toList [])
      have HS2 : Hid (∀ x, x ∈ splitL 46 (s.extract 0 k).data.toList → x.length ≤ 1000000) := Lib.hid (fun x hx => by have := splitG_mem 46 _ _ _ hx; simp only [List.length_nil] at this; omega)
      clear hbare hroot hnl hF
      have HT1 : Hid (1 ≤ (splitL 46 (s.extract 0 k).data.toList).length ∧ (splitL 46 (s.extract 0 k).data.toList).length ≤ (s.extract 0 k).data.toList.length + 1) := Lib.hid HS1.out
      clear HS1
      generalize HT0 : splitL 46 (s.extract 0 k).data.toList = T at *
      clear HT0
      go_enter Tryz.func17, Tryz.ntmps17
      go_wp2_with (go_at_call 28; refine (HSp.out _).mono ?_; rintro e w2 ⟨v, rfl, hstr, hb2⟩; obtain ⟨g, c, rfl, hta⟩ := strC_at hstr HT1.out.1; have HTA := Lib.hid hta; have hcap := hta.fits; have hmax := hta.max; have HL := Lib.hid HT1.out.2; clear hta hstr)
      all_goals first
        | (go_ret3; exact ⟨by rw [HV.out, if_neg (by rw [HNL.out (by omega)]; decide)]; rfl, Below.refl _ _⟩)
        | skip
      go_loopw [8] (fun i wr => ∃ k : Nat, k ≤ T.length ∧ i = .int .i64 k ∧ Below w2.heap.size w2 wr ∧ Hid (∀ j b, j < k → T[j]? = some b → labelB b = true)) (fun i _ => T.length - (intOf i).toNat)
      case atStart => exact ⟨0, Nat.zero_le _, rfl, Below.refl _ _, Lib.hid (by omega)⟩
      case round =>
        obtain ⟨q, hq, rfl, hbel, hall⟩ := hrel
        by_cases hql : q < T.length
        · have hcell := (HTA.out.below hbel).cell q T[q] (List.getElem?_eq_getElem hql)
          have HK := Lib.hid (List.getElem?_eq_getElem hql)
          have htl := HS2.out T[q] (List.getElem_mem hql)
          generalize T[q] = t at hcell HK htl
          have hts : (ByteArray.mk t.toArray).size = t.length := by show t.toArray.size = _; simp
          have HLT := Lib.hid (fun w => letters_any ⟨t.toArray⟩ ⟨#[45, 95]⟩ w (by omega) (by decide))
          have HLB := Lib.hid (labelB_letters t)
          by_cases h63 : 63 < t.length
          · have hb : labelB t = false := by rw [HLB.out, decide_eq_false (by omega), Bool.false_and]
            have HNo := Lib.hid (all_notL T q t HK.out hb)
            clear hb
            go_wp2
            go_ret3
            exact ⟨by rw [HV.out, if_neg (by rw [HNB.out false (by omega) HNo.out]; decide)]; rfl, hb2.trans (hbel.mono hb2.size)⟩
          · have hb : labelB t = lettersB [45, 95] t := by rw [HLB.out, decide_eq_true (by omega), Bool.true_and]
            have HEq := Lib.hid hb
            clear hb
            cases hlb : labelB t with
            | false =>
              have HNo := Lib.hid (all_notL T q t HK.out hlb)
              have HLF : Hid (lettersB [45, 95] t = false) := Lib.hid (by rw [← HEq.out, hlb])
              clear hlb
              go_wp2_with (go_at_call 29; refine (HLT.out _).mono ?_; rw [show lettersB (ByteArray.data ⟨#[45, 95]⟩).toList (ByteArray.data ⟨t.toArray⟩).toList = false from HLF.out]; rintro e w3 ⟨rfl, rfl⟩)
              go_ret3
              exact ⟨by rw [HV.out, if_neg (by rw [HNB.out false (by omega) HNo.out]; decide)]; rfl, hb2.trans (hbel.mono hb2.size)⟩
            | true =>
              have HB := Lib.hid hlb
              have HLF : Hid (lettersB [45, 95] t = true) := Lib.hid (by rw [← HEq.out, hlb])
              clear hlb
              go_wp2_with (go_at_call 29; refine (HLT.out _).mono ?_; rw [show lettersB (ByteArray.data ⟨#[45, 95]⟩).toList (ByteArray.data ⟨t.toArray⟩).toList = true from HLF.out]; rintro e w3 ⟨rfl, rfl⟩)
              go_roundw
              case rel => exact ⟨q + 1, hql, by go_num, hbel, Lib.hid (by
                intro j d hj hd
                by_cases e : j = q
                · subst e
                  have := HK.out
                  rw [this] at hd
                  cases hd
                  exact HB.out
                · exact hall.out j d (by omega) hd)⟩
              case measure => simp [intOf]; omega
        · have HYes := Lib.hid (all_tillL T q (by omega) hall.out)
          go_wp2_with (go_at_call 30; refine (HF.out _).mono ?_; rintro e w3 ⟨rfl, hb3⟩)
          go_ret3
          have hb4 := hb2.trans (hbel.mono hb2.size)
          exact ⟨by rw [HV.out, if_pos (HNB.out true (by omega) HYes.out)]; rfl, hb4.trans (hb3.mono hb4.size)⟩
    · have hroot : isRoot s.data.toList = false := by unfold isRoot; rw [e1]; exact decide_eq_false hd
      have hbare : bare s.data.toList = s.data.toList := by
        unfold bare trimSuffix
        rw [e1, if_neg (by simpa using hd)]
      have hne : ¬ (s[k].toNat : Int) = 46 := fun e => hd (UInt8.toNat_inj.1 (by show s[k].toNat = 46; omega))
      clear e1 e2 hd
      obtain ⟨F, hF⟩ : ∃ F : ByteArray, ⟨((s).data.toList.map low).toArray⟩ = F := ⟨_, rfl⟩
      have HV : Hid (cleanV s.data.toList = if nameB (s).data.toList = true then .tuple #[.string F, .bool false, .bool true] else .tuple #[.string ⟨#[]⟩, .bool false, .bool false]) := Lib.hid (by unfold cleanV; rw [hbare, hroot, hF])
      have hnl : (s).data.toList.length = (s).size := rfl
      have HNB : Hid (∀ b, (s).size ≤ 253 → (splitL 46 (s).data.toList).all labelB = b → nameB (s).data.toList = b) := Lib.hid (fun b h1 h2 => by unfold nameB; rw [h2, hnl, decide_eq_true h1, Bool.true_and])
      have HNL : Hid ((s).size < 1 ∨ 253 < (s).size → nameB (s).data.toList = false) := Lib.hid (fun h => by
        rcases h with h | h
        · have : (s).data.toList = [] := List.eq_nil_of_length_eq_zero (by omega)
          rw [this]; decide
        · unfold nameB; rw [hnl, decide_eq_false (by omega), Bool.false_and])
      have HSp : Hid (∀ w, Calls Tryz.prog 28 #[.string (s), .int .u8 46] w (SplitR w (splitL 46 (s).data.toList))) := Lib.hid (fun w => split_any (s) 46 w (by omega))
      have HF : Hid (∀ w, Calls Tryz.prog 30 #[.string (s)] w fun e w' => e = .returned (.string F) ∧ Below w.heap.size w w') := Lib.hid (fun w => by have := rfold_any (s) w (by unfold maxLen; omega); rw [hF] at this; exact this)
      have HS1 := Lib.hid (splitG_len 46 (s).data.toList [])
      have HS2 : Hid (∀ x, x ∈ splitL 46 (s).data.toList → x.length ≤ 1000000) := Lib.hid (fun x hx => by have := splitG_mem 46 _ _ _ hx; simp only [List.length_nil] at this; omega)
      clear hbare hroot hnl hF
      have HT1 : Hid (1 ≤ (splitL 46 (s).data.toList).length ∧ (splitL 46 (s).data.toList).length ≤ (s).data.toList.length + 1) := Lib.hid HS1.out
      clear HS1
      generalize HT0 : splitL 46 (s).data.toList = T at *
      clear HT0
      go_enter Tryz.func17, Tryz.ntmps17
      go_wp2_with (go_at_call 28; refine (HSp.out _).mono ?_; rintro e w2 ⟨v, rfl, hstr, hb2⟩; obtain ⟨g, c, rfl, hta⟩ := strC_at hstr HT1.out.1; have HTA := Lib.hid hta; have hcap := hta.fits; have hmax := hta.max; have HL := Lib.hid HT1.out.2; clear hta hstr)
      all_goals first
        | (go_ret3; exact ⟨by rw [HV.out, if_neg (by rw [HNL.out (by omega)]; decide)]; rfl, Below.refl _ _⟩)
        | skip
      go_loopw [8] (fun i wr => ∃ k : Nat, k ≤ T.length ∧ i = .int .i64 k ∧ Below w2.heap.size w2 wr ∧ Hid (∀ j b, j < k → T[j]? = some b → labelB b = true)) (fun i _ => T.length - (intOf i).toNat)
      case atStart => exact ⟨0, Nat.zero_le _, rfl, Below.refl _ _, Lib.hid (by omega)⟩
      case round =>
        obtain ⟨q, hq, rfl, hbel, hall⟩ := hrel
        by_cases hql : q < T.length
        · have hcell := (HTA.out.below hbel).cell q T[q] (List.getElem?_eq_getElem hql)
          have HK := Lib.hid (List.getElem?_eq_getElem hql)
          have htl := HS2.out T[q] (List.getElem_mem hql)
          generalize T[q] = t at hcell HK htl
          have hts : (ByteArray.mk t.toArray).size = t.length := by show t.toArray.size = _; simp
          have HLT := Lib.hid (fun w => letters_any ⟨t.toArray⟩ ⟨#[45, 95]⟩ w (by omega) (by decide))
          have HLB := Lib.hid (labelB_letters t)
          by_cases h63 : 63 < t.length
          · have hb : labelB t = false := by rw [HLB.out, decide_eq_false (by omega), Bool.false_and]
            have HNo := Lib.hid (all_notL T q t HK.out hb)
            clear hb
            go_wp2
            go_ret3
            exact ⟨by rw [HV.out, if_neg (by rw [HNB.out false (by omega) HNo.out]; decide)]; rfl, hb2.trans (hbel.mono hb2.size)⟩
          · have hb : labelB t = lettersB [45, 95] t := by rw [HLB.out, decide_eq_true (by omega), Bool.true_and]
            have HEq := Lib.hid hb
            clear hb
            cases hlb : labelB t with
            | false =>
              have HNo := Lib.hid (all_notL T q t HK.out hlb)
              have HLF : Hid (lettersB [45, 95] t = false) := Lib.hid (by rw [← HEq.out, hlb])
              clear hlb
              go_wp2_with (go_at_call 29; refine (HLT.out _).mono ?_; rw [show lettersB (ByteArray.data ⟨#[45, 95]⟩).toList (ByteArray.data ⟨t.toArray⟩).toList = false from HLF.out]; rintro e w3 ⟨rfl, rfl⟩)
              go_ret3
              exact ⟨by rw [HV.out, if_neg (by rw [HNB.out false (by omega) HNo.out]; decide)]; rfl, hb2.trans (hbel.mono hb2.size)⟩
            | true =>
              have HB := Lib.hid hlb
              have HLF : Hid (lettersB [45, 95] t = true) := Lib.hid (by rw [← HEq.out, hlb])
              clear hlb
              go_wp2_with (go_at_call 29; refine (HLT.out _).mono ?_; rw [show lettersB (ByteArray.data ⟨#[45, 95]⟩).toList (ByteArray.data ⟨t.toArray⟩).toList = true from HLF.out]; rintro e w3 ⟨rfl, rfl⟩)
              go_roundw
              case rel => exact ⟨q + 1, hql, by go_num, hbel, Lib.hid (by
                intro j d hj hd
                by_cases e : j = q
                · subst e
                  have := HK.out
                  rw [this] at hd
                  cases hd
                  exact HB.out
                · exact hall.out j d (by omega) hd)⟩
              case measure => simp [intOf]; omega
        · have HYes := Lib.hid (all_tillL T q (by omega) hall.out)
          go_wp2_with (go_at_call 30; refine (HF.out _).mono ?_; rintro e w3 ⟨rfl, hb3⟩)
          go_ret3
          have hb4 := hb2.trans (hbel.mono hb2.size)
          exact ⟨by rw [HV.out, if_pos (HNB.out true (by omega) HYes.out)]; rfl, hb4.trans (hb3.mono hb4.size)⟩
  · have h1 : s = ⟨#[]⟩ := by
      have : s.data.toList = [] := List.eq_nil_of_length_eq_zero (by show s.size = 0; omega)
      cases s; simp at this; simp [this]
    subst h1
    have HV : cleanV ([] : List UInt8) = .tuple #[.string ⟨#[]⟩, .bool false, .bool false] := by unfold cleanV; rw [if_neg (by decide)]
    have HV := Lib.hid HV
    go_enter Tryz.func17, Tryz.ntmps17
    go_wp2
    all_goals (go_ret3; exact ⟨by first | (rw [HV.out]; rfl) | exact congrArg Ending.returned HV.out.symm, Below.refl _ _⟩)
end Go.Proofs.YtfmnemcnonbkfaaGreatDoor

namespace Go.Proofs.YtfmnemcnonbkfaaGreatDoor
open Go.RowKit Go.Lib Go.Tx
theorem lines_word {E B k no : Nat} {w : World} {v : Value} {T : List (Nat × List (List UInt8))} {ws : List (List UInt8)} (h : LinesC E B w v T) (hx : T[k]? = some (no, ws)) (hne : ws ≠ []) :
    ∃ g cap q c, v = .slice (some ⟨g, 0, none⟩) T.length cap ∧ (T.length ≤ cap ∧ cap ≤ 9223372036854775807) ∧ (B ≤ g ∧ g < w.heap.size) ∧ w.cell? ⟨g, 2 * k + 1, none⟩ = some (.slice (some ⟨q, 0, none⟩) ws.length c) ∧ (ws.length ≤ c ∧ c ≤ 9223372036854775807) ∧ (B ≤ q ∧ q < w.heap.size) ∧ ∀ (j : Nat) l, ws[j]? = some l → w.cell? ⟨q, j, none⟩ = some (.string ⟨l.toArray⟩) := by
  obtain ⟨xs, h1, h2⟩ := h
  have hlt : k < T.length := (List.getElem?_eq_some_iff.1 hx).1
  have hlb := World.ownsRow.lt h1
  rcases h1.2 with ⟨a, b⟩ | ⟨g, cap, cur, a, a2, a3, a4, a5, _⟩
  · omega
  · subst a
    obtain ⟨x, wv, y, z⟩ := h2 k no ws hx
    obtain ⟨q, c, rfl⟩ := z.shape
    obtain ⟨p', c', e, hc1, hc2, hr⟩ := z.read
    cases e
    obtain ⟨l0, hl0⟩ : ∃ l, ws[0]? = some l := by cases ws with | nil => exact absurd rfl hne | cons l r => exact ⟨l, rfl⟩
    obtain ⟨q', rfl, _⟩ := hr 0 l0 hl0
    have hq := World.ownsRow.lt z q' rfl
    refine ⟨g, cap, q', c, rfl, ⟨a4, a5⟩, hlb g rfl, ?_, ⟨hc1, hc2⟩, hq, fun j l hj => ?_⟩
    · rw [h1.cellAt _ (by omega)]; exact y
    · obtain ⟨g', e, hcell⟩ := hr j l hj
      cases e
      exact hcell.2
theorem results_rowE {P : Program} {fn : Func} {p : Tmp} {ty : TypeId} (h : fn.results = #[.cell p ty]) (tmps : Array Value) (w : World) (g : Nat) (t : TypeId) (cs : Array Value) (fr : Nat × Nat) (d : TypeDesc)
    (hp : tmps.getD p undef = .pointer (some ⟨g, 0, none⟩)) (hg : w.heap[g]? = some (.cells cs t fr))
    (hu : P.underlying ty = some d) (hd : (match d with | .struct _ | .array _ _ => true | _ => false) = true) (hi : (P.info? ty).map (·.size) = some cs.size) :
    (results fn tmps).run P w = .ok (.agg cs) w := by
  have hp' : tmps[p]?.getD undef = .pointer (some ⟨g, 0, none⟩) := by rw [← hp]; simp [Array.getD_eq_getD_getElem?]
  simp only [results, h]
  simp [Sem.run_bind, hp', asAddr, run_loadVar_row w g t ty cs fr d hg hu hd hi, Result.andThen]
theorem sz_set : (Tryz.prog.info? 28).map (·.size) = some 6 := by kernel_rfl
theorem belE_set {B : Nat} {W w : World} (h : Below B W w) {b : Nat} (hb : B ≤ b) (j : Nat) (v : Value) : Below B W (w.setCell ⟨b, j, none⟩ v) where
  os := h.os
  tape := h.tape
  output := h.output
  size := by have := h.size; simpa [World.setCell] using this
  block := fun k hk => by
    rw [← h.block k hk]
    simp [World.setCell, Array.getElem?_modify]
    intro e
    omega
theorem Keep.bel {B b B0 : Nat} {a w : World} (h : Keep B b a w) (h1 : B0 ≤ b) (h2 : B0 ≤ B) : Below B0 a w := ⟨h.os, h.tape, h.output, h.size, fun k hk => h.block k (by omega) (by omega)⟩
def RSetR (w : World) (S : SetL) (e : Ending) (w' : World) : Prop := ∃ v, e = .returned v ∧ SetV w.heap.size w' v S ∧ Below w.heap.size w w'
theorem keyE (x : List UInt8) (l : List UInt8) : ((⟨x.toArray⟩ : ByteArray).toList == l) = decide (x = l) := by
  rw [Go.Lib.toList_data, Bool.eq_iff_iff]
  simp only [beq_iff_eq, decide_eq_true_eq]
theorem info_sE : (Tryz.prog.info? 9).map (fun i => (i.zero, i.size, i.bytes)) = some (some (.string ⟨#[]⟩), 1, 16) := by kernel_rfl
theorem new_cE (w : World) (x : Value) (e : TypeId) : ∀ j u, [x][j]? = some u → (w.alloc (.cells #[x] e)).cell? ((⟨w.heap.size, 0, none⟩ : Addr).add j) = some u := by
  intro j u hj
  have ha : (⟨w.heap.size, 0, none⟩ : Addr).add j = ⟨w.heap.size, j, none⟩ := by unfold Addr.add; split <;> simp_all
  rw [ha, World.cell?_alloc_new]
  simpa using hj

set_option maxHeartbeats 8000000 in
set_option maxRecDepth 100000 in
theorem rsetup_core (a : Option Addr) (n c : Nat) (T : List (Nat × List (List UInt8))) (w : World) (hfine : ∀ t ∈ T, FineL t.2) (hfew : T.length ≤ 100001) (hlines : ∀ W, Below w.heap.size w W → Calls Tryz.prog 15 #[.slice a n c] W (RLinesR W T)) :
    Calls Tryz.prog 9 #[.slice a n c] w (RSetR w (setupP T)) := by
  obtain ⟨i8, si, sz0, sz1, sz2⟩ := info_parts info_sE
  have HLn := Lib.hid hlines
  have HFine := Lib.hid hfine
  clear hfine hlines
  have HN : Hid (∀ W, (w.alloc (.cells #[.slice none 0 0, .slice none 0 0, .int .i64 0, .int .i64 0, .int .i64 0, .bool false] 28)).alloc (.cells #[.slice none 0 0, .slice none 0 0, .int .i64 1, .int .i64 5, .int .i64 2, .bool false] 28) = W → W.heap[w.heap.size]? = some (.cells #[.slice none 0 0, .slice none 0 0, .int .i64 0, .int .i64 0, .int .i64 0, .bool false] 28 (0, 0)) ∧ W.heap[w.heap.size + 1]? = some (.cells #[.slice none 0 0, .slice none 0 0, .int .i64 1, .int .i64 5, .int .i64 2, .bool false] 28 (0, 0)) ∧ Below w.heap.size w W ∧ W.heap.size = w.heap.size + 2) := Lib.hid (fun W h => by
    subst h
    refine ⟨heap_alloc2_old w _ _, heap_alloc2_new w _ _, ((Below.refl _ _).alloc (Nat.le_refl _) _).alloc (by show w.heap.size ≤ (w.heap.push _).size; simp) _, by show ((w.heap.push _).push _).size = _; simp⟩)
  go_enter Tryz.func9, Tryz.ntmps9
  go_upto_region 2 with (fail)
  obtain ⟨W, hW⟩ : ∃ W, (w.alloc (.cells #[.slice none 0 0, .slice none 0 0, .int .i64 0, .int .i64 0, .int .i64 0, .bool false] 28)).alloc (.cells #[.slice none 0 0, .slice none 0 0, .int .i64 1, .int .i64 5, .int .i64 2, .bool false] 28) = W := ⟨_, rfl⟩
  obtain ⟨hz, hi, hbW, hsz⟩ := HN.out W hW
  try rw [hW]
  clear hW HN
  have HBW := Lib.hid hbW
  go_wp2_with (go_at_call 15; refine (HLn.out _ HBW.out).mono ?_; rintro e w2 ⟨v, rfl, hT, hb2⟩; obtain ⟨pT, cT, rfl⟩ := hT.shape)
  have HT := Lib.hid hT
  have HB2 := Lib.hid hb2
  have H0 : Hid (SetAt w2 w2.heap.size (w.heap.size + 1) (.slice none 0 0) (.slice none 0 0) (setupP (T.take 0)) w2) := Lib.hid
    ⟨(hb2.block _ (by omega)).trans hi, World.ownsRow_nil _ _ _ _, World.ownsRow_nil _ _ _ _, fun g h => by simp [Value.ownBlock] at h, by have := hb2.size; omega, Nat.le_refl _, Keep.refl _ _ _⟩
  have HZ : Hid (w2.heap[w.heap.size]? = some (.cells #[.slice none 0 0, .slice none 0 0, .int .i64 0, .int .i64 0, .int .i64 0, .bool false] 28 (0, 0))) := Lib.hid ((hb2.block _ (by omega)).trans hz)
  have HSz : Hid (W.heap.size = w.heap.size + 2 ∧ W.heap.size ≤ w2.heap.size) := Lib.hid ⟨hsz, hb2.size⟩
  clear hT hb2 hz hi hbW hsz
  go_loopw [5] (fun iv wr => ∃ (k : Nat) (v1 v2 : Value), k ≤ T.length ∧ iv = .int .i64 k ∧ SetAt w2 w2.heap.size (w.heap.size + 1) v1 v2 (setupP (T.take k)) wr) (fun iv _ => T.length - (intOf iv).toNat)
  case atStart => exact ⟨0, _, _, Nat.zero_le _, rfl, H0.out⟩
  case round =>
    obtain ⟨k, v1, v2, hk, rfl, hS⟩ := hrel
    have HS := Lib.hid hS
    clear hS
    by_cases hlt : k < T.length
    · obtain ⟨⟨no, ws⟩, hx⟩ : ∃ x, T[k]? = some x := ⟨_, List.getElem?_eq_getElem hlt⟩
      have hf := HFine.out (no, ws) (List.mem_of_getElem? hx)
      obtain ⟨g, cap, q, c', e, ⟨hc1, hc2⟩, ⟨hg1, hg2⟩, hcl, ⟨hc3, hc4⟩, ⟨hq1, hq2⟩, hwd⟩ := lines_word HT.out hx hf.ne
      cases e
      have HStep : Hid (setupP (T.take (k + 1)) = lineS (setupP (T.take k)) ws) := Lib.hid (by rw [takeH hx, setupP_snoc])
      have hsz := HSz.out
      have hcw : wr.cell? ⟨g, k * 2 + 1, none⟩ = some (.slice (some ⟨q, 0, none⟩) ws.length c') := by
        rw [Nat.mul_comm]
        exact (HS.out.kp.cell (p := ⟨g, 2 * k + 1, none⟩) hg2 (by show g ≠ _; omega)).trans hcl
      have HWd : Hid (∀ V, Keep w2.heap.size (w.heap.size + 1) w2 V → ∀ (j : Nat) l, ws[j]? = some l → V.cell? ⟨q, j, none⟩ = some (.string ⟨l.toArray⟩)) := Lib.hid (fun V hV j l hj => (hV.cell (p := ⟨q, j, none⟩) hq2 (by show q ≠ _; omega)).trans (hwd j l hj))
      have HWz := Lib.hid hf.word
      have hfw := hf.few
      obtain ⟨x, r0, rfl⟩ : ∃ x r, ws = x :: r := by cases ws with | nil => exact absurd rfl hf.ne | cons x r => exact ⟨x, r, rfl⟩
      have hc0 := HWd.out wr HS.out.kp 0 x rfl
      have hlen : (x :: r0).length = r0.length + 1 := rfl
      rw [hlen] at hcw hc3 hfw
      generalize hS : setupP (T.take k) = S at *
      have HFew : Hid (S.servers.length ≤ 3) := Lib.hid (by rw [← hS]; exact setup_few _)
      clear hx hf hwd hcl hlen hsz hS
      by_cases h1 : x = kNs
      · subst h1
        obtain ⟨s1, d1, rfl⟩ := HS.out.srv.shape
        obtain ⟨s2, d2, rfl⟩ := HS.out.sea.shape
        obtain ⟨⟨p0, p1, p2, p3, p4, p5⟩, ⟨f0, f1, f2, f3, f4, f5⟩⟩ := HS.out.cells
        have e1 : (kNs == [110, 97, 109, 101, 115, 101, 114, 118, 101, 114]) = true := by decide
        cases r0 with
        | nil =>
          have HL : Hid (lineS S [kNs] = S) := Lib.hid (by rw [lineS_cons, if_pos rfl]; rfl)
          rw [HL.out] at HStep
          simp only [List.length_nil, Nat.zero_add] at hcw hc3
          go_wp2
          go_roundw
          case rel => exact ⟨k + 1, _, _, hlt, by go_num, by rw [HStep.out]; exact HS.out⟩
          case measure => simp [intOf]; omega
        | cons y r =>
          have hy1 := HWd.out wr HS.out.kp 1 y rfl
          have hy2 := HWz.out y (by simp)
          have hln : (y :: r).length + 1 = r.length + 2 := rfl
          rw [hln] at hcw hc3 hfw
          have hgt : (1 : Int) < ((r.length + 2 : Nat) : Int) := by omega
          have HP : Hid (∀ V, Calls Tryz.prog 16 #[.string ⟨y.toArray⟩] V (FourR V (parseP y))) := Lib.hid (fun V => rparse_any ⟨y.toArray⟩ V (by show y.length ≤ 100000; omega))
          clear hln
          by_cases hl : S.servers.length < 3
          · have hl2 : (S.servers.length : Int) < 3 := by omega
            unfold FourR at HP
            cases hp : parseP y with
            | none =>
              rw [hp] at HP
              have HL : Hid (lineS S (kNs :: y :: r) = S) := Lib.hid (by
                rw [lineS_cons, if_pos rfl]
                unfold srvS
                simp only
                rw [if_pos hl, hp])
              rw [HL.out] at HStep
              clear hp hl
              go_wp2_with (go_at_call 16; refine (HP.out _).mono ?_; rintro e w3 ⟨rfl, hb⟩; have HS3 := Lib.hid (HS.out.below hb); clear hb)
              go_roundw
              case rel => exact ⟨k + 1, _, _, hlt, by go_num, by rw [HStep.out]; exact HS3.out⟩
              case measure => simp [intOf]; omega
            | some z =>
              rw [hp] at HP
              have HL : Hid (lineS S (kNs :: y :: r) = ⟨S.servers ++ [z], S.search, S.dots, S.tmo, S.att, S.rot⟩) := Lib.hid (by
                rw [lineS_cons, if_pos rfl]
                unfold srvS
                simp only
                rw [if_pos hl, hp])
              rw [HL.out] at HStep
              clear hp hl
              go_wp2_with (first | (go_at_call 16; refine (HP.out _).mono ?_; rintro e w3 ⟨rfl, hb⟩; have HS3 := Lib.hid (HS.out.below hb); obtain ⟨⟨n0, n1, n2, n3, n4, n5⟩, _⟩ := HS3.out.cells; clear hb) | (at_builtin; refine wpList_append_lies _ (by rfl) _ _ _ (by rfl) w2.heap.size 9 i8 (.string ⟨#[]⟩) 1 16 Tryz.underlying26 si sz0 sz1 sz2 rfl (by decide) (.slice s1 S.servers.length d1) S.servers.length (S.servers.map strV) (by rfl) ((HS3.out.al _).srv) ⟨w3.heap.size, 0, none⟩ 1 1 [.string ⟨z.toArray⟩] (by rfl) rfl (new_cE _ _ _) (by simp [Value.oneCell']) (by decide) (by unfold maxLen; omega) (by omega) ((HS3.out.al _).top) _ rfl ?_; intro g4 cap4 w4 ho hg hat hlt4; obtain ⟨m0, m1⟩ := (HS3.out.al _).grS hg; have HO := Lib.hid ho; have HG := Lib.hid hg; have HA := Lib.hid hat; clear ho hg hat))
              go_roundw
              case rel => exact ⟨k + 1, _, _, hlt, by go_num, by rw [HStep.out]; exact (HS3.out.al _).pushS HO.out HG.out HA.out⟩
              case measure => simp [intOf]; omega
          · have hl2 : ¬ (S.servers.length : Int) < 3 := by omega
            have HL : Hid (lineS S (kNs :: y :: r) = S) := Lib.hid (by
              rw [lineS_cons, if_pos rfl]
              unfold srvS
              simp only
              rw [if_neg hl])
            rw [HL.out] at HStep
            clear hl
            go_wp2
            go_roundw
            case rel => exact ⟨k + 1, _, _, hlt, by go_num, by rw [HStep.out]; exact HS.out⟩
            case measure => simp [intOf]; omega
      · by_cases h2 : x = kSe
        · subst h2
          obtain ⟨s1, d1, rfl⟩ := HS.out.srv.shape
          obtain ⟨s2, d2, rfl⟩ := HS.out.sea.shape
          obtain ⟨⟨p0, p1, p2, p3, p4, p5⟩, ⟨f0, f1, f2, f3, f4, f5⟩⟩ := HS.out.cells
          have e1 : (kSe == [110, 97, 109, 101, 115, 101, 114, 118, 101, 114]) = false := by decide
          have e2 : (kSe == [115, 101, 97, 114, 99, 104]) = true := by decide
          have HL : Hid (lineS S (kSe :: r0) = ⟨S.servers, searchP r0, S.dots, S.tmo, S.att, S.rot⟩) := Lib.hid (by rw [lineS_cons, if_neg (by decide), if_pos rfl])
          rw [HL.out] at HStep
          have HN := Lib.hid HS.out.setNil
          have hfr := hfw
          go_wp2
          obtain ⟨W3, hW3⟩ : ∃ W3, wr.setCell ⟨w.heap.size + 1, 1, none⟩ (.slice none 0 0) = W3 := ⟨_, rfl⟩
          rw [hW3] at HN
          try rw [hW3]
          clear hW3 p0 p1 p2 p3 p4 p5 f0 f1 f2 f3 f4 f5
          go_loopw [9] (fun iv wr => ∃ (j : Nat) (v2' : Value), j ≤ r0.length ∧ iv = .int .i64 ((j + 1 : Nat) : Int) ∧ SetAt w2 w2.heap.size (w.heap.size + 1) (.slice s1 S.servers.length d1) v2' ⟨S.servers, searchP (r0.take j), S.dots, S.tmo, S.att, S.rot⟩ wr) (fun iv _ => r0.length + 1 - (intOf iv).toNat)
          case atStart => exact ⟨0, _, Nat.zero_le _, rfl, HN.out⟩
          case round =>
            obtain ⟨j, v2', hj, rfl, hS2⟩ := hrel
            obtain ⟨s3, d3, rfl⟩ := hS2.sea.shape
            obtain ⟨⟨p0, p1, p2, p3, p4, p5⟩, ⟨f0, f1, f2, f3, f4, f5⟩⟩ := hS2.cells
            have HS2 := Lib.hid hS2
            clear hS2
            by_cases hjl : j < r0.length
            · obtain ⟨y, hy⟩ : ∃ y, r0[j]? = some y := ⟨_, List.getElem?_eq_getElem hjl⟩
              have hyc := HWd.out wr HS2.out.kp (j + 1) y (by simpa using hy)
              have hyl := HWz.out y (List.mem_cons_of_mem _ (List.mem_of_getElem? hy))
              have HC : Hid (∀ V, Calls Tryz.prog 17 #[.string ⟨y.toArray⟩] V fun e w' => e = .returned (cleanV y) ∧ Below V.heap.size V w') := Lib.hid (fun V => rclean_any ⟨y.toArray⟩ V (by show y.length ≤ 1000000; omega))
              have HSn : Hid (searchP (r0.take (j + 1)) = if (searchP (r0.take j)).length < 6 then searchP (r0.take j) ++ (nmC y).toList else searchP (r0.take j)) := Lib.hid (by rw [takeH hy, search_snoc])
              have hjk : ((j + 1 : Nat) : Int) < ((r0.length + 1 : Nat) : Int) := by omega
              have hsf := search_few (r0.take j)
              generalize searchP (r0.take j) = L at *
              clear hy
              by_cases hnm : nameB (bare y) = true
              · have hnc : nmC y = some ((bare y).map low) := by unfold nmC; rw [if_pos hnm]
                have hcv : cleanV y = .tuple #[.string ⟨((bare y).map low).toArray⟩, .bool (isRoot y), .bool true] := by unfold cleanV; rw [if_pos hnm]
                rw [hcv] at HC
                rw [hnc] at HSn
                generalize (bare y).map low = z at *
                generalize isRoot y = rt at *
                clear hnc hcv hnm
                by_cases h6 : L.length < 6
                · have h6' : (L.length : Int) < 6 := by omega
                  have HS4 : Hid (searchP (r0.take (j + 1)) = L ++ [z]) := Lib.hid (by rw [HSn.out, if_pos h6]; rfl)
                  clear HSn h6
                  go_wp2_with (first | (go_at_call 17; refine (HC.out _).mono ?_; rintro e w3 ⟨rfl, hb⟩; have HS3 := Lib.hid (HS2.out.below hb); obtain ⟨⟨n0, n1, n2, n3, n4, n5⟩, _⟩ := HS3.out.cells; clear hb) | (at_builtin; refine wpList_append_lies _ (by rfl) _ _ _ (by rfl) w2.heap.size 9 i8 (.string ⟨#[]⟩) 1 16 Tryz.underlying26 si sz0 sz1 sz2 rfl (by decide) (.slice s3 L.length d3) L.length (L.map strV) (by rfl) ((HS3.out.al _).sea) ⟨w3.heap.size, 0, none⟩ 1 1 [.string ⟨z.toArray⟩] (by rfl) rfl (new_cE _ _ _) (by simp [Value.oneCell']) (by decide) (by unfold maxLen; omega) (by omega) ((HS3.out.al _).top) _ rfl ?_; intro g4 cap4 w4 ho hg hat hlt4; obtain ⟨m0, m1⟩ := (HS3.out.al _).grN hg; have HO := Lib.hid ho; have HG := Lib.hid hg; have HA := Lib.hid hat; clear ho hg hat))
                  go_roundw
                  case rel => exact ⟨j + 1, _, hjl, by go_num, by rw [HS4.out]; exact (HS3.out.al _).pushN HO.out HG.out HA.out⟩
                  case measure => simp [intOf]; omega
                · have h6' : ¬ (L.length : Int) < 6 := by omega
                  have HS4 : Hid (searchP (r0.take (j + 1)) = L) := Lib.hid (by rw [HSn.out, if_neg h6])
                  clear HSn h6
                  go_wp2_with (go_at_call 17; refine (HC.out _).mono ?_; rintro e w3 ⟨rfl, hb⟩; have HS3 := Lib.hid (HS2.out.below hb); obtain ⟨⟨n0, n1, n2, n3, n4, n5⟩, _⟩ := HS3.out.cells; clear hb)
                  go_roundw
                  case rel => exact ⟨j + 1, _, hjl, by go_num, by rw [HS4.out]; exact HS3.out⟩
                  case measure => simp [intOf]; omega
              · have hnc : nmC y = none := by unfold nmC; rw [if_neg hnm]
                have hcv : cleanV y = .tuple #[.string ⟨#[]⟩, .bool false, .bool false] := by unfold cleanV; rw [if_neg hnm]
                rw [hcv] at HC
                have HS4 : Hid (searchP (r0.take (j + 1)) = L) := Lib.hid (by rw [HSn.out, hnc]; split <;> simp)
                clear HSn hnc hcv hnm
                go_wp2_with (go_at_call 17; refine (HC.out _).mono ?_; rintro e w3 ⟨rfl, hb⟩; have HS3 := Lib.hid (HS2.out.below hb); obtain ⟨⟨n0, n1, n2, n3, n4, n5⟩, _⟩ := HS3.out.cells; clear hb)
                go_roundw
                case rel => exact ⟨j + 1, _, hjl, by go_num, by rw [HS4.out]; exact HS3.out⟩
                case measure => simp [intOf]; omega
            · obtain rfl : j = r0.length := by omega
              have HS4 : Hid (searchP (r0.take r0.length) = searchP r0) := Lib.hid (by rw [List.take_length])
              rw [HS4.out] at HS2
              clear p0 p1 p2 p3 p4 p5 f0 f1 f2 f3 f4 f5
              go_wp2
              go_roundw
              case rel => exact ⟨k + 1, _, _, hlt, by go_num, by rw [HStep.out]; exact HS2.out⟩
              case measure => simp [intOf]; omega
        · by_cases h3 : x = kOp
          · subst h3
            obtain ⟨s1, d1, rfl⟩ := HS.out.srv.shape
            obtain ⟨s2, d2, rfl⟩ := HS.out.sea.shape
            obtain ⟨⟨p0, p1, p2, p3, p4, p5⟩, ⟨f0, f1, f2, f3, f4, f5⟩⟩ := HS.out.cells
            have e1 : (kOp == [110, 97, 109, 101, 115, 101, 114, 118, 101, 114]) = false := by decide
            have e2 : (kOp == [115, 101, 97, 114, 99, 104]) = false := by decide
            have e3 : (kOp == [111, 112, 116, 105, 111, 110, 115]) = true := by decide
            have HL : Hid (lineS S (kOp :: r0) = r0.foldl optS S) := Lib.hid (by rw [lineS_cons, if_neg (by decide), if_neg (by decide), if_pos rfl])
            rw [HL.out] at HStep
            have hsr : ∀ (r : List (List UInt8)) (S : SetL), (r.foldl optS S).servers = S.servers ∧ (r.foldl optS S).search = S.search := by
              intro r
              induction r with
              | nil => intro S; exact ⟨rfl, rfl⟩
              | cons w r ih => intro S; exact ih (optS S w)
            have HSr := Lib.hid hsr
            clear p0 p1 p2 p3 p4 p5 f0 f1 f2 f3 f4 f5 hsr
            go_wp2
            go_loopw [13] (fun iv wr => ∃ (j : Nat), j ≤ r0.length ∧ iv = .int .i64 ((j + 1 : Nat) : Int) ∧ SetAt w2 w2.heap.size (w.heap.size + 1) (.slice s1 S.servers.length d1) (.slice s2 S.search.length d2) ((r0.take j).foldl optS S) wr) (fun iv _ => r0.length + 1 - (intOf iv).toNat)
            case atStart => exact ⟨0, Nat.zero_le _, rfl, HS.out⟩
            case round =>
              obtain ⟨j, hj, rfl, hS2⟩ := hrel
              have HS2 := Lib.hid hS2
              clear hS2
              by_cases hjl : j < r0.length
              · obtain ⟨y, hy⟩ : ∃ y, r0[j]? = some y := ⟨_, List.getElem?_eq_getElem hjl⟩
                have HY : Hid ((kOp :: r0)[j + 1]? = some y) := Lib.hid (by simpa using hy)
                have hyc := HWd.out wr HS2.out.kp (j + 1) y HY.out
                have hyl := HWz.out y (List.mem_cons_of_mem _ (List.mem_of_getElem? hy))
                have HOp : Hid ((r0.take (j + 1)).foldl optS S = optS ((r0.take j).foldl optS S) y) := Lib.hid (by rw [takeH hy, opts_snoc])
                obtain ⟨hr1, hr2⟩ := HSr.out (r0.take j) S
                obtain ⟨R, hR⟩ : ∃ R, (r0.take j).foldl optS S = R := ⟨_, rfl⟩
                rw [hR] at HS2 HOp hr1 hr2
                have HS3 : Hid (SetAt w2 w2.heap.size (w.heap.size + 1) (.slice s1 S.servers.length d1) (.slice s2 S.search.length d2) ⟨S.servers, S.search, R.dots, R.tmo, R.att, R.rot⟩ wr) := Lib.hid (by
                  have h := HS2.out
                  obtain ⟨r1, r2, r3, r4, r5, r6⟩ := R
                  simp only at hr1 hr2 ⊢
                  subst hr1 hr2
                  exact h)
                have HOr : Hid (optS R y = ⟨S.servers, S.search, (optN y kNd 0 15).getD R.dots, (optN y kTi 1 30).getD R.tmo, (optN y kAt 1 5).getD R.att, R.rot || decide (y = kRo)⟩) := Lib.hid (by unfold optS; rw [hr1, hr2])
                rw [HOr.out] at HOp
                have HO1 : Hid (∀ V, Calls Tryz.prog 18 #[.string ⟨y.toArray⟩, .string ⟨#[110, 100, 111, 116, 115, 58]⟩, .int .i64 0, .int .i64 15] V (OptR (optN y kNd 0 15) V)) := Lib.hid (fun V => ropt_any ⟨y.toArray⟩ ⟨#[110, 100, 111, 116, 115, 58]⟩ 0 15 V (by show y.length ≤ 1000000; omega) (by decide))
                have HO2 : Hid (∀ V, Calls Tryz.prog 18 #[.string ⟨y.toArray⟩, .string ⟨#[116, 105, 109, 101, 111, 117, 116, 58]⟩, .int .i64 1, .int .i64 30] V (OptR (optN y kTi 1 30) V)) := Lib.hid (fun V => ropt_any ⟨y.toArray⟩ ⟨#[116, 105, 109, 101, 111, 117, 116, 58]⟩ 1 30 V (by show y.length ≤ 1000000; omega) (by decide))
                have HO3 : Hid (∀ V, Calls Tryz.prog 18 #[.string ⟨y.toArray⟩, .string ⟨#[97, 116, 116, 101, 109, 112, 116, 115, 58]⟩, .int .i64 1, .int .i64 5] V (OptR (optN y kAt 1 5) V)) := Lib.hid (fun V => ropt_any ⟨y.toArray⟩ ⟨#[97, 116, 116, 101, 109, 112, 116, 115, 58]⟩ 1 5 V (by show y.length ≤ 1000000; omega) (by decide))
                obtain ⟨⟨p0, p1, p2, p3, p4, p5⟩, ⟨f0, f1, f2, f3, f4, f5⟩⟩ := HS3.out.cells
                have hjk : ((j + 1 : Nat) : Int) < ((r0.length + 1 : Nat) : Int) := by omega
                clear hy hr1 hr2 hR HOr HS2
                unfold OptR at HO1 HO2 HO3
                generalize optN y kNd 0 15 = q1 at *
                generalize optN y kTi 1 30 = q2 at *
                generalize optN y kAt 1 5 = q3 at *
                go_upto_if 105 with (go_at_call 18; with_reducible refine (HO1.out _).mono ?_; rintro e w3 ⟨x1, rfl, hx, rfl⟩; have HX1 := Lib.hid hx; clear hx)
                go_cut [] from 106 to 107 (fun wx => SetAt w2 w2.heap.size (w.heap.size + 1) (.slice s1 S.servers.length d1) (.slice s2 S.search.length d2) ⟨S.servers, S.search, (q1.getD R.dots), R.tmo, R.att, R.rot⟩ wx)
                · cases q1 with
                  | none =>
                    simp only [Option.isSome_none]
                    go_wp2
                    go_meet
                    exact HS3.out
                  | some u =>
                    obtain rfl := HX1.out u rfl
                    simp only [Option.isSome_some]
                    go_wp2
                    go_meet
                    exact HS3.out.setN _
                have HS4 := Lib.hid hcut
                clear hcut p0 p1 p2 p3 p4 p5 f0 f1 f2 f3 f4 f5 HX1
                obtain ⟨⟨p0, p1, p2, p3, p4, p5⟩, ⟨f0, f1, f2, f3, f4, f5⟩⟩ := HS4.out.cells
                have hyc := HWd.out _ HS4.out.kp (j + 1) y HY.out
                go_upto_if 116 with (go_at_call 18; with_reducible refine (HO2.out _).mono ?_; rintro e w3 ⟨x2, rfl, hx, rfl⟩; have HX2 := Lib.hid hx; clear hx)
                go_cut [] from 117 to 118 (fun wx => SetAt w2 w2.heap.size (w.heap.size + 1) (.slice s1 S.servers.length d1) (.slice s2 S.search.length d2) ⟨S.servers, S.search, (q1.getD R.dots), (q2.getD R.tmo), R.att, R.rot⟩ wx)
                · cases q2 with
                  | none =>
                    simp only [Option.isSome_none]
                    go_wp2
                    go_meet
                    exact HS4.out
                  | some u =>
                    obtain rfl := HX2.out u rfl
                    simp only [Option.isSome_some]
                    go_wp2
                    go_meet
                    exact HS4.out.setT _
                have HS5 := Lib.hid hcut
                clear hcut p0 p1 p2 p3 p4 p5 f0 f1 f2 f3 f4 f5 HX2
                obtain ⟨⟨p0, p1, p2, p3, p4, p5⟩, ⟨f0, f1, f2, f3, f4, f5⟩⟩ := HS5.out.cells
                have hyc := HWd.out _ HS5.out.kp (j + 1) y HY.out
                go_upto_if 127 with (go_at_call 18; with_reducible refine (HO3.out _).mono ?_; rintro e w3 ⟨x3, rfl, hx, rfl⟩; have HX3 := Lib.hid hx; clear hx)
                go_cut [] from 128 to 129 (fun wx => SetAt w2 w2.heap.size (w.heap.size + 1) (.slice s1 S.servers.length d1) (.slice s2 S.search.length d2) ⟨S.servers, S.search, (q1.getD R.dots), (q2.getD R.tmo), (q3.getD R.att), R.rot⟩ wx)
                · cases q3 with
                  | none =>
                    simp only [Option.isSome_none]
                    go_wp2
                    go_meet
                    exact HS5.out
                  | some u =>
                    obtain rfl := HX3.out u rfl
                    simp only [Option.isSome_some]
                    go_wp2
                    go_meet
                    exact HS5.out.setA _
                have HS6 := Lib.hid hcut
                clear hcut p0 p1 p2 p3 p4 p5 f0 f1 f2 f3 f4 f5 HX3
                obtain ⟨⟨p0, p1, p2, p3, p4, p5⟩, ⟨f0, f1, f2, f3, f4, f5⟩⟩ := HS6.out.cells
                have hyc := HWd.out _ HS6.out.kp (j + 1) y HY.out
                have HRo : (y == [114, 111, 116, 97, 116, 101]) = decide (y = kRo) := by unfold kRo; rw [Bool.eq_iff_iff]; simp only [beq_iff_eq, decide_eq_true_eq]
                cases hro : decide (y = kRo) with
                | true =>
                  rw [hro] at HRo HOp
                  cases hrr : R.rot with
                  | true =>
                    rw [hrr] at p5 HOp
                    go_wp2
                    go_roundw
                    case rel => exact ⟨j + 1, hjl, by go_num, by rw [HOp.out]; exact HS6.out.setR _⟩
                    case measure => simp [intOf]; omega
                  | false =>
                    rw [hrr] at p5 HOp
                    go_wp2
                    go_roundw
                    case rel => exact ⟨j + 1, hjl, by go_num, by rw [HOp.out]; exact HS6.out.setR _⟩
                    case measure => simp [intOf]; omega
                | false =>
                  rw [hro] at HRo HOp
                  cases hrr : R.rot with
                  | true =>
                    rw [hrr] at p5 HOp
                    go_wp2
                    go_roundw
                    case rel => exact ⟨j + 1, hjl, by go_num, by rw [HOp.out]; exact HS6.out.setR _⟩
                    case measure => simp [intOf]; omega
                  | false =>
                    rw [hrr] at p5 HOp
                    go_wp2
                    go_roundw
                    case rel => exact ⟨j + 1, hjl, by go_num, by rw [HOp.out]; exact HS6.out.setR _⟩
                    case measure => simp [intOf]; omega
              · obtain rfl : j = r0.length := by omega
                have HS4 : Hid (r0.take r0.length = r0) := Lib.hid (by rw [List.take_length])
                rw [HS4.out] at HS2
                go_wp2
                go_roundw
                case rel => exact ⟨k + 1, _, _, hlt, by go_num, by rw [HStep.out]; exact HS2.out⟩
                case measure => simp [intOf]; omega
          · have e1 : (x == [110, 97, 109, 101, 115, 101, 114, 118, 101, 114]) = false := by simpa [kNs] using h1
            have e2 : (x == [115, 101, 97, 114, 99, 104]) = false := by simpa [kSe] using h2
            have e3 : (x == [111, 112, 116, 105, 111, 110, 115]) = false := by simpa [kOp] using h3
            have HL : Hid (lineS S (x :: r0) = S) := Lib.hid (by rw [lineS_cons, if_neg h1, if_neg h2, if_neg h3])
            rw [HL.out] at HStep
            clear h1 h2 h3 HL
            go_wp2
            go_roundw
            case rel => exact ⟨k + 1, v1, v2, hlt, by go_num, by rw [HStep.out]; exact HS.out⟩
            case measure => simp [intOf]; omega
    · obtain rfl : k = T.length := by omega
      have hsz := HSz.out
      have hsl : Hid (setupP (T.take T.length) = setupP T) := Lib.hid (by rw [List.take_length])
      rw [hsl.out] at HS
      generalize setupP T = S at *
      have hz : wr.heap[w.heap.size]? = some (.cells #[.slice none 0 0, .slice none 0 0, .int .i64 0, .int .i64 0, .int .i64 0, .bool false] 28 (0, 0)) := (HS.out.kp.block _ (by omega) (by omega)).trans HZ.out
      have HZr := Lib.hid hz
      have HBf : Hid (Below w.heap.size w wr) := Lib.hid (((HBW.out.trans (HB2.out.mono (by omega)))).trans (HS.out.kp.bel (by omega) (by omega)))
      obtain ⟨s1, d1, rfl⟩ := HS.out.srv.shape
      obtain ⟨s2, d2, rfl⟩ := HS.out.sea.shape
      obtain ⟨⟨p0, p1, p2, p3, p4, p5⟩, _⟩ := HS.out.cells
      have z0 : wr.cell? ⟨w.heap.size, 0, none⟩ = some (.slice none 0 0) := by simp [World.cell?, hz]
      have z1 : wr.cell? ⟨w.heap.size, 1, none⟩ = some (.slice none 0 0) := by simp [World.cell?, hz]
      have z2 : wr.cell? ⟨w.heap.size, 2, none⟩ = some (.int .i64 0) := by simp [World.cell?, hz]
      have z3 : wr.cell? ⟨w.heap.size, 3, none⟩ = some (.int .i64 0) := by simp [World.cell?, hz]
      have z4 : wr.cell? ⟨w.heap.size, 4, none⟩ = some (.int .i64 0) := by simp [World.cell?, hz]
      have z5 : wr.cell? ⟨w.heap.size, 5, none⟩ = some (.bool false) := by simp [World.cell?, hz]
      have y0 : wr.frozen? ⟨w.heap.size, 0, none⟩ = false := by simp [World.frozen?, hz]
      have y1 : wr.frozen? ⟨w.heap.size, 1, none⟩ = false := by simp [World.frozen?, hz]
      have y2 : wr.frozen? ⟨w.heap.size, 2, none⟩ = false := by simp [World.frozen?, hz]
      have y3 : wr.frozen? ⟨w.heap.size, 3, none⟩ = false := by simp [World.frozen?, hz]
      have y4 : wr.frozen? ⟨w.heap.size, 4, none⟩ = false := by simp [World.frozen?, hz]
      have y5 : wr.frozen? ⟨w.heap.size, 5, none⟩ = false := by simp [World.frozen?, hz]
      have hlow : Hid (w.heap.size < w2.heap.size) := Lib.hid (by omega)
      clear hz hsz hk
      go_wp2
      refine bodyPost_ret (results_rowE rfl _ _ w.heap.size _ _ _ _ rfl (setE_eq (setE_eq (setE_eq (setE_eq (setE_eq (setE_eq HZr.out)))))) Tryz.underlying28 rfl sz_set) rfl ?_
      refine ⟨_, rfl, ⟨_, _, rfl, ?_, ?_⟩, belE_set (belE_set (belE_set (belE_set (belE_set (belE_set HBf.out (Nat.le_refl _) _ _) (Nat.le_refl _) _ _) (Nat.le_refl _) _ _) (Nat.le_refl _) _ _) (Nat.le_refl _) _ _) (Nat.le_refl _) _ _⟩
      · exact strc_less (strc_set (strc_set (strc_set (strc_set (strc_set (strc_set HS.out.srv hlow.out) hlow.out) hlow.out) hlow.out) hlow.out) hlow.out) (Nat.le_of_lt hlow.out)
      · exact strc_less (strc_set (strc_set (strc_set (strc_set (strc_set (strc_set HS.out.sea hlow.out) hlow.out) hlow.out) hlow.out) hlow.out) hlow.out) (Nat.le_of_lt hlow.out)
end Go.Proofs.YtfmnemcnonbkfaaGreatDoor

namespace Go.Proofs.YtfmnemcnonbkfaaGreatDoor
open Go.RowKit Go.Lib Go.Tx
theorem num_len (s : ByteArray) (m : Int) (w : World) (hs : s.size ≤ maxLen) (h : 9 < s.size) :
    Calls Tryz.prog 44 #[.string s, .int .i64 m] w fun e w' => e = .returned (.tuple #[.int .i64 0, .bool false]) ∧ w' = w := by
  unfold maxLen at hs
  go_enter Tryz.func44, Tryz.ntmps44
  go_wp2
  all_goals (go_ret2; exact ⟨rfl, rfl⟩)
theorem num_nil (s : ByteArray) (m : Int) (w : World) (h : s.size = 0) :
    Calls Tryz.prog 44 #[.string s, .int .i64 m] w fun e w' => e = .returned (.tuple #[.int .i64 0, .bool false]) ∧ w' = w := by
  have h1 : s.toList = [] := by
    cases hh : s.toList with
    | nil => rfl
    | cons a l => rw [toList_data] at hh; have := congrArg List.length hh; simp at this; omega
  go_enter Tryz.func44, Tryz.ntmps44
  go_wp2
  all_goals (go_ret2; exact ⟨rfl, rfl⟩)
theorem conv_any (s : ByteArray) (w : World) : ∃ (cap : Nat) (C : Array Value), (convert 9 22 (.string s)).run Tryz.prog w = .ok (.slice (some ⟨w.heap.size, 0, none⟩) s.size cap) (w.drew.alloc (.cells C 5 (C.size, C.size + 1))) ∧
    C.size = cap ∧ s.size ≤ cap ∧ (∀ (k : Nat) (h : k < s.size), C[k]? = some (.int .u8 (s[k].toNat : Int))) ∧ (∀ k, s.size ≤ k → k < cap → C[k]? = some (.int .u8 0)) := by
  have hge := grownCap_ge w s.size 0 5
  refine ⟨grownCap w s.size 0 5, bytesRow s (grownCap w s.size 0 5), run_bytes_of_string w 9 22 5 s Tryz.underlying9 Tryz.underlying22 Tryz.underlying5, ?_, hge, fun k h => ?_, fun k h1 h2 => ?_⟩
  · have : s.data.size = s.size := rfl
    simp [bytesRow, this]; omega
  · exact bytesRow_at s _ k h
  · have : s.data.size = s.size := rfl
    simp only [bytesRow]
    rw [Array.getElem?_append, if_neg (by simp [this]; omega)]
    rw [Array.getElem?_replicate, if_pos (by simp [this]; omega)]
theorem cell_new {w : World} {C : Array Value} {e : TypeId} {fr : Nat × Nat} {k : Nat} {v : Value} (h : C[k]? = some v) : (w.alloc (.cells C e fr)).cell? ⟨w.heap.size, k, none⟩ = some v := by
  rw [World.cell?_alloc_mark]; exact h
theorem head_ok (s : ByteArray) (h1 : 1 ≤ s.size) (h0 : ((s[0].toNat : Int) == 48) = false ∨ (((s[0].toNat : Int) == 48) = true ∧ (!s.toList == [48]) = false)) : ¬ (s.data.toList.head? = some 48 ∧ 1 < s.data.toList.length) := by
  rintro ⟨h2, h3⟩
  rw [head_eq s h1] at h2
  rcases h0 with h0 | ⟨_, h0⟩
  · rw [u8_48] at h0
    simp at h0 h2
    exact h0 h2
  · rw [toList_data] at h0
    simp at h0
    rw [h0] at h3
    simp at h3
set_option maxRecDepth 100000 in
theorem num_zero (s : ByteArray) (m : Int) (w : World) (h1 : 1 < s.size) (h9 : s.size ≤ 9) (h0 : ((s[0].toNat : Int) == 48) = true) :
    Calls Tryz.prog 44 #[.string s, .int .i64 m] w fun e w' => e = .returned (.tuple #[.int .i64 0, .bool false]) ∧ w' = w := by
  have hl : s.toList.length = s.size := by rw [toList_data]; rfl
  have e1 : s.toList.isEmpty = false := by
    cases hh : s.toList with
    | nil => rw [hh] at hl; simp at hl; omega
    | cons a l => rfl
  have e2 : ¬ s.toList = [] := by
    intro hh; rw [hh] at hl; simp at hl; omega
  have e3 : (!s.toList == [48]) = true := by
    simp only [Bool.not_eq_true', beq_eq_false_iff_ne]
    intro hh; rw [hh] at hl; simp at hl; omega
  clear hl
  go_enter Tryz.func44, Tryz.ntmps44
  go_wp2
  all_goals (go_ret2; exact ⟨rfl, rfl⟩)
set_option maxHeartbeats 1000000 in
set_option maxRecDepth 100000 in
theorem num_loop (s : ByteArray) (m : Int) (w : World) (h1 : 1 ≤ s.size) (h9 : s.size ≤ 9) (h0 : ((s[0].toNat : Int) == 48) = false ∨ (((s[0].toNat : Int) == 48) = true ∧ (!s.toList == [48]) = false)) :
    Calls Tryz.prog 44 #[.string s, .int .i64 m] w fun e w' => e = .returned (.tuple #[.int .i64 (numRes s.data.toList m).1, .bool (numRes s.data.toList m).2]) ∧ Below w.heap.size w w' := by
  have hl : s.toList.length = s.size := by rw [toList_data]; rfl
  have e1 : s.toList.isEmpty = false := by
    cases hh : s.toList with
    | nil => rw [hh] at hl; simp at hl; omega
    | cons a l => rfl
  have e2 : ¬ s.toList = [] := by
    intro hh; rw [hh] at hl; simp at hl; omega
  clear hl
  obtain ⟨cap, C, hconv, hC1, hC2, hC3, _⟩ := conv_any s w
  have HC1 := Lib.hid hC1
  have HC3 := Lib.hid hC3
  clear hC1 hC3
  have HZ : Hid (¬ (s.data.toList.head? = some 48 ∧ 1 < s.data.toList.length)) := Lib.hid (head_ok s h1 h0)
  rcases h0 with h0 | ⟨h0, h0'⟩
  all_goals
    go_enter Tryz.func44, Tryz.ntmps44
    go_wp2
    go_loop [6, 28] (fun n i => ∃ k : Nat, k ≤ s.size ∧ i = .int .i64 k ∧ n = .int .i64 (val (s.data.toList.take k)) ∧ (s.data.toList.take k).all dig = true) (fun _ i => s.size - (intOf i).toNat)
    case atStart => exact ⟨0, Nat.zero_le _, rfl, rfl, rfl⟩
    case round =>
      obtain ⟨k, hk, rfl, rfl, hall⟩ := hrel
      have hbd := val_bd s k hall h9
      have HALL := Lib.hid hall
      clear hall
      by_cases hlt : k < s.size
      · have hcell := cell_new (w := w) (e := 5) (fr := (C.size, C.size + 1)) (HC3.out k hlt)
        by_cases hlo : (s[k].toNat : Int) < 48
        · go_wp2
          go_ret2
          exact ⟨ret_num (numRes_no _ _ (all_no s k hlt (dig_lo _ hlo))), ((Below.refl _ _).alloc (Nat.le_refl _) _).drew⟩
        · by_cases hhi : 57 < (s[k].toNat : Int)
          · have hlo : 48 ≤ (s[k].toNat : Int) := by omega
            go_wp2
            go_ret2
            exact ⟨ret_num (numRes_no _ _ (all_no s k hlt (dig_hi _ hhi))), ((Below.refl _ _).alloc (Nat.le_refl _) _).drew⟩
          · have hlo : 48 ≤ (s[k].toNat : Int) := by omega
            have hhi : (s[k].toNat : Int) ≤ 57 := by omega
            have HS := Lib.hid (val_step s k hlt (dig_of _ hlo hhi))
            have HA := Lib.hid (all_step s k hlt)
            have hk1 : k + 1 ≤ s.size := hlt
            have HK1 := Lib.hid hk1
            clear hk1
            go_wp2
            go_round
            case rel => exact ⟨k + 1, HK1.out, by go_num, by rw [HS.out], by rw [HA.out, HALL.out, dig_of _ hlo hhi]; rfl⟩
            case measure => simp [intOf]; omega
      · go_wp2
        all_goals
          go_ret2
          have hkk : k = s.size := by omega
          have hall : s.data.toList.all dig = true := by rw [← take_all s k (by omega)]; exact HALL.out
          refine ⟨ret_num ?_, ((Below.refl _ _).alloc (Nat.le_refl _) _).drew⟩
          have ht := take_all s k (by omega)
          rw [numRes_ok _ _ h1 h9 HZ.out hall]
          try rw [ht]
          rw [← ht]
          first | rw [if_pos (by assumption)] | rw [if_neg (by omega)]
end Go.Proofs.YtfmnemcnonbkfaaGreatDoor

namespace Go.Proofs.YtfmnemcnonbkfaaGreatDoor
open Go.RowKit Go.Lib Go.Tx
theorem num_any (s : ByteArray) (m : Int) (w : World) (hs : s.size ≤ maxLen) :
    Calls Tryz.prog 44 #[.string s, .int .i64 m] w fun e w' => e = .returned (.tuple #[.int .i64 (numRes s.data.toList m).1, .bool (numRes s.data.toList m).2]) ∧ Below w.heap.size w w' := by
  have hl := size_len s
  by_cases h0 : s.size = 0
  · refine (num_nil s m w h0).mono ?_
    rintro e w' ⟨rfl, rfl⟩
    exact ⟨ret_num (numRes_nil _ _ (List.eq_nil_of_length_eq_zero (by omega))), Below.refl _ _⟩
  by_cases h9 : 9 < s.size
  · refine (num_len s m w hs h9).mono ?_
    rintro e w' ⟨rfl, rfl⟩
    exact ⟨ret_num (numRes_len _ _ (by omega)), Below.refl _ _⟩
  cases hz : ((s[0].toNat : Int) == 48) with
  | false => exact num_loop s m w (by omega) (by omega) (.inl hz)
  | true =>
    by_cases h1 : 1 < s.size
    · refine (num_zero s m w h1 (by omega) hz).mono ?_
      rintro e w' ⟨rfl, rfl⟩
      refine ⟨ret_num (numRes_zero _ _ (by omega) ?_), Below.refl _ _⟩
      rw [head_eq s (by omega)]
      rw [u8_48] at hz
      rw [eq_of_beq hz]
    · refine num_loop s m w (by omega) (by omega) (.inr ⟨hz, ?_⟩)
      have h2 : s.data.toList = [s[0]] := by
        apply List.ext_getElem?
        intro j
        cases j with
        | zero => rw [List.getElem?_eq_getElem (by omega)]; rfl
        | succ j => rw [List.getElem?_eq_none (by omega), List.getElem?_eq_none (by simp)]
      rw [u8_48] at hz
      rw [toList_data, h2, eq_of_beq hz]
      rfl
end Go.Proofs.YtfmnemcnonbkfaaGreatDoor


namespace Go.Proofs.YtfmnemcnonbkfaaGreatDoor
open Go.RowKit Go.Lib Go.Tx
theorem number_any (s : ByteArray) (lo hi set : Int) (w : World) (hs : s.size ≤ maxLen) :
    Calls Tryz.prog 24 #[.string s, .int .i64 lo, .int .i64 hi, .int .i64 set] w fun e w' => e = .returned (.int .i64 (numV s.data.toList lo hi set)) ∧ Below w.heap.size w w' := by
  have HN := Lib.hid (num_any s hi w hs)
  unfold numV
  generalize numRes s.data.toList hi = R at *
  obtain ⟨x, u⟩ := R
  simp only at HN ⊢
  clear hs
  cases u with
  | false =>
    rw [if_neg (by simp)]
    go_enter Tryz.func24, Tryz.ntmps24
    go_wp2_with (go_at_call 44; refine HN.out.mono ?_; rintro e w2 ⟨rfl, hb⟩; have HB := Lib.hid hb; clear hb)
    go_ret
    exact ⟨rfl, HB.out⟩
  | true =>
    by_cases h3 : lo ≤ x
    · rw [if_pos ⟨rfl, h3⟩]
      have h3' : ¬ x < lo := by omega
      go_enter Tryz.func24, Tryz.ntmps24
      go_wp2_with (go_at_call 44; refine HN.out.mono ?_; rintro e w2 ⟨rfl, hb⟩; have HB := Lib.hid hb; clear hb)
      go_ret
      exact ⟨rfl, HB.out⟩
    · rw [if_neg (by rintro ⟨_, h⟩; exact h3 h)]
      have h3' : x < lo := by omega
      go_enter Tryz.func24, Tryz.ntmps24
      go_wp2_with (go_at_call 44; refine HN.out.mono ?_; rintro e w2 ⟨rfl, hb⟩; have HB := Lib.hid hb; clear hb)
      go_ret
      exact ⟨rfl, HB.out⟩

set_option maxHeartbeats 2000000 in
set_option maxRecDepth 100000 in
theorem setOption_any (a : World) (B b : Nat) (v1 v2 : Value) (S : SetL) (y : List UInt8) (w : World) (h : SetAt a B b v1 v2 S w) (hm : MaxAt w) (hy : y.length ≤ 100000) :
    Calls Tryz.prog 14 #[.pointer (some ⟨b, 0, none⟩), .string ⟨y.toArray⟩] w fun e w' => e = .returned (.tuple #[]) ∧ SetAt a B b v1 v2 (optS S y) w' := by
  rw [optS_optC]
  unfold optC
  obtain ⟨m, hm⟩ := hm
  have HS := Lib.hid h
  obtain ⟨⟨p0, p1, p2, p3, p4, p5⟩, ⟨f0, f1, f2, f3, f4, f5⟩⟩ := h.cells
  clear h
  by_cases hr : y = kRo
  · rw [if_pos hr]
    have e0 : (y == [114, 111, 116, 97, 116, 101]) = true := by rw [hr]; decide
    clear hr
    go_enter Tryz.func14, Tryz.ntmps14
    go_wp2
    refine bodyPost_ret (results_none rfl _ _ _) rfl ?_
    exact ⟨rfl, HS.out.setR _⟩
  · rw [if_neg hr]
    have e0 : (y == [114, 111, 116, 97, 116, 101]) = false := by simpa [kRo] using hr
    obtain ⟨hl1, hl2⟩ := cutC_len y
    obtain ⟨X, hX⟩ : ∃ X : ByteArray, (⟨(cutC y).1.toArray⟩ : ByteArray) = X := ⟨_, rfl⟩
    obtain ⟨Y, hY⟩ : ∃ Y : ByteArray, (⟨(cutC y).2.toArray⟩ : ByteArray) = Y := ⟨_, rfl⟩
    have hXd : X.data.toList = (cutC y).1 := by rw [← hX]
    have hYd : Y.data.toList = (cutC y).2 := by rw [← hY]
    have hYs : Y.size ≤ maxLen := by
      have : Y.data.toList.length = Y.size := rfl
      rw [hYd] at this
      unfold maxLen
      omega
    have HC : Hid (∀ W : World, W = w → Calls Tryz.prog 23 #[.string ⟨y.toArray⟩, .string ⟨#[58]⟩] W fun e w' => ∃ x3, e = .returned (.tuple #[.string X, .string Y, x3]) ∧ ∃ q, w' = W.drewN q) := Lib.hid (fun W hW => by
      subst hW
      refine (Tryz.strings_Cut ⟨y.toArray⟩ ⟨#[58]⟩ m W (by show y.length < _; omega) hm).mono fun e w' h => ⟨.bool (Lib.cut y [58]).2.2, ?_, h.2⟩
      rw [h.1, ← hX, ← hY]
      rfl)
    have HN : Hid (∀ (lo hi set : Int) (W : World), Calls Tryz.prog 24 #[.string Y, .int .i64 lo, .int .i64 hi, .int .i64 set] W fun e w' => e = .returned (.int .i64 (numV (cutC y).2 lo hi set)) ∧ Below W.heap.size W w') := Lib.hid (fun lo hi set W => by
      have := number_any Y lo hi set W hYs
      rw [hYd] at this
      exact this)
    generalize (cutC y).2 = vy at *
    generalize (cutC y).1 = ky at *
    have eX : ∀ l : List UInt8, (X.toList == l) = decide (ky = l) := fun l => by
      rw [Go.Lib.toList_data, hXd, Bool.eq_iff_iff]
      simp only [beq_iff_eq, decide_eq_true_eq]
    clear hX hY hXd hYd hYs hl1 hl2 hm hr
    by_cases h1 : ky = kNd5
    · have e1 : (X.toList == [110, 100, 111, 116, 115]) = true := by rw [eX]; exact decide_eq_true h1
      rw [if_pos h1]
      clear h1 eX
      go_enter Tryz.func14, Tryz.ntmps14
      go_wp2_with (first | (go_at_call 23; refine (HC.out _ rfl).mono ?_; rintro e w2 ⟨x3, rfl, q, rfl⟩; have HS2 : Hid (SetAt a B b v1 v2 S (w.drewN q)) := Lib.hid (HS.out.below (below_drewN' (Below.refl _ _) q)); obtain ⟨⟨n0, n1, n2, n3, n4, n5⟩, ⟨g0, g1, g2, g3, g4, g5⟩⟩ := HS2.out.cells) | (go_at_call 24; refine (HN.out _ _ _ _).mono ?_; rintro e w3 ⟨rfl, hb⟩; have HS3 := Lib.hid (HS2.out.below hb); obtain ⟨⟨m0, m1, m2, m3, m4, m5⟩, ⟨l0, l1, l2, l3, l4, l5⟩⟩ := HS3.out.cells; clear hb))
      go_end0
      exact ⟨rfl, HS3.out.setN _⟩
    · have e1 : (X.toList == [110, 100, 111, 116, 115]) = false := by rw [eX]; exact decide_eq_false h1
      rw [if_neg h1]
      by_cases h2 : ky = kTi7
      · have e2 : (X.toList == [116, 105, 109, 101, 111, 117, 116]) = true := by rw [eX]; exact decide_eq_true h2
        rw [if_pos h2]
        clear h1 h2 eX
        go_enter Tryz.func14, Tryz.ntmps14
        go_wp2_with (first | (go_at_call 23; refine (HC.out _ rfl).mono ?_; rintro e w2 ⟨x3, rfl, q, rfl⟩; have HS2 : Hid (SetAt a B b v1 v2 S (w.drewN q)) := Lib.hid (HS.out.below (below_drewN' (Below.refl _ _) q)); obtain ⟨⟨n0, n1, n2, n3, n4, n5⟩, ⟨g0, g1, g2, g3, g4, g5⟩⟩ := HS2.out.cells) | (go_at_call 24; refine (HN.out _ _ _ _).mono ?_; rintro e w3 ⟨rfl, hb⟩; have HS3 := Lib.hid (HS2.out.below hb); obtain ⟨⟨m0, m1, m2, m3, m4, m5⟩, ⟨l0, l1, l2, l3, l4, l5⟩⟩ := HS3.out.cells; clear hb))
        go_end0
        exact ⟨rfl, HS3.out.setT _⟩
      · have e2 : (X.toList == [116, 105, 109, 101, 111, 117, 116]) = false := by rw [eX]; exact decide_eq_false h2
        rw [if_neg h2]
        by_cases h3 : ky = kAt8
        · have e3 : (X.toList == [97, 116, 116, 101, 109, 112, 116, 115]) = true := by rw [eX]; exact decide_eq_true h3
          rw [if_pos h3]
          clear h1 h2 h3 eX
          go_enter Tryz.func14, Tryz.ntmps14
          go_wp2_with (first | (go_at_call 23; refine (HC.out _ rfl).mono ?_; rintro e w2 ⟨x3, rfl, q, rfl⟩; have HS2 : Hid (SetAt a B b v1 v2 S (w.drewN q)) := Lib.hid (HS.out.below (below_drewN' (Below.refl _ _) q)); obtain ⟨⟨n0, n1, n2, n3, n4, n5⟩, ⟨g0, g1, g2, g3, g4, g5⟩⟩ := HS2.out.cells) | (go_at_call 24; refine (HN.out _ _ _ _).mono ?_; rintro e w3 ⟨rfl, hb⟩; have HS3 := Lib.hid (HS2.out.below hb); obtain ⟨⟨m0, m1, m2, m3, m4, m5⟩, ⟨l0, l1, l2, l3, l4, l5⟩⟩ := HS3.out.cells; clear hb))
          go_end0
          exact ⟨rfl, HS3.out.setA _⟩
        · have e3 : (X.toList == [97, 116, 116, 101, 109, 112, 116, 115]) = false := by rw [eX]; exact decide_eq_false h3
          rw [if_neg h3]
          clear h1 h2 h3 eX
          go_enter Tryz.func14, Tryz.ntmps14
          go_wp2_with ((go_at_call 23; refine (HC.out _ rfl).mono ?_; rintro e w2 ⟨x3, rfl, q, rfl⟩; have HS2 : Hid (SetAt a B b v1 v2 S (w.drewN q)) := Lib.hid (HS.out.below (below_drewN' (Below.refl _ _) q)); obtain ⟨⟨n0, n1, n2, n3, n4, n5⟩, ⟨g0, g1, g2, g3, g4, g5⟩⟩ := HS2.out.cells))
          go_end0
          exact ⟨rfl, HS2.out⟩
end Go.Proofs.YtfmnemcnonbkfaaGreatDoor

namespace Go.Tx
open Go.Lib
end Go.Tx
namespace Go.Tx
open Go.Lib
/-! ### A text cut at a byte, some times at most -/
theorem pre_len (x : List UInt8) (l : List (List UInt8)) : (pre x l).length = l.length := by cases l <;> rfl
theorem splitG_ne (c : UInt8) (l cur : List UInt8) : splitG c cur l ≠ [] := fun h => by
  have := (splitG_len c l cur).1
  rw [h] at this
  simp at this
theorem splitL_eq (c : UInt8) (l : List UInt8) : splitL c (c :: l) = [] :: splitL c l := by simp [splitL, splitG]
theorem splitL_pre {b c : UInt8} (h : b ≠ c) (l : List UInt8) : splitL c (b :: l) = pre [b] (splitL c l) := by
  rw [splitL, splitL, splitG, if_neg h]
  exact splitG_pre c [b] l []
theorem splitL_len (c : UInt8) (l : List UInt8) : 1 ≤ (splitL c l).length ∧ (splitL c l).length ≤ l.length + 1 := splitG_len c l []
theorem splitK_nil (c : UInt8) (k : Nat) : splitK [c] 0 k [] = [[]] := by cases k <;> rfl
theorem splitK_eq (c : UInt8) (k : Nat) (l : List UInt8) : splitK [c] 0 (k + 1) (c :: l) = [] :: splitK [c] 0 k l := by
  have hix : index (c :: l) [c] = 0 := by rw [index]; simp [List.isPrefixOf]
  rw [splitK, hix]
  simp
theorem splitK_few (c : UInt8) : ∀ (l : List UInt8) (k : Nat), (splitL c l).length ≤ k + 1 → splitK [c] 0 k l = splitL c l
  | [], k, _ => by rw [splitK_nil]; rfl
  | b :: l, k, h => by
    by_cases e : b = c
    · subst e
      rw [splitL_eq] at h ⊢
      have := (splitL_len b l).1
      simp only [List.length_cons] at h
      obtain ⟨j, rfl⟩ : ∃ j, k = j + 1 := ⟨k - 1, by omega⟩
      rw [splitK_eq, splitK_few b l j (by omega)]
    · rw [splitL_pre e] at h ⊢
      rw [pre_len] at h
      rw [splitK_pre e, splitK_few c l k h]
theorem splitK_many (c : UInt8) : ∀ (l : List UInt8) (k : Nat), k + 1 < (splitL c l).length → (splitK [c] 0 k l).length = k + 1 ∧ ∃ q x, splitK [c] 0 k l = q ++ [x] ∧ c ∈ x
  | [], k, h => by simp [splitL, splitG] at h
  | b :: l, k, h => by
    by_cases e : b = c
    · subst e
      rw [splitL_eq] at h
      simp only [List.length_cons] at h
      cases k with
      | zero => exact ⟨rfl, [], b :: l, rfl, by simp⟩
      | succ k =>
        obtain ⟨h1, q, x, h2, h3⟩ := splitK_many b l k (by omega)
        rw [splitK_eq]
        exact ⟨by rw [List.length_cons, h1], [] :: q, x, by rw [h2]; rfl, h3⟩
    · rw [splitL_pre e, pre_len] at h
      obtain ⟨h1, q, x, h2, h3⟩ := splitK_many c l k h
      rw [splitK_pre e]
      refine ⟨by rw [pre_len, h1], ?_⟩
      rw [h2]
      cases q with
      | nil => exact ⟨[], [b] ++ x, rfl, by simp [h3]⟩
      | cons y q => exact ⟨([b] ++ y) :: q, x, rfl, h3⟩
/-- strings.SplitN at one byte. -/
def cutN (c : UInt8) (n : Nat) (l : List UInt8) : List (List UInt8) := splitK [c] 0 (min n (l.length + 1) - 1) l
theorem cutN_few (c : UInt8) (n : Nat) (l : List UInt8) (h : (splitL c l).length ≤ n) : cutN c n l = splitL c l := by
  have := (splitL_len c l)
  exact splitK_few c l _ (by omega)
theorem cutN_many (c : UInt8) (n : Nat) (l : List UInt8) (hn : 1 ≤ n) (h : n < (splitL c l).length) : (cutN c n l).length = n ∧ ∃ q x, cutN c n l = q ++ [x] ∧ c ∈ x := by
  have := (splitL_len c l)
  obtain ⟨h1, h2⟩ := splitK_many c l (min n (l.length + 1) - 1) (by omega)
  exact ⟨by unfold cutN; rw [h1]; omega, h2⟩
theorem cutN_len (c : UInt8) (n : Nat) (l : List UInt8) (hn : 1 ≤ n) : 1 ≤ (cutN c n l).length ∧ (cutN c n l).length ≤ n := by
  by_cases h : (splitL c l).length ≤ n
  · rw [cutN_few c n l h]; exact ⟨(splitL_len c l).1, h⟩
  · rw [(cutN_many c n l hn (by omega)).1]; exact ⟨hn, Nat.le_refl _⟩
theorem splitK_mem (c : UInt8) : ∀ (k : Nat) (l x : List UInt8), x ∈ splitK [c] 0 k l → x.length ≤ l.length
  | 0, l, x, h => by simp [splitK] at h; subst h; exact Nat.le_refl _
  | k + 1, l, x, h => by
    unfold splitK at h
    split at h
    · simp at h; subst h; exact Nat.le_refl _
    · rcases List.mem_cons.1 h with h | h
      · subst h; rw [List.length_take]; omega
      · have := splitK_mem c k _ x h
        rw [List.length_drop] at this
        omega
theorem cutN_mem {c : UInt8} {n : Nat} {l x : List UInt8} (h : x ∈ cutN c n l) : x.length ≤ l.length := splitK_mem c _ l x h
/-- Five parts at most: four of them are all. -/
theorem cutN_four (l : List UInt8) (h : (cutN 46 5 l).length = 4) : cutN 46 5 l = splitL 46 l := by
  by_cases h2 : (splitL 46 l).length ≤ 5
  · exact cutN_few _ _ _ h2
  · have := (cutN_many 46 5 l (by omega) (by omega)).1; omega
theorem cutN_notfour (l : List UInt8) (h : (cutN 46 5 l).length ≠ 4) : fourP (splitL 46 l) = none := by
  unfold fourP
  rw [if_neg]
  rintro ⟨h2, _⟩
  rw [cutN_few 46 5 l (by omega)] at h
  exact h h2
/-! ### What stands in pieces -/
theorem splitG_cur (c : UInt8) : ∀ (l cur : List UInt8), ∃ x r, splitG c cur l = (cur ++ x) :: r
  | [], cur => ⟨[], [], by simp [splitG]⟩
  | d :: l, cur => by
    unfold splitG
    split
    · exact ⟨[], splitG c [] l, by simp⟩
    · obtain ⟨x, r, h⟩ := splitG_cur c l (cur ++ [d])
      exact ⟨d :: x, r, by rw [h]; simp⟩
/-- A byte that is not the one at which is cut stands in some piece. -/
theorem splitG_has {c d : UInt8} (hcd : d ≠ c) : ∀ (l cur : List UInt8), d ∈ l → ∃ x ∈ splitG c cur l, d ∈ x
  | e :: l, cur, h => by
    unfold splitG
    by_cases hd : d = e
    · subst hd
      rw [if_neg hcd]
      obtain ⟨x, r, h2⟩ := splitG_cur c l (cur ++ [d])
      exact ⟨_, by rw [h2]; exact List.mem_cons_self, by simp⟩
    · have hl : d ∈ l := by
        rcases List.mem_cons.1 h with h | h
        · exact absurd h hd
        · exact h
      split
      · obtain ⟨x, hx, h3⟩ := splitG_has hcd l [] hl
        exact ⟨x, List.mem_cons_of_mem _ hx, h3⟩
      · exact splitG_has hcd l _ hl
/-- Pieces hold nothing that the text doesn't. -/
theorem splitG_sub {c d : UInt8} : ∀ (l cur x : List UInt8), x ∈ splitG c cur l → d ∈ x → d ∈ cur ∨ d ∈ l
  | [], cur, x, h, hd => by
    simp [splitG] at h
    subst h
    exact .inl hd
  | e :: l, cur, x, h, hd => by
    unfold splitG at h
    split at h
    · rcases List.mem_cons.1 h with h | h
      · subst h; exact .inl hd
      · rcases splitG_sub l [] x h hd with h | h
        · cases h
        · exact .inr (List.mem_cons_of_mem _ h)
    · rcases splitG_sub l _ x h hd with h | h
      · rcases List.mem_append.1 h with h | h
        · exact .inl h
        · rw [List.mem_singleton] at h; subst h; exact .inr List.mem_cons_self
      · exact .inr (List.mem_cons_of_mem _ h)
theorem splitG_none {c : UInt8} : ∀ (l cur : List UInt8), ¬ c ∈ l → splitG c cur l = [cur ++ l]
  | [], cur, _ => by simp [splitG]
  | e :: l, cur, h => by
    simp only [List.mem_cons, not_or] at h
    unfold splitG
    rw [if_neg (fun x => h.1 x.symm), splitG_none l _ h.2]
    simp
theorem splitL_none {c : UInt8} (l : List UInt8) (h : ¬ c ∈ l) : splitL c l = [l] := by rw [splitL, splitG_none l [] h]; simp
/-! ### Digits and groups that are none -/
theorem okN_dig {l : List UInt8} (h : okN l = true) : l.all dig = true := by
  cases ha : l.all dig with
  | true => rfl
  | false =>
    have := numRes_no l 255 ha
    unfold okN at h
    rw [this] at h
    cases h
theorem okN_has {l : List UInt8} {d : UInt8} (hd : dig d = false) (h : d ∈ l) : okN l = false := by
  cases ho : okN l with
  | false => rfl
  | true =>
    have := okN_dig ho
    rw [List.all_eq_true] at this
    rw [this d h] at hd
    cases hd
theorem four_has {s : List UInt8} {d : UInt8} (hd : dig d = false) (h46 : d ≠ 46) (h : d ∈ s) : fourP (splitL 46 s) = none := by
  obtain ⟨x, hx, h2⟩ := splitG_has h46 s [] h
  unfold fourP
  rw [if_neg]
  rintro ⟨_, h3⟩
  rw [List.all_eq_true] at h3
  have := h3 x hx
  rw [okN_has hd h2] at this
  cases this
theorem four_nodot {s : List UInt8} (h : ¬ 46 ∈ s) : fourP (splitL 46 s) = none := by
  rw [splitL_none s h]
  unfold fourP
  rw [if_neg]
  rintro ⟨h2, _⟩
  simp at h2
theorem hexG_has {l : List UInt8} {d : UInt8} (hd : hexV d < 0) (h : d ∈ l) : hexG l = none := by
  obtain ⟨k, hk, e⟩ := List.getElem_of_mem h
  exact hexG_bad (k := k) (c := d) (by rw [List.getElem?_eq_getElem hk, e]) hd
theorem hexG_two {l x : List UInt8} (h : hexG l = some x) : x.length = 2 := by
  unfold hexG at h
  split at h
  · cases h
  · split at h
    · cases h; rfl
    · cases h
theorem fourP_len {p : List (List UInt8)} {x : List UInt8} (h : fourP p = some x) : x.length = 4 := by
  unfold fourP at h
  split at h
  · rename_i h4
    cases h
    rw [List.length_map]; exact h4.1
  · cases h
theorem partG_two {t : Bool} {l x : List UInt8} (h : partG t l = some x) : 2 ≤ x.length := by
  unfold partG at h
  split at h
  · cases e : fourP (splitL 46 l) with
    | some f => rw [e] at h; cases h; rw [fourP_len e]; decide
    | none => rw [e] at h; rw [hexG_two h]; exact Nat.le_refl _
  · rw [hexG_two h]; exact Nat.le_refl _
theorem accG_two {last : Bool} {P : List (List UInt8)} : ∀ {k : Nat} {a : List UInt8}, accG last P k = some a → 2 * k ≤ a.length
  | 0, a, h => by simp
  | k + 1, a, h => by
    unfold accG at h
    split at h
    · cases h
    · rename_i b hb
      split at h
      · cases h
      · rename_i x hx
        cases h
        have := accG_two hb
        have := partG_two hx
        simp
        omega
/-! ### Groups, the program's way -/
def hexAll : List (List UInt8) → Option (List UInt8)
  | [] => some []
  | l :: r => match hexG l, hexAll r with
    | some a, some b => some (a ++ b)
    | _, _ => none
theorem hexAll_snoc (l : List UInt8) : ∀ P : List (List UInt8), hexAll (P ++ [l]) = match hexAll P, hexG l with
    | some a, some b => some (a ++ b)
    | _, _ => none
  | [] => by simp only [hexAll, List.nil_append]; cases hexG l <;> simp
  | q :: P => by
    simp only [List.cons_append, hexAll, hexAll_snoc l P]
    cases hexG q <;> cases hexAll P <;> cases hexG l <;> simp
theorem hexAll_no {P : List (List UInt8)} {l : List UInt8} (h : l ∈ P) (hl : hexG l = none) : hexAll P = none := by
  induction P with
  | nil => cases h
  | cons q P ih =>
    rcases List.mem_cons.1 h with h | h
    · subst h; simp [hexAll, hl]
    · simp only [hexAll, ih h]; cases hexG q <;> rfl
theorem hexAll_len {P : List (List UInt8)} : ∀ {a : List UInt8}, hexAll P = some a → a.length = 2 * P.length := by
  induction P with
  | nil => intro a h; cases h; rfl
  | cons q P ih =>
    intro a h
    unfold hexAll at h
    split at h
    · rename_i x y hx hy
      cases h
      have := hexG_two hx
      have := ih hy
      simp
      omega
    · cases h
/-- What parseGroups answers. -/
def pgP (s : List UInt8) : Option (List UInt8) :=
  if s = [] then some [] else
  match fourP (splitL 46 ((cutN 58 9 s).getLastD [])) with
  | some f => (hexAll (cutN 58 9 s).dropLast).map (· ++ f)
  | none => hexAll (cutN 58 9 s)
theorem accG_hex {last : Bool} {P : List (List UInt8)} : ∀ k, k ≤ P.length → (last = true → k + 1 ≤ P.length) → accG last P k = hexAll (P.take k)
  | 0, _, _ => by simp [accG, hexAll]
  | k + 1, h, h2 => by
    have ih := accG_hex (last := last) (P := P) k (by omega) (fun e => by have := h2 e; omega)
    have hk : k < P.length := by omega
    have ht : P.take (k + 1) = P.take k ++ [P[k]] := List.take_succ_eq_append_getElem hk
    have hf : (last && decide (k + 1 = P.length)) = false := by
      cases last with
      | false => rfl
      | true => have := h2 rfl; simp; omega
    have hg : P.getD k [] = P[k] := by simp [List.getD_eq_getElem?_getD, List.getElem?_eq_getElem hk]
    have hpf : ∀ l, partG false l = hexG l := fun l => rfl
    rw [accG, ih, ht, hexAll_snoc, hf, hg, hpf]
    cases hexAll (P.take k) <;> simp
    cases hexG P[k] <;> simp
theorem accG_full (P : List (List UInt8)) (h : 1 ≤ P.length) : accG true P P.length = match fourP (splitL 46 (P.getLastD [])) with
    | some f => (hexAll P.dropLast).map (· ++ f)
    | none => hexAll P := by
  obtain ⟨k, hk⟩ : ∃ k, P.length = k + 1 := ⟨P.length - 1, by omega⟩
  have hlt : k < P.length := by omega
  have hg : P.getD k [] = P[k] := by simp [List.getD_eq_getElem?_getD, List.getElem?_eq_getElem hlt]
  have hl : P.getLastD [] = P[k] := by
    rw [List.getLastD_eq_getLast?, List.getLast?_eq_getElem?, hk]
    simp [List.getElem?_eq_getElem hlt]
  have hd : P.dropLast = P.take k := by rw [List.dropLast_eq_take, hk]; rfl
  have hall : P = P.take k ++ [P[k]] := by
    have := List.take_succ_eq_append_getElem hlt
    rw [← this, ← hk, List.take_length]
  have ha := accG_hex (last := true) (P := P) k (by omega) (fun _ => by omega)
  have hf : (true && decide (k + 1 = P.length)) = true := by simp; omega
  have e1 : accG true P P.length = match accG true P k with
      | none => none
      | some a => match partG true P[k] with
        | none => none
        | some x => some (a ++ x) := by
    rw [hk, accG, hf, hg]
    cases accG true P k with
    | none => rfl
    | some a => simp only []; cases partG true P[k] <;> rfl
  rw [e1, ha, hl, hd]
  cases h4 : fourP (splitL 46 P[k]) with
  | some f =>
    rw [partG_four h4]
    cases hexAll (P.take k) <;> rfl
  | none =>
    rw [partG_hex fun _ => h4]
    have := hexAll_snoc P[k] (P.take k)
    rw [← hall] at this
    rw [this]
    cases hexAll (P.take k) <;> simp
    cases hexG P[k] <;> simp
theorem pgP_few {s : List UInt8} (h : (splitL 58 s).length ≤ 9) : pgP s = groupsP true s := by
  unfold pgP groupsP
  split
  · rfl
  · rw [cutN_few 58 9 s h, accG_full _ (splitL_len 58 s).1]
theorem hexV_58 : hexV 58 < 0 := by decide
theorem hexV_46 : hexV 46 < 0 := by decide
theorem pgP_many {s : List UInt8} (h : 9 < (splitL 58 s).length) : pgP s = none := by
  unfold pgP
  have hne : s ≠ [] := by rintro rfl; simp [splitL, splitG] at h
  obtain ⟨h1, q, x, h2, h3⟩ := cutN_many 58 9 s (by omega) h
  have hl : (cutN 58 9 s).getLastD [] = x := by rw [h2]; simp
  rw [if_neg hne, hl, four_has (d := 58) (by decide) (by decide) h3, h2]
  exact hexAll_no (l := x) (by simp) (hexG_has hexV_58 h3)
theorem groupsP_many {last : Bool} {s b : List UInt8} (h : 9 < (splitL 58 s).length) (hb : groupsP last s = some b) : 16 < b.length := by
  unfold groupsP at hb
  have hne : s ≠ [] := by rintro rfl; simp [splitL, splitG] at h
  rw [if_neg hne] at hb
  have := accG_two hb
  omega
theorem groupsP_nodot {s : List UInt8} (h : ¬ 46 ∈ s) : groupsP true s = groupsP false s := by
  unfold groupsP
  split
  · rfl
  · have hl := (splitL_len 58 s).1
    rw [accG_full _ hl, accG_hex (last := false) _ (Nat.le_refl _) (fun h => by cases h), List.take_length]
    have : ¬ 46 ∈ (splitL 58 s).getLastD [] := by
      intro h3
      obtain ⟨x, r, hx⟩ : ∃ x r, splitL 58 s = r ++ [x] := ⟨_, _, (List.dropLast_concat_getLast (l := splitL 58 s) (by intro e; rw [e] at hl; simp at hl)).symm⟩
      rw [hx] at h3
      simp at h3
      rcases splitG_sub (c := 58) (d := 46) s [] x (by show x ∈ splitL 58 s; rw [hx]; simp) h3 with h4 | h4
      · cases h4
      · exact h h4
    rw [four_nodot this]
theorem groupsP_dot {s : List UInt8} (h : 46 ∈ s) : groupsP false s = none := by
  have hne : s ≠ [] := by rintro rfl; cases h
  unfold groupsP
  rw [if_neg hne, accG_hex (last := false) _ (Nat.le_refl _) (fun h => by cases h), List.take_length]
  obtain ⟨x, hx, h2⟩ := splitG_has (c := 58) (d := 46) (by decide) s [] h
  exact hexAll_no hx (hexG_has hexV_46 h2)
/-! ### An address, the program's way -/
def full16 (r : Option (List UInt8)) : Option (List UInt8) := match r with
  | some b => if b.length = 16 then some b else none
  | none => none
def bothP (a b : Option (List UInt8)) : Option (List UInt8) := match a, b with
  | some x, some y => if 14 < x.length + y.length then none else some (x ++ List.replicate (16 - x.length - y.length) 0 ++ y)
  | _, _ => none
def longP (s : List UInt8) : Option (List UInt8) :=
  if (Lib.cut s [58, 58]).2.2 = true then
    (if 46 ∈ (Lib.cut s [58, 58]).1 then none else bothP (pgP (Lib.cut s [58, 58]).1) (pgP (Lib.cut s [58, 58]).2.1))
  else full16 (pgP s)
def addrP (s : List UInt8) : Option (List UInt8) := if 58 ∈ s then longP s else fourP (splitL 46 s)
theorem full16_pg (s : List UInt8) : full16 (pgP s) = full16 (groupsP true s) := by
  by_cases h : (splitL 58 s).length ≤ 9
  · rw [pgP_few h]
  · rw [pgP_many (by omega)]
    cases hb : groupsP true s with
    | none => rfl
    | some b =>
      have := groupsP_many (by omega) hb
      unfold full16
      simp only
      rw [if_neg (by omega)]
theorem both_pg (a b : List UInt8) (ha : ¬ 46 ∈ a) : bothP (pgP a) (pgP b) = bothP (groupsP false a) (groupsP true b) := by
  rw [← groupsP_nodot ha]
  have big : ∀ x y : List UInt8, 16 < x.length ∨ 16 < y.length → bothP (some x) (some y) = none := fun x y h => by
    unfold bothP
    simp only
    rw [if_pos (by omega)]
  have n1 : ∀ r, bothP none r = none := fun r => by cases r <;> rfl
  have n2 : ∀ r, bothP r none = none := fun r => by cases r <;> rfl
  by_cases h1 : (splitL 58 a).length ≤ 9
  · rw [pgP_few h1]
    by_cases h2 : (splitL 58 b).length ≤ 9
    · rw [pgP_few h2]
    · rw [pgP_many (s := b) (by omega), n2]
      cases hb : groupsP true b with
      | none => rw [n2]
      | some y =>
        cases hx : groupsP true a with
        | none => rw [n1]
        | some x => rw [big x y (.inr (groupsP_many (by omega) hb))]
  · rw [pgP_many (s := a) (by omega), n1]
    cases hx : groupsP true a with
    | none => rw [n1]
    | some x =>
      cases hb : groupsP true b with
      | none => rw [n2]
      | some y => rw [big x y (.inl (groupsP_many (by omega) hx))]
theorem cc_occ (s : List UInt8) (k : Nat) : ccAt s k = Lib.occAt s [58, 58] k := by
  unfold ccAt Lib.occAt
  have e0 : s[k]? = (s.drop k)[0]? := by simp
  have e1 : s[k + 1]? = (s.drop k)[1]? := by simp
  rw [e0, e1]
  generalize s.drop k = t
  match t with
  | [] => rfl
  | [x] => simp [List.isPrefixOf]
  | x :: y :: t =>
    simp only [List.getElem?_cons_zero, List.getElem?_cons_succ, Option.some.injEq, List.isPrefixOf, Bool.and_true]
    have : ∀ z : UInt8, decide (z = 58) = (58 == z) := fun z => by
      by_cases h : z = 58
      · subst h; rfl
      · have h' : ¬ 58 = z := fun e => h e.symm
        simp [h, h']
    rw [this, this]
theorem addrP_parse (s : List UInt8) : addrP s = parseP s := by
  unfold addrP
  by_cases h58 : 58 ∈ s
  · rw [if_pos h58]
    have hf : fourP (splitL 46 s) = none := four_has (d := 58) (by decide) (by decide) h58
    unfold parseP
    rw [hf]
    simp only
    unfold longP
    rcases Lib.index_spec s [58, 58] with ⟨hi, hno⟩ | ⟨i, hi, hle, hocc, hno⟩
    · have hc : Lib.cut s [58, 58] = (s, [], false) := by unfold Lib.cut; rw [hi, if_neg (by decide)]
      have hfind : (List.range s.length).find? (ccAt s) = none := cc_none (k := s.length) (fun j hj => by rw [cc_occ]; exact hno j (by omega)) (by omega)
      rw [hc, hfind, if_neg (by simp)]
      rw [full16_pg]
      rfl
    · have hc : Lib.cut s [58, 58] = (s.take i, s.drop (i + 2), true) := by unfold Lib.cut; rw [hi, if_pos (by omega)]; simp
      have hfind : (List.range s.length).find? (ccAt s) = some i := cc_some (k := i) (fun j hj => by rw [cc_occ]; exact hno j hj) (by rw [cc_occ]; exact hocc)
      rw [hc, hfind, if_pos rfl]
      simp only
      unfold dblP
      by_cases hd : 46 ∈ s.take i
      · rw [if_pos hd, groupsP_dot hd]
      · rw [if_neg hd, both_pg _ _ hd]
        rfl
  · rw [if_neg h58]
    unfold parseP
    cases hf : fourP (splitL 46 s) with
    | some f => rfl
    | none =>
      have hfind : (List.range s.length).find? (ccAt s) = none := cc_none (k := s.length) (fun j hj => by
        unfold ccAt
        have : ¬ s[j]? = some 58 := fun e => h58 (List.mem_of_getElem? e)
        simp [this]) (by omega)
      rw [hfind]
      simp only
      cases hg : groupsP true s with
      | none => rfl
      | some b =>
        simp only
        rw [if_neg]
        intro h16
        unfold groupsP at hg
        split at hg
        · cases hg; simp at h16
        · rw [splitL_none s h58] at hg
          have := accG_len hg
          simp at this
          omega
end Go.Tx

namespace Go.Proofs.YtfmnemcnonbkfaaGreatDoor
open Go.RowKit Go.Lib Go.Tx Go.Rb
def lowerN (c : UInt8) : UInt8 := c ||| 32
theorem bits_all : ∀ i : Fin 256, bits .or .u8 (i.1 : Int) 32 = ((lowerN (UInt8.ofNat i.1)).toNat : Int) := by decide +kernel
theorem lower_any (c : UInt8) (w : World) : Calls Tryz.prog 88 #[.int .u8 (c.toNat : Int)] w fun e w' => e = .returned (.int .u8 ((lowerN c).toNat : Int)) ∧ w' = w := by
  have hb : bits .or .u8 (c.toNat : Int) 32 = ((lowerN c).toNat : Int) := by
    have := bits_all ⟨c.toNat, c.toNat_lt⟩
    simpa using this
  go_enter Tryz.func88, Tryz.ntmps88
  go_wp2
  go_ret
  exact ⟨by rw [← hb]; rfl, rfl⟩
theorem low_all : ∀ i : Fin 256, (65 ≤ i.1 ∧ i.1 ≤ 90 → (lowerN (UInt8.ofNat i.1)).toNat = i.1 + 32) ∧ (97 ≤ i.1 ∧ i.1 ≤ 122 → (lowerN (UInt8.ofNat i.1)).toNat = i.1) ∧ (¬ (65 ≤ i.1 ∧ i.1 ≤ 90) → ¬ (97 ≤ i.1 ∧ i.1 ≤ 122) → (lowerN (UInt8.ofNat i.1)).toNat < 97 ∨ 122 < (lowerN (UInt8.ofNat i.1)).toNat) := by decide +kernel
theorem low_cls (c : UInt8) : (65 ≤ c.toNat ∧ c.toNat ≤ 90 → (lowerN c).toNat = c.toNat + 32) ∧ (97 ≤ c.toNat ∧ c.toNat ≤ 122 → (lowerN c).toNat = c.toNat) ∧ (¬ (65 ≤ c.toNat ∧ c.toNat ≤ 90) → ¬ (97 ≤ c.toNat ∧ c.toNat ≤ 122) → (lowerN c).toNat < 97 ∨ 122 < (lowerN c).toNat) := by
  have := low_all ⟨c.toNat, c.toNat_lt⟩
  simpa using this
theorem lower95 (w : World) : Calls Tryz.prog 88 #[.int .u8 95] w fun e w' => e = .returned (.int .u8 127) ∧ w' = w := by
  have := lower_any 95 w
  have e1 : ((95 : UInt8).toNat : Int) = 95 := by decide
  have e2 : ((lowerN 95).toNat : Int) = 127 := by decide
  rw [e1, e2] at this
  exact this
theorem lower96 (w : World) : Calls Tryz.prog 88 #[.int .u8 96] w fun e w' => e = .returned (.int .u8 96) ∧ w' = w := by
  have := lower_any 96 w
  have e1 : ((96 : UInt8).toNat : Int) = 96 := by decide
  have e2 : ((lowerN 96).toNat : Int) = 96 := by decide
  rw [e1, e2] at this
  exact this
/-- What a text of digits says, or that it says nothing. -/
def hex16 (l : List UInt8) : Bool := decide (l ≠ []) && hexOk l && decide (hexA l ≤ 65535)
def PuR (l : List UInt8) (w : World) (e : Ending) (w' : World) : Prop :=
  Below w.heap.size w w' ∧ (if hex16 l = true then e = .returned (.tuple #[.int .u64 (hexA l), .nilIface]) else ∃ x n : Int, (n = 1 ∨ n = 2) ∧ e = .returned (.tuple #[.int .u64 x, .iface 111 (.int .i64 n)]))
theorem hexA_from (l : List UInt8) : ∀ a, (∀ c ∈ l, 0 ≤ hexV c) → 0 ≤ a → a ≤ l.foldl (fun n c => 16 * n + hexV c) a := by
  induction l with
  | nil => intro a _ h; exact Int.le_refl _
  | cons c l ih =>
    intro a h h0
    have hc := h c (by simp)
    have := ih (16 * a + hexV c) (fun d hd => h d (by simp [hd])) (by omega)
    simp only [List.foldl_cons]
    omega
theorem hexA_big (l : List UInt8) (k : Nat) (hok : hexOk l = true) (h : 65535 < hexA (l.take k)) : 65535 < hexA l := by
  have e : hexA l = (l.drop k).foldl (fun n c => 16 * n + hexV c) (hexA (l.take k)) := by
    unfold hexA
    rw [← List.foldl_append, List.take_append_drop]
  unfold hexOk at hok
  rw [List.all_eq_true] at hok
  have := hexA_from (l.drop k) (hexA (l.take k)) (fun c hc => by simpa using hok c (List.mem_of_mem_drop hc)) (by omega)
  omega
theorem hex16_bad {l : List UInt8} {k : Nat} {c : UInt8} (h : l[k]? = some c) (hc : hexV c < 0) : hex16 l = false := by
  unfold hex16
  have : hexOk l = false := by
    unfold hexOk
    rw [List.all_eq_false]
    exact ⟨c, List.mem_of_getElem? h, by simp; omega⟩
  rw [this]; simp
theorem hex16_big {l : List UInt8} {k : Nat} (h : 65535 < hexA (l.take k)) : hex16 l = false := by
  unfold hex16
  cases hok : hexOk l with
  | false => simp
  | true =>
    have := hexA_big l k hok h
    have e : decide (hexA l ≤ 65535) = false := decide_eq_false (by omega)
    rw [e]; simp
theorem hexA_step (l : List UInt8) (k : Nat) (c : UInt8) (h : l[k]? = some c) : hexA (l.take (k + 1)) = 16 * hexA (l.take k) + hexV c := by
  rw [List.take_add_one, h]
  exact hexA_snoc _ _
set_option maxHeartbeats 4000000 in
set_option maxRecDepth 100000 in
theorem pu16_any (s : ByteArray) (w : World) (hs : s.size ≤ 1000000) : Calls Tryz.prog 73 #[.string s, .int .i64 16, .int .i64 16] w (PuR s.data.toList w) := by
  by_cases h0 : s = ⟨#[]⟩
  · subst h0
    go_enter Tryz.func73, Tryz.ntmps73
    go_wp2
    go_ret2
    exact ⟨Below.refl _ _, by rw [if_neg (by decide)]; exact ⟨0, 2, .inr rfl, rfl⟩⟩
  · have hne : s.data.toList ≠ [] := fun h => h0 (by cases s; simp at h; simp [h])
    have e2 : s.toList.isEmpty = false := by
      rw [Go.Lib.toList_data]
      cases hh : s.data.toList with
      | nil => exact absurd hh hne
      | cons x y => rfl
    obtain ⟨cap, o, hconv, hcap, hrow⟩ := RowB.made (P := Tryz.prog) s w Tryz.underlying9 Tryz.underlying22 Tryz.underlying5
    have hr2 : RowB 5 (w.alloc o).drew w.heap.size cap s.data.toList := hrow
    have HR := Lib.hid hr2
    have HNe := Lib.hid hne
    have HB : Hid (Below w.heap.size w (w.alloc o).drew) := Lib.hid (((Below.refl _ _).alloc (Nat.le_refl _) _).drew)
    clear hrow hr2 hne h0
    go_enter Tryz.func73, Tryz.ntmps73
    go_wp2
    go_loop [12, 13, 101] (fun us nv i => ∃ (k : Nat) (n : Int), k ≤ s.size ∧ i = .int .i64 k ∧ us = .bool false ∧ nv = .int .u64 n ∧ 0 ≤ n ∧ n ≤ 65535 ∧ Hid (n = hexA (s.data.toList.take k)) ∧ Hid (∀ j c, j < k → s.data.toList[j]? = some c → 0 ≤ hexV c)) (fun _ _ i => s.size - (intOf i).toNat)
    case atStart => exact ⟨0, 0, Nat.zero_le _, rfl, rfl, rfl, by omega, by omega, Lib.hid rfl, Lib.hid (by omega)⟩
    case round =>
      obtain ⟨k, n, hk, rfl, rfl, rfl, hn0, hn1, hn, hall⟩ := hrel
      by_cases hlt : k < s.size
      · have HK : Hid (s.data.toList[k]? = some s[k]) := Lib.hid (List.getElem?_eq_getElem hlt)
        have hcell := HR.out.cell HK.out
        have hu := s[k].toNat_lt
        generalize s[k] = c at HK hcell hu
        have hc : (48 ≤ c.toNat ∧ c.toNat ≤ 57) ∨ (97 ≤ c.toNat ∧ c.toNat ≤ 102) ∨ (65 ≤ c.toNat ∧ c.toNat ≤ 70) ∨ (103 ≤ c.toNat ∧ c.toNat ≤ 122) ∨ (71 ≤ c.toNat ∧ c.toNat ≤ 90) ∨ (c.toNat < 48) ∨ (57 < c.toNat ∧ c.toNat < 65) ∨ (90 < c.toNat ∧ c.toNat < 95) ∨ c.toNat = 96 ∨ c.toNat = 95 ∨ 122 < c.toNat := by omega
        rcases hc with ⟨b1, b2⟩ | ⟨b1, b2⟩ | ⟨b1, b2⟩ | ⟨b1, b2⟩ | ⟨b1, b2⟩ | b1 | ⟨b1, b2⟩ | ⟨b1, b2⟩ | b1 | b1 | b1
        · skip
          have a1 : (48 : Int) ≤ (c.toNat : Int) := by omega
          have a2 : (c.toNat : Int) ≤ 57 := by omega
          have hv : hexV c = (c.toNat : Int) - 48 := by unfold hexV; rw [if_pos ⟨by omega, by omega⟩]
          have HV := Lib.hid hv
          have hv2 := hexV_bd c
          have HS := Lib.hid (hexA_step s.data.toList k c HK.out)
          by_cases hbig : 65535 < n * 16 + hexV c
          · have hb1 : 65535 < n * 16 + ((c.toNat : Int) - 48) := by omega
            have HBig : Hid (hex16 s.data.toList = false) := Lib.hid (hex16_big (k := k + 1) (by rw [HS.out, ← hn.out]; omega))
            clear hv hv2 hbig
            go_wp2
            go_ret2
            exact ⟨HB.out, by rw [if_neg (by rw [HBig.out]; decide)]; exact ⟨_, 1, .inl rfl, rfl⟩⟩
          · have hb1 : ¬ 65535 < n * 16 + ((c.toNat : Int) - 48) := by omega
            clear hv hv2 hbig
            go_wp2
            go_round
            case rel => exact ⟨k + 1, n * 16 + ((c.toNat : Int) - 48), hlt, by go_num, rfl, by first | rfl | (congr 1; omega), by omega, by omega, Lib.hid (by rw [HS.out, ← hn.out, HV.out]; omega), Lib.hid (by
              intro j d hj hd
              by_cases e : j = k
              · subst e
                have := HK.out
                rw [this] at hd
                cases hd
                rw [HV.out]; omega
              · exact hall.out j d (by omega) hd)⟩
            case measure => simp [intOf]; omega
        · skip
          have a1 : (97 : Int) ≤ (c.toNat : Int) := by omega
          have a2 : (c.toNat : Int) ≤ 102 := by omega
          have HLow : Hid (((lowerN c).toNat : Int) = (c.toNat : Int)) := Lib.hid (by have := (low_cls c).2.1 ⟨by omega, by omega⟩; omega)
          have hv : hexV c = (c.toNat : Int) - 87 := by unfold hexV; rw [if_neg (by omega), if_pos ⟨by omega, by omega⟩]
          have HV := Lib.hid hv
          have hv2 := hexV_bd c
          have HS := Lib.hid (hexA_step s.data.toList k c HK.out)
          by_cases hbig : 65535 < n * 16 + hexV c
          · have hb1 : 65535 < n * 16 + ((c.toNat : Int) - 87) := by omega
            have HBig : Hid (hex16 s.data.toList = false) := Lib.hid (hex16_big (k := k + 1) (by rw [HS.out, ← hn.out]; omega))
            clear hv hv2 hbig
            go_wp2_with (go_at_call 88; refine (lower_any c _).mono ?_; rw [HLow.out]; rintro e w3 ⟨rfl, rfl⟩)
            go_ret2
            exact ⟨HB.out, by rw [if_neg (by rw [HBig.out]; decide)]; exact ⟨_, 1, .inl rfl, rfl⟩⟩
          · have hb1 : ¬ 65535 < n * 16 + ((c.toNat : Int) - 87) := by omega
            clear hv hv2 hbig
            go_wp2_with (go_at_call 88; refine (lower_any c _).mono ?_; rw [HLow.out]; rintro e w3 ⟨rfl, rfl⟩)
            go_round
            case rel => exact ⟨k + 1, n * 16 + ((c.toNat : Int) - 87), hlt, by go_num, rfl, by first | rfl | (congr 1; omega), by omega, by omega, Lib.hid (by rw [HS.out, ← hn.out, HV.out]; omega), Lib.hid (by
              intro j d hj hd
              by_cases e : j = k
              · subst e
                have := HK.out
                rw [this] at hd
                cases hd
                rw [HV.out]; omega
              · exact hall.out j d (by omega) hd)⟩
            case measure => simp [intOf]; omega
        · skip
          have a1 : (65 : Int) ≤ (c.toNat : Int) := by omega
          have a2 : (c.toNat : Int) ≤ 70 := by omega
          have HLow : Hid (((lowerN c).toNat : Int) = (c.toNat : Int) + 32) := Lib.hid (by have := (low_cls c).1 ⟨by omega, by omega⟩; omega)
          have hv : hexV c = (c.toNat : Int) - 55 := by unfold hexV; rw [if_neg (by omega), if_neg (by omega), if_pos ⟨by omega, by omega⟩]
          have HV := Lib.hid hv
          have hv2 := hexV_bd c
          have HS := Lib.hid (hexA_step s.data.toList k c HK.out)
          by_cases hbig : 65535 < n * 16 + hexV c
          · have hb1 : 65535 < n * 16 + ((c.toNat : Int) - 55) := by omega
            have HBig : Hid (hex16 s.data.toList = false) := Lib.hid (hex16_big (k := k + 1) (by rw [HS.out, ← hn.out]; omega))
            clear hv hv2 hbig
            go_wp2_with (go_at_call 88; refine (lower_any c _).mono ?_; rw [HLow.out]; rintro e w3 ⟨rfl, rfl⟩)
            go_ret2
            exact ⟨HB.out, by rw [if_neg (by rw [HBig.out]; decide)]; exact ⟨_, 1, .inl rfl, rfl⟩⟩
          · have hb1 : ¬ 65535 < n * 16 + ((c.toNat : Int) - 55) := by omega
            clear hv hv2 hbig
            go_wp2_with (go_at_call 88; refine (lower_any c _).mono ?_; rw [HLow.out]; rintro e w3 ⟨rfl, rfl⟩)
            go_round
            case rel => exact ⟨k + 1, n * 16 + ((c.toNat : Int) - 55), hlt, by go_num, rfl, by first | rfl | (congr 1; omega), by omega, by omega, Lib.hid (by rw [HS.out, ← hn.out, HV.out]; omega), Lib.hid (by
              intro j d hj hd
              by_cases e : j = k
              · subst e
                have := HK.out
                rw [this] at hd
                cases hd
                rw [HV.out]; omega
              · exact hall.out j d (by omega) hd)⟩
            case measure => simp [intOf]; omega
        · skip
          have a1 : (103 : Int) ≤ (c.toNat : Int) := by omega
          have a2 : (c.toNat : Int) ≤ 122 := by omega
          have HLow : Hid (((lowerN c).toNat : Int) = (c.toNat : Int)) := Lib.hid (by have := (low_cls c).2.1 ⟨by omega, by omega⟩; omega)
          have hv : hexV c < 0 := by unfold hexV; repeat' split
                                     all_goals omega
          have HBad : Hid (hex16 s.data.toList = false) := Lib.hid (hex16_bad HK.out hv)
          clear hv
          go_wp2_with (go_at_call 88; refine (lower_any c _).mono ?_; rw [HLow.out]; rintro e w3 ⟨rfl, rfl⟩)
          all_goals (go_ret2; exact ⟨HB.out, by rw [if_neg (by rw [HBad.out]; decide)]; exact ⟨_, 2, .inr rfl, rfl⟩⟩)
        · skip
          have a1 : (71 : Int) ≤ (c.toNat : Int) := by omega
          have a2 : (c.toNat : Int) ≤ 90 := by omega
          have HLow : Hid (((lowerN c).toNat : Int) = (c.toNat : Int) + 32) := Lib.hid (by have := (low_cls c).1 ⟨by omega, by omega⟩; omega)
          have hv : hexV c < 0 := by unfold hexV; repeat' split
                                     all_goals omega
          have HBad : Hid (hex16 s.data.toList = false) := Lib.hid (hex16_bad HK.out hv)
          clear hv
          go_wp2_with (go_at_call 88; refine (lower_any c _).mono ?_; rw [HLow.out]; rintro e w3 ⟨rfl, rfl⟩)
          all_goals (go_ret2; exact ⟨HB.out, by rw [if_neg (by rw [HBad.out]; decide)]; exact ⟨_, 2, .inr rfl, rfl⟩⟩)
        · skip
          have a1 : (c.toNat : Int) < 48 := by omega
          have hL := (low_cls c).2.2 (by omega) (by omega)
          obtain ⟨y, hy⟩ : ∃ y : Nat, (lowerN c).toNat = y := ⟨_, rfl⟩
          have HLow : Hid (((lowerN c).toNat : Int) = (y : Int)) := Lib.hid (by omega)
          have hy2 := (lowerN c).toNat_lt
          rw [hy] at hL hy2
          clear hy
          have hv : hexV c < 0 := by unfold hexV; repeat' split
                                     all_goals omega
          have HBad : Hid (hex16 s.data.toList = false) := Lib.hid (hex16_bad HK.out hv)
          clear hv
          rcases hL with hL | hL
          · have hy3 : (y : Int) < 97 := by omega
            go_wp2_with (go_at_call 88; refine (lower_any c _).mono ?_; rw [HLow.out]; rintro e w3 ⟨rfl, rfl⟩)
            all_goals (go_ret2; exact ⟨HB.out, by rw [if_neg (by rw [HBad.out]; decide)]; exact ⟨_, 2, .inr rfl, rfl⟩⟩)

          · have hy3 : (122 : Int) < (y : Int) := by omega
            have hy4 : (97 : Int) ≤ (y : Int) := by omega
            go_wp2_with (go_at_call 88; refine (lower_any c _).mono ?_; rw [HLow.out]; rintro e w3 ⟨rfl, rfl⟩)
            all_goals (go_ret2; exact ⟨HB.out, by rw [if_neg (by rw [HBad.out]; decide)]; exact ⟨_, 2, .inr rfl, rfl⟩⟩)

        · skip
          have a1 : (57 : Int) < (c.toNat : Int) := by omega
          have a2 : (c.toNat : Int) < 65 := by omega
          have hL := (low_cls c).2.2 (by omega) (by omega)
          obtain ⟨y, hy⟩ : ∃ y : Nat, (lowerN c).toNat = y := ⟨_, rfl⟩
          have HLow : Hid (((lowerN c).toNat : Int) = (y : Int)) := Lib.hid (by omega)
          have hy2 := (lowerN c).toNat_lt
          rw [hy] at hL hy2
          clear hy
          have hv : hexV c < 0 := by unfold hexV; repeat' split
                                     all_goals omega
          have HBad : Hid (hex16 s.data.toList = false) := Lib.hid (hex16_bad HK.out hv)
          clear hv
          rcases hL with hL | hL
          · have hy3 : (y : Int) < 97 := by omega
            go_wp2_with (go_at_call 88; refine (lower_any c _).mono ?_; rw [HLow.out]; rintro e w3 ⟨rfl, rfl⟩)
            all_goals (go_ret2; exact ⟨HB.out, by rw [if_neg (by rw [HBad.out]; decide)]; exact ⟨_, 2, .inr rfl, rfl⟩⟩)

          · have hy3 : (122 : Int) < (y : Int) := by omega
            have hy4 : (97 : Int) ≤ (y : Int) := by omega
            go_wp2_with (go_at_call 88; refine (lower_any c _).mono ?_; rw [HLow.out]; rintro e w3 ⟨rfl, rfl⟩)
            all_goals (go_ret2; exact ⟨HB.out, by rw [if_neg (by rw [HBad.out]; decide)]; exact ⟨_, 2, .inr rfl, rfl⟩⟩)

        · skip
          have a1 : (90 : Int) < (c.toNat : Int) := by omega
          have a2 : (c.toNat : Int) < 95 := by omega
          have hL := (low_cls c).2.2 (by omega) (by omega)
          obtain ⟨y, hy⟩ : ∃ y : Nat, (lowerN c).toNat = y := ⟨_, rfl⟩
          have HLow : Hid (((lowerN c).toNat : Int) = (y : Int)) := Lib.hid (by omega)
          have hy2 := (lowerN c).toNat_lt
          rw [hy] at hL hy2
          clear hy
          have hv : hexV c < 0 := by unfold hexV; repeat' split
                                     all_goals omega
          have HBad : Hid (hex16 s.data.toList = false) := Lib.hid (hex16_bad HK.out hv)
          clear hv
          rcases hL with hL | hL
          · have hy3 : (y : Int) < 97 := by omega
            go_wp2_with (go_at_call 88; refine (lower_any c _).mono ?_; rw [HLow.out]; rintro e w3 ⟨rfl, rfl⟩)
            all_goals (go_ret2; exact ⟨HB.out, by rw [if_neg (by rw [HBad.out]; decide)]; exact ⟨_, 2, .inr rfl, rfl⟩⟩)

          · have hy3 : (122 : Int) < (y : Int) := by omega
            have hy4 : (97 : Int) ≤ (y : Int) := by omega
            go_wp2_with (go_at_call 88; refine (lower_any c _).mono ?_; rw [HLow.out]; rintro e w3 ⟨rfl, rfl⟩)
            all_goals (go_ret2; exact ⟨HB.out, by rw [if_neg (by rw [HBad.out]; decide)]; exact ⟨_, 2, .inr rfl, rfl⟩⟩)

        · obtain rfl : c = 96 := UInt8.toNat_inj.1 b1
          have HBad : Hid (hex16 s.data.toList = false) := Lib.hid (hex16_bad HK.out (by decide))
          have e5 : ((96 : UInt8).toNat : Int) = 96 := by decide
          rw [e5] at hcell
          clear e5
          go_wp2_with (go_at_call 88; refine (lower96 _).mono ?_; rintro e w3 ⟨rfl, rfl⟩)
          all_goals (go_ret2; exact ⟨HB.out, by rw [if_neg (by rw [HBad.out]; decide)]; exact ⟨_, 2, .inr rfl, rfl⟩⟩)
        · obtain rfl : c = 95 := UInt8.toNat_inj.1 b1
          have HBad : Hid (hex16 s.data.toList = false) := Lib.hid (hex16_bad HK.out (by decide))
          have e5 : ((95 : UInt8).toNat : Int) = 95 := by decide
          rw [e5] at hcell
          clear e5
          go_wp2_with (go_at_call 88; refine (lower95 _).mono ?_; rintro e w3 ⟨rfl, rfl⟩)
          all_goals (go_ret2; exact ⟨HB.out, by rw [if_neg (by rw [HBad.out]; decide)]; exact ⟨_, 2, .inr rfl, rfl⟩⟩)
        · skip
          have a1 : (122 : Int) < (c.toNat : Int) := by omega
          have hL := (low_cls c).2.2 (by omega) (by omega)
          obtain ⟨y, hy⟩ : ∃ y : Nat, (lowerN c).toNat = y := ⟨_, rfl⟩
          have HLow : Hid (((lowerN c).toNat : Int) = (y : Int)) := Lib.hid (by omega)
          have hy2 := (lowerN c).toNat_lt
          rw [hy] at hL hy2
          clear hy
          have hv : hexV c < 0 := by unfold hexV; repeat' split
                                     all_goals omega
          have HBad : Hid (hex16 s.data.toList = false) := Lib.hid (hex16_bad HK.out hv)
          clear hv
          rcases hL with hL | hL
          · have hy3 : (y : Int) < 97 := by omega
            go_wp2_with (go_at_call 88; refine (lower_any c _).mono ?_; rw [HLow.out]; rintro e w3 ⟨rfl, rfl⟩)
            all_goals (go_ret2; exact ⟨HB.out, by rw [if_neg (by rw [HBad.out]; decide)]; exact ⟨_, 2, .inr rfl, rfl⟩⟩)

          · have hy3 : (122 : Int) < (y : Int) := by omega
            have hy4 : (97 : Int) ≤ (y : Int) := by omega
            go_wp2_with (go_at_call 88; refine (lower_any c _).mono ?_; rw [HLow.out]; rintro e w3 ⟨rfl, rfl⟩)
            all_goals (go_ret2; exact ⟨HB.out, by rw [if_neg (by rw [HBad.out]; decide)]; exact ⟨_, 2, .inr rfl, rfl⟩⟩)

      · obtain rfl : k = s.size := by omega
        have HOk : Hid (hex16 s.data.toList = true) := Lib.hid (by
          have ht : s.data.toList.take s.size = s.data.toList := List.take_of_length_le (Nat.le_refl _)
          have h1 := hn.out
          rw [ht] at h1
          have h2 : hexOk s.data.toList = true := by
            unfold hexOk
            rw [List.all_eq_true]
            intro c hc
            obtain ⟨j, hj, rfl⟩ := List.getElem_of_mem hc
            exact decide_eq_true (hall.out j _ (by simpa using hj) (List.getElem?_eq_getElem hj))
          unfold hex16
          rw [h2, ← h1, decide_eq_true HNe.out, decide_eq_true (by omega)]
          rfl)
        have HN : Hid (n = hexA s.data.toList) := Lib.hid (by
          have ht : s.data.toList.take s.size = s.data.toList := List.take_of_length_le (Nat.le_refl _)
          have h1 := hn.out
          rw [ht] at h1
          exact h1)
        go_wp2
        go_ret2
        exact ⟨HB.out, by rw [if_pos HOk.out, ← HN.out]; rfl⟩
end Go.Proofs.YtfmnemcnonbkfaaGreatDoor

namespace Go.Tx
open Go.Lib
/-! ### A decimal number of eight bits -/
theorem valF_ge : ∀ (l : List UInt8) (n : Nat), n * 10 ^ l.length ≤ valF n l
  | [], n => by simp [valF]
  | c :: l, n => by
    have h := valF_ge l (10 * n + (c.toNat - 48))
    have e : valF n (c :: l) = valF (10 * n + (c.toNat - 48)) l := rfl
    rw [e, List.length_cons, Nat.pow_succ, Nat.mul_comm (10 ^ l.length) 10, ← Nat.mul_assoc]
    exact Nat.le_trans (Nat.mul_le_mul_right _ (by omega)) h
theorem valF_le (l : List UInt8) (n : Nat) : n ≤ valF n l :=
  Nat.le_trans (Nat.le_mul_of_pos_right n (Nat.pow_pos (by omega))) (valF_ge l n)
theorem pum_cases : ∀ (l : List UInt8) (acc : Nat), acc ≤ 255 →
    (parseUintM 255 acc l = .ok (valF acc l) ∧ l.all dig = true ∧ valF acc l ≤ 255) ∨ ((∀ u, parseUintM 255 acc l ≠ .ok u) ∧ (l.all dig = false ∨ 255 < valF acc l))
  | [], acc, h => .inl ⟨rfl, rfl, h⟩
  | c :: l, acc, h => by
    unfold parseUintM
    by_cases hc : 48 ≤ c.toNat ∧ c.toNat ≤ 57
    · have hd : dig c = true := dig_of c (by omega) (by omega)
      rw [if_pos hc, if_neg (by omega)]
      have e : valF acc (c :: l) = valF (acc * 10 + (c.toNat - 48)) l := by rw [Nat.mul_comm]; rfl
      by_cases hm : 255 < acc * 10 + (c.toNat - 48)
      · rw [if_pos hm]
        refine .inr ⟨fun u h => by (cases h), .inr ?_⟩
        have := valF_le l (acc * 10 + (c.toNat - 48))
        rw [e]; omega
      · rw [if_neg hm, e]
        rcases pum_cases l (acc * 10 + (c.toNat - 48)) (by omega) with ⟨h1, h2, h3⟩ | ⟨h1, h2⟩
        · exact .inl ⟨h1, by rw [List.all_cons, hd, h2]; rfl, h3⟩
        · refine .inr ⟨h1, ?_⟩
          rcases h2 with h2 | h2
          · exact .inl (by rw [List.all_cons, h2, Bool.and_false])
          · exact .inr h2
    · rw [if_neg hc]
      refine .inr ⟨fun u h => by (cases h), .inl ?_⟩
      have : dig c = false := by
        by_cases h1 : (c.toNat : Int) < 48
        · exact dig_lo c h1
        · exact dig_hi c (by omega)
      rw [List.all_cons, this]; rfl
/-- strconv.ParseUint at base 10, 8 bits: the number, or none. -/
def short8 (l : List UInt8) : Option Nat := match parseUintB 8 l with
  | .ok u => some u
  | _ => none
theorem short8_some {l : List UInt8} {u : Nat} (h : short8 l = some u) : l ≠ [] ∧ l.all dig = true ∧ u = val l ∧ u ≤ 255 := by
  unfold short8 parseUintB at h
  by_cases hn : l = []
  · rw [if_pos hn] at h; cases h
  · rw [if_neg hn] at h
    rcases pum_cases l 0 (by omega) with ⟨h1, h2, h3⟩ | ⟨h1, h2⟩
    · rw [show (2 ^ 8 - 1 : Nat) = 255 from rfl, h1] at h
      cases h
      exact ⟨hn, h2, rfl, h3⟩
    · rw [show (2 ^ 8 - 1 : Nat) = 255 from rfl] at h
      cases hp : parseUintM 255 0 l
      case ok u => exact absurd hp (h1 u)
      all_goals (rw [hp] at h; cases h)
theorem short8_none {l : List UInt8} (h : short8 l = none) : okN l = false := by
  cases ho : okN l with
  | false => rfl
  | true =>
    have hd := okN_dig ho
    unfold okN numRes at ho
    split at ho
    · cases ho
    · split at ho
      · cases ho
      · rename_i hb hm
        have hn : l ≠ [] := by rintro rfl; exact hb rfl
        unfold short8 parseUintB at h
        rw [if_neg hn, show (2 ^ 8 - 1 : Nat) = 255 from rfl] at h
        rcases pum_cases l 0 (by omega) with ⟨h1, h2, h3⟩ | ⟨h1, h2⟩
        · rw [h1] at h; cases h
        · rcases h2 with h2 | h2
          · rw [hd] at h2; cases h2
          · have : (val l : Int) = ((valF 0 l : Nat) : Int) := rfl
            omega
theorem short8_ok {l : List UInt8} {u : Nat} (h : short8 l = some u) (hz : ¬ (l.head? = some 48 ∧ 1 < l.length)) : okN l = true ∧ ((byN l).toNat : Int) = u ∧ u ≤ 255 := by
  obtain ⟨hn, hd, hu, hb⟩ := short8_some h
  have h9 : l.length ≤ 9 := by
    cases l with
    | nil => exact absurd rfl hn
    | cons c r =>
      by_cases hr : r = []
      · subst hr; simp
      · have hrl : 1 ≤ r.length := List.length_pos_iff.2 hr
        have hc : dig c = true := by rw [List.all_cons, Bool.and_eq_true] at hd; exact hd.1
        have hc48 : c ≠ 48 := fun e => hz ⟨by rw [e]; rfl, by simp; omega⟩
        have hc2 : 49 ≤ c.toNat := by
          simp only [dig, Bool.and_eq_true, decide_eq_true_eq] at hc
          have : c.toNat ≠ 48 := fun e => hc48 (UInt8.toNat_inj.1 e)
          omega
        have hv := valF_ge r (10 * 0 + (c.toNat - 48))
        have e : val (c :: r) = valF (10 * 0 + (c.toNat - 48)) r := rfl
        rw [← e, ← hu] at hv
        by_cases h3 : r.length ≤ 8
        · simp; omega
        · have h10 : 10 ^ 3 ≤ 10 ^ r.length := Nat.pow_le_pow_right (by omega) (by omega)
          have : 1 * 10 ^ r.length ≤ (10 * 0 + (c.toNat - 48)) * 10 ^ r.length := Nat.mul_le_mul_right _ (by omega)
          omega
  have hl : 1 ≤ l.length := List.length_pos_iff.2 hn
  have hres := numRes_ok l 255 hl h9 hz hd
  rw [if_neg (by omega)] at hres
  have ho : okN l = true := by unfold okN; rw [hres]
  refine ⟨ho, ?_, hb⟩
  rw [byN_int l ho, hres, hu]
theorem okN_zero {l : List UInt8} (h1 : l.head? = some 48) (h2 : 1 < l.length) : okN l = false := by
  unfold okN; rw [numRes_zero l 255 h2 h1]
/-! ### Groups once more: one more piece -/
open Go.Proofs.YtfmnemcnonbkfaaGreatDoor
theorem hexG_16 {l : List UInt8} (h : hex16 l = true) (h4 : l.length ≤ 4) : hexG l = some [UInt8.ofNat ((hexA l).toNat / 256), UInt8.ofNat ((hexA l).toNat % 256)] := by
  unfold hex16 at h
  simp only [Bool.and_eq_true, decide_eq_true_eq] at h
  have : 1 ≤ l.length := List.length_pos_iff.2 h.1.1
  exact hexG_ok (by omega) h.1.2
theorem hexG_no16 {l : List UInt8} (h : hex16 l = false) : hexG l = none := by
  unfold hexG
  split
  · rfl
  · rename_i h2
    split
    · rename_i h3
      have hb := hexA_bd4 l (by omega) h3
      have hn : l ≠ [] := by rintro rfl; simp at h2
      unfold hex16 at h
      rw [h3, decide_eq_true hn, decide_eq_true hb.2] at h
      cases h
    · rfl
theorem hexG_long {l : List UInt8} (h : 4 < l.length) : hexG l = none := hexG_len (.inr h)
theorem hexAll_step {P : List (List UInt8)} {k : Nat} {l a x : List UInt8} (hl : P[k]? = some l) (h : hexAll (P.take k) = some a) (hx : hexG l = some x) : hexAll (P.take (k + 1)) = some (a ++ x) := by
  have hk := (List.getElem?_eq_some_iff.1 hl).1
  have e : P[k] = l := by rw [List.getElem?_eq_getElem hk] at hl; exact Option.some.inj hl
  rw [List.take_succ_eq_append_getElem hk, e, hexAll_snoc, h, hx]
end Go.Tx

namespace Go.Proofs.YtfmnemcnonbkfaaGreatDoor
open Go.RowKit Go.Lib Go.Tx Go.Rb
/-- The library's two errors are what errors are. -/
def ErrAt (g : Nat) (w : World) : Prop := ∃ ev, w.cell? ⟨g, 0, none⟩ = some ev ∧ (ev = .nilIface ∨ ∃ te pe, ev = .iface te pe)
theorem ErrAt.below {g : Nat} {w w' : World} (h : ErrAt g w) (hb : Below w.heap.size w w') : ErrAt g w' := by
  obtain ⟨ev, h1, h2⟩ := h
  refine ⟨ev, ?_, h2⟩
  have hlt : g < w.heap.size := by
    unfold World.cell? at h1
    split at h1
    · rename_i hh
      exact (Array.getElem?_eq_some_iff.1 hh).1
    · cases h1
  rw [hb.cell (p := ⟨g, 0, none⟩) hlt]
  exact h1
def PubR (r : Option Int) (w : World) (e : Ending) (w' : World) : Prop :=
  Below w.heap.size w w' ∧ match r with
    | some n => e = .returned (.tuple #[.int .u64 n, .nilIface])
    | none => ∃ (x : Int) (g : Nat), e = .returned (.tuple #[.int .u64 x, .iface 113 (.pointer (some ⟨g, 0, none⟩))])
theorem pub16_any (s : ByteArray) (w : World) (hs : s.size ≤ 1000000) (h1 : ErrAt 1 w) (h2 : ErrAt 2 w) :
    Calls Tryz.prog 58 #[.string s, .int .i64 16, .int .i64 16] w (PubR (if hex16 s.data.toList = true then some (hexA s.data.toList) else none) w) := by
  have HP := Lib.hid (pu16_any s w hs)
  have HT1 : Hid (∀ w2 : World, Below w.heap.size w w2 → Calls Tryz.prog 74 #[.string ⟨#[80, 97, 114, 115, 101, 85, 105, 110, 116]⟩, .string s, .int .i64 16, .int .i64 16, .iface 111 (.int .i64 2)] w2 fun e w' => ∃ N, e = .returned (.iface 113 (.pointer (some ⟨N, 0, none⟩))) ∧ Below w2.heap.size w2 w') := Lib.hid (fun w2 hb => by
    obtain ⟨ev, e1, e2⟩ := h1.below hb
    exact (Tryz.strconv_toError_syntax _ s 16 16 ev w2 (by omega) e1 e2).mono fun e w' ⟨N, a, _, _, b⟩ => ⟨N, a, b⟩)
  have HT2 : Hid (∀ w2 : World, Below w.heap.size w w2 → Calls Tryz.prog 74 #[.string ⟨#[80, 97, 114, 115, 101, 85, 105, 110, 116]⟩, .string s, .int .i64 16, .int .i64 16, .iface 111 (.int .i64 1)] w2 fun e w' => ∃ N, e = .returned (.iface 113 (.pointer (some ⟨N, 0, none⟩))) ∧ Below w2.heap.size w2 w') := Lib.hid (fun w2 hb => by
    obtain ⟨ev, e1, e2⟩ := h2.below hb
    exact (Tryz.strconv_toError_range _ s 16 16 ev w2 (by omega) e1 e2).mono fun e w' ⟨N, a, _, _, b⟩ => ⟨N, a, b⟩)
  have HT : Hid (∀ w2 : World, Below w.heap.size w w2 → ∀ n : Int, (n = 1 ∨ n = 2) → Calls Tryz.prog 74 #[.string ⟨#[80, 97, 114, 115, 101, 85, 105, 110, 116]⟩, .string s, .int .i64 16, .int .i64 16, .iface 111 (.int .i64 n)] w2 fun e w' => ∃ N, e = .returned (.iface 113 (.pointer (some ⟨N, 0, none⟩))) ∧ Below w2.heap.size w2 w') := Lib.hid (fun w2 hb n hn => by
    rcases hn with rfl | rfl
    · exact HT2.out w2 hb
    · exact HT1.out w2 hb)
  clear HT1 HT2
  cases hx : hex16 s.data.toList with
  | true =>
    have HX := Lib.hid hx
    clear hx
    go_enter Tryz.func58, Tryz.ntmps58
    go_wp2_with (go_at_call 73; refine HP.out.mono ?_; rintro e w2 ⟨hb, h⟩; rw [if_pos HX.out] at h; subst h)
    go_ret2
    exact ⟨hb, rfl⟩
  | false =>
    have HX := Lib.hid hx
    clear hx
    go_enter Tryz.func58, Tryz.ntmps58
    go_wp2_with (first | (go_at_call 73; refine HP.out.mono ?_; rintro e w2 ⟨hb, h⟩; rw [if_neg (by rw [HX.out]; decide)] at h; obtain ⟨x, n, hn, rfl⟩ := h; have HNn := Lib.hid hn; clear hn) | (go_at_call 74; refine (HT.out _ hb _ HNn.out).mono ?_; rintro e w3 ⟨g, rfl, hb3⟩))
    all_goals (go_ret2; exact ⟨hb.trans (hb3.mono hb.size), _, g, rfl⟩)
end Go.Proofs.YtfmnemcnonbkfaaGreatDoor

namespace Go.Proofs.YtfmnemcnonbkfaaGreatDoor
open Go.RowKit Go.Lib Go.Tx Go.Rb
/-- An array that is being filled: its first k cells hold what f says. -/
structure Arr (w : World) (b n k : Nat) (f : Nat → Value) : Prop where
  lt : b < w.heap.size
  free : ∀ j, j < n → w.frozen? ⟨b, j, none⟩ = false
  held : ∀ j, j < n → ∃ v, w.cell? ⟨b, j, none⟩ = some v
  told : ∀ j, j < k → w.cell? ⟨b, j, none⟩ = some (f j)
theorem Arr.below {w w' : World} {b n k : Nat} {f : Nat → Value} (h : Arr w b n k f) (hb : Below w.heap.size w w') : Arr w' b n k f :=
  ⟨Nat.lt_of_lt_of_le h.lt hb.size, fun j hj => by rw [World.frozen?_of_block (w := w) (hb.block b h.lt)]; exact h.free j hj, fun j hj => by rw [hb.cell (p := ⟨b, j, none⟩) h.lt]; exact h.held j hj,
    fun j hj => by rw [hb.cell (p := ⟨b, j, none⟩) h.lt]; exact h.told j hj⟩
theorem Arr.new (w : World) (arr : Array Value) (e : TypeId) (n : Nat) (h : arr.size = n) (f : Nat → Value) : Arr (w.alloc (.cells arr e)) w.heap.size n 0 f :=
  ⟨by show w.heap.size < (w.heap.push _).size; simp, fun j hj => World.frozen?_alloc_at arr e _ j rfl, fun j hj => by rw [World.cell?_alloc_new]; exact ⟨arr[j], by simp [h, hj]⟩, fun j hj => by omega⟩
theorem Arr.step {w : World} {b n k : Nat} {f : Nat → Value} {v : Value} (h : Arr w b n k f) (hk : k < n) (hv : f k = v) : Arr (w.setCell ⟨b, k, none⟩ v) b n (k + 1) f := by
  subst hv
  have hne : ∀ j, j ≠ k → (⟨b, k, none⟩ : Addr) ≠ ⟨b, j, none⟩ := fun j hj e => by cases e; exact hj rfl
  obtain ⟨u, hu⟩ := h.held k hk
  refine ⟨by simpa using h.lt, fun j hj => by simpa using h.free j hj, fun j hj => ?_, fun j hj => ?_⟩
  · by_cases e : j = k
    · subst e; exact ⟨_, World.cell?_setCell_same w _ _ hu⟩
    · rw [World.cell?_setCell_other w _ _ _ (hne j e)]; exact h.held j hj
  · by_cases e : j = k
    · subst e
      exact World.cell?_setCell_same w _ _ hu
    · rw [World.cell?_setCell_other w _ _ _ (hne j e)]; exact h.told j (by omega)
/-- What the library's variables hold. -/
structure GloAt (w : World) : Prop where
  len : ∃ m, w.cell? ⟨0, 0, none⟩ = some (.int .i64 m)
  syn : ErrAt 1 w
  rng : ErrAt 2 w
theorem GloAt.below {w w' : World} (h : GloAt w) (hb : Below w.heap.size w w') : GloAt w' := by
  refine ⟨?_, h.syn.below hb, h.rng.below hb⟩
  obtain ⟨m, hm⟩ := h.len
  have hlt : 0 < w.heap.size := by
    unfold World.cell? at hm
    split at hm
    · rename_i hh
      exact (Array.getElem?_eq_some_iff.1 hh).1
    · cases hm
  exact ⟨m, by rw [hb.cell (p := ⟨0, 0, none⟩) hlt]; exact hm⟩
def SplitN (w : World) (P : List (List UInt8)) (e : Ending) (w' : World) : Prop :=
  ∃ cap, e = .returned (.slice (some ⟨w.heap.size, 0, none⟩) P.length cap) ∧ P.length ≤ cap ∧ cap ≤ 9223372036854775807 ∧ w.heap.size < w'.heap.size ∧
    (∀ (i : Nat) l, P[i]? = some l → w'.cell? ⟨w.heap.size, i, none⟩ = some (.string ⟨l.toArray⟩)) ∧ Below w.heap.size w w'
theorem splitN_any (s : ByteArray) (c : UInt8) (n : Nat) (w : World) (hs : s.size ≤ 1000000) (h1 : 1 ≤ n) (hn : n ≤ 1000) (hg : GloAt w) :
    Calls Tryz.prog 56 #[.string s, .string ⟨#[c]⟩, .int .i64 n] w (SplitN w (cutN c n s.data.toList)) := by
  obtain ⟨m, hm⟩ := hg.len
  refine (Tryz.strings_SplitN s ⟨#[c]⟩ n m w (by omega) hm (Nat.le_refl 1) h1 (by omega)).mono ?_
  rintro e w' ⟨rfl, rfl⟩
  have hd := splitB_data ⟨#[c]⟩ 0 (min n (s.size + 1) - 1) s
  have he : (splitB ⟨#[c]⟩ 0 (min n (s.size + 1) - 1) s).map (·.data.toList) = cutN c n s.data.toList := hd
  have hlen : (cutN c n s.data.toList).length = (splitB ⟨#[c]⟩ 0 (min n (s.size + 1) - 1) s).length := by rw [← he, List.length_map]
  have hcap := splitB_length_le ⟨#[c]⟩ 0 (min n (s.size + 1) - 1) s
  refine ⟨min n (s.size + 1), by rw [hlen], by omega, by omega, by show w.heap.size < (w.heap.push _).size; simp, fun i l hi => ?_, (Below.refl _ _).alloc (Nat.le_refl _) _⟩
  rw [World.cell?_alloc_new]
  rw [← he, List.getElem?_map] at hi
  obtain ⟨x, hx, rfl⟩ := Option.map_eq_some_iff.1 hi
  have hlt := (List.getElem?_eq_some_iff.1 hx).1
  unfold cellsOf
  rw [List.getElem?_toArray, List.getElem?_append_left (by simpa using hlt), List.getElem?_map, hx]
  rfl
theorem pub8_any (s : ByteArray) (w : World) (hs : s.size ≤ 1000000) (hg : GloAt w) :
    Calls Tryz.prog 58 #[.string s, .int .i64 10, .int .i64 8] w (PubR ((short8 s.data.toList).map fun u => (u : Int)) w) := by
  unfold short8
  cases h : parseUintB 8 s.data.toList
  case ok u =>
    refine (Tryz.strconv_ParseUint_10_at8_ok s (by omega) u h w).mono ?_
    rintro e w' ⟨rfl, h2⟩
    refine ⟨?_, rfl⟩
    rcases h2 with rfl | rfl
    · exact Below.refl _ _
    · exact Lib.bytesWorld_below _ _ _
  case range =>
    obtain ⟨ev, e1, e2⟩ := hg.rng
    refine (Tryz.strconv_ParseUint_10_at8_range s (by omega) h ev w e1 e2).mono ?_
    rintro e w' ⟨N, rfl, _, _, hb⟩
    exact ⟨hb, _, N, rfl⟩
  all_goals
    obtain ⟨ev, e1, e2⟩ := hg.syn
    refine (Any.strconv_ParseUint_10_at8_syntax Tryz.laysPu14 s (by omega) h ev w e1 e2).mono ?_
    rintro e w' ⟨N, rfl, _, _, hb⟩
    exact ⟨hb, _, N, rfl⟩
theorem pub8_some (s : ByteArray) (u : Nat) (w : World) (hs : s.size ≤ 1000000) (hg : GloAt w) (h : short8 s.data.toList = some u) :
    Calls Tryz.prog 58 #[.string s, .int .i64 10, .int .i64 8] w fun e w' => e = .returned (.tuple #[.int .u64 (u : Int), .nilIface]) ∧ Below w.heap.size w w' := by
  refine (pub8_any s w hs hg).mono ?_
  rintro e w' ⟨hb, h2⟩
  rw [h] at h2
  exact ⟨h2, hb⟩
theorem pub8_none (s : ByteArray) (w : World) (hs : s.size ≤ 1000000) (hg : GloAt w) (h : short8 s.data.toList = none) :
    Calls Tryz.prog 58 #[.string s, .int .i64 10, .int .i64 8] w fun e w' => (∃ (x : Int) (g : Nat), e = .returned (.tuple #[.int .u64 x, .iface 113 (.pointer (some ⟨g, 0, none⟩))])) ∧ Below w.heap.size w w' := by
  refine (pub8_any s w hs hg).mono ?_
  rintro e w' ⟨hb, h2⟩
  rw [h] at h2
  exact ⟨h2, hb⟩
theorem prefix48 (q : ByteArray) (b : Bool) (w : World) (h : [48].isPrefixOf q.data.toList = b) : Calls Tryz.prog 57 #[.string q, .string ⟨#[48]⟩] w fun e w' => e = .returned (.bool b) ∧ w = w' := by
  refine (Tryz.strings_HasPrefix q ⟨#[48]⟩ w).mono ?_
  rintro e w' ⟨rfl, rfl⟩
  exact ⟨by rw [← h]; rfl, rfl⟩
theorem fourP_all {P : List (List UInt8)} (h4 : P.length = 4) (h : (P.take 4).all okN = true) : fourP P = some (P.map byN) := by
  rw [List.take_of_length_le (by omega)] at h
  unfold fourP
  rw [if_pos ⟨h4, h⟩]
/-- What the cells of the array say. -/
def byV (P : List (List UInt8)) (j : Nat) : Value := .int .u8 ((byN (P.getD j [])).toNat : Int)
set_option maxHeartbeats 2000000 in
set_option maxRecDepth 100000 in
theorem pshort_any (s : ByteArray) (w : World) (hs : s.size ≤ 100000) (hg : GloAt w) :
    Calls Tryz.prog 39 #[.string s] w (FourR w (fourP (splitL 46 s.data.toList))) := by
  have hS := splitN_any s 46 5 w (by omega) (by omega) (by omega) hg
  obtain ⟨P, hP⟩ : ∃ P, cutN 46 5 s.data.toList = P := ⟨_, rfl⟩
  by_cases h4 : P.length = 4
  · have hPs : splitL 46 s.data.toList = P := by rw [← cutN_four _ (by rw [hP]; exact h4)]; exact hP
    have hpl : ∀ l ∈ P, l.length ≤ 100000 := fun l hl => by
      rw [← hPs] at hl
      have := splitG_mem 46 s.data.toList [] l hl
      have e : s.data.toList.length = s.size := rfl
      simp only [List.length_nil] at this
      omega
    rw [hPs]
    rw [hP] at hS
    have HS := Lib.hid hS
    have H4 := Lib.hid h4
    have HPL := Lib.hid hpl
    have HG := Lib.hid hg
    clear hS hpl hP hPs hg
    go_enter Tryz.func39, Tryz.ntmps39
    go_wp2_with (go_at_call 56; refine HS.out.mono ?_; rintro e w2 ⟨cap, rfl, hc1, hc2, hlt2, hrd, hb⟩; rw [H4.out] at hc1 ⊢; have HRD := Lib.hid hrd; clear hrd)
    have HB := Lib.hid hb
    have hws := hb.size
    go_loopw [17] (fun i wr => ∃ k : Nat, k ≤ 4 ∧ i = .int .i64 k ∧ Hid (Arr wr w2.heap.size 4 k (byV P)) ∧ Hid ((P.take k).all okN = true) ∧ Below w2.heap.size w2 wr) (fun i _ => 4 - (RowKit.intOf i).toNat)
    case atStart => exact ⟨0, Nat.zero_le _, rfl, Lib.hid (Arr.new _ _ _ _ rfl _), Lib.hid rfl, (Below.refl _ _).alloc (Nat.le_refl _) _⟩
    case round =>
      obtain ⟨k, hk, rfl, hA, hall, hbw⟩ := hrel
      have hws2 := hbw.size
      have hG2 : Hid (GloAt wr) := Lib.hid ((HG.out.below HB.out).below hbw)
      by_cases hlt : k < 4
      · obtain ⟨l, hl⟩ : ∃ l, P[k]? = some l := ⟨_, List.getElem?_eq_getElem (by rw [H4.out]; exact hlt)⟩
        have hcell : wr.cell? ⟨w.heap.size, k, none⟩ = some (.string ⟨l.toArray⟩) := (hbw.cell (p := ⟨w.heap.size, k, none⟩) hlt2).trans (HRD.out k l hl)
        obtain ⟨q, hq⟩ : ∃ q : ByteArray, (⟨l.toArray⟩ : ByteArray) = q := ⟨_, rfl⟩
        have hql : q.data.toList = l := by rw [← hq]
        have hqs : q.size ≤ 1000000 := by
          have := HPL.out l (List.mem_of_getElem? hl)
          have e : q.data.toList.length = q.size := rfl
          rw [hql] at e
          omega
        rw [hq] at hcell
        have HL := Lib.hid hl
        have HQL := Lib.hid hql
        clear hl hq hql
        by_cases hz : l.head? = some 48 ∧ 1 < l.length
        · have HP : Hid ([48].isPrefixOf q.data.toList = true) := Lib.hid (by
            rw [HQL.out]
            cases l with
            | nil => cases hz.1
            | cons c r => have := hz.1; simp at this; subst this; rfl)
          have hne : (q.toList == [48]) = false := by
            rw [toList_data, HQL.out, beq_eq_false_iff_ne]
            rintro rfl
            exact absurd hz.2 (by decide)
          have HN := Lib.hid (fourP_no HL.out (okN_zero hz.1 hz.2))
          clear hz
          go_wp2_with (go_at_call 57; refine (prefix48 q true _ HP.out).mono ?_; rintro e w' ⟨rfl, rfl⟩)
          go_ret2
          exact ⟨by rw [HN.out]; rfl, HB.out.trans (hbw.mono HB.out.size)⟩
        · have hnz : ¬ (q.data.toList.head? = some 48 ∧ 1 < q.data.toList.length) := by rw [HQL.out]; exact hz
          have HZ := Lib.hid hz
          clear hz
          have hpre : ∃ b c : Bool, Hid ([48].isPrefixOf q.data.toList = b) ∧ Hid ((q.toList == [48]) = c) ∧ (b = false ∨ (b = true ∧ c = true)) := by
            rw [toList_data]
            cases hq : q.data.toList with
            | nil => exact ⟨false, _, Lib.hid rfl, Lib.hid rfl, .inl rfl⟩
            | cons c r =>
              by_cases e : c = 48
              · subst e
                have hr : r = [] := by
                  cases r with
                  | nil => rfl
                  | cons d r => exact absurd ⟨by rw [hq]; rfl, by rw [hq]; simp⟩ hnz
                subst hr
                exact ⟨true, true, Lib.hid rfl, Lib.hid rfl, .inr ⟨rfl, rfl⟩⟩
              · have e2 : (48 == c) = false := by rw [beq_eq_false_iff_ne]; exact fun x => e x.symm
                exact ⟨false, _, Lib.hid (by simp [List.isPrefixOf, e2]), Lib.hid rfl, .inl rfl⟩
          clear hnz
          obtain ⟨b, c, HPB, HPC, hbc⟩ := hpre
          cases hu : short8 q.data.toList with
          | none =>
            have HU := Lib.hid hu
            have HN := Lib.hid (fourP_no HL.out (by rw [← HQL.out]; exact short8_none hu))
            clear hu
            rcases hbc with rfl | ⟨rfl, rfl⟩
            · go_wp2_with (first | (go_at_call 57; refine (prefix48 q _ _ HPB.out).mono ?_; rintro e w' ⟨rfl, rfl⟩) | (go_at_call 58; refine (pub8_none q _ hqs hG2.out HU.out).mono ?_; rintro e w4 ⟨⟨x, g, rfl⟩, hb4⟩))
              go_ret2
              exact ⟨by rw [HN.out]; rfl, HB.out.trans ((hbw.trans (hb4.mono hbw.size)).mono HB.out.size)⟩
            · have hne := HPC.out
              go_wp2_with (first | (go_at_call 57; refine (prefix48 q _ _ HPB.out).mono ?_; rintro e w' ⟨rfl, rfl⟩) | (go_at_call 58; refine (pub8_none q _ hqs hG2.out HU.out).mono ?_; rintro e w4 ⟨⟨x, g, rfl⟩, hb4⟩))
              go_ret2
              exact ⟨by rw [HN.out]; rfl, HB.out.trans ((hbw.trans (hb4.mono hbw.size)).mono HB.out.size)⟩
          | some u =>
            have HU := Lib.hid hu
            obtain ⟨ho, hby, hub⟩ := short8_ok hu (by rw [HQL.out]; exact HZ.out)
            rw [HQL.out] at ho hby
            have HO := Lib.hid ho
            have HBV : Hid (byV P k = .int .u8 (u : Int)) := Lib.hid (by
              unfold byV
              rw [List.getD_eq_getElem?_getD, HL.out, Option.getD_some, hby])
            clear hu ho hby
            rcases hbc with rfl | ⟨rfl, rfl⟩
            · go_wp2_with (first | (go_at_call 57; refine (prefix48 q _ _ HPB.out).mono ?_; rintro e w' ⟨rfl, rfl⟩) | (go_at_call 58; refine (pub8_some q u _ hqs hG2.out HU.out).mono ?_; rintro e w4 ⟨rfl, hb4⟩; have hA4 := hA.out.below hb4; obtain ⟨u', hcell4⟩ := hA4.held k hlt; have hfree := hA4.free k hlt; have HA4 := Lib.hid hA4; clear hA4))
              go_roundw
              case rel => exact ⟨k + 1, hlt, by go_num, Lib.hid (HA4.out.step hlt HBV.out), Lib.hid (all_push HL.out hall.out HO.out), (hbw.trans (hb4.mono hbw.size)).setCell (Nat.le_refl _) _⟩
              case measure => simp [RowKit.intOf]; omega
            · have hne := HPC.out
              go_wp2_with (first | (go_at_call 57; refine (prefix48 q _ _ HPB.out).mono ?_; rintro e w' ⟨rfl, rfl⟩) | (go_at_call 58; refine (pub8_some q u _ hqs hG2.out HU.out).mono ?_; rintro e w4 ⟨rfl, hb4⟩; have hA4 := hA.out.below hb4; obtain ⟨u', hcell4⟩ := hA4.held k hlt; have hfree := hA4.free k hlt; have HA4 := Lib.hid hA4; clear hA4))
              go_roundw
              case rel => exact ⟨k + 1, hlt, by go_num, Lib.hid (HA4.out.step hlt HBV.out), Lib.hid (all_push HL.out hall.out HO.out), (hbw.trans (hb4.mono hbw.size)).setCell (Nat.le_refl _) _⟩
              case measure => simp [RowKit.intOf]; omega
      · obtain rfl : k = 4 := by omega
        have HF := Lib.hid (fourP_all H4.out hall.out)
        have hstr : (convert 22 9 (.slice (some ⟨w2.heap.size, 0, none⟩) 4 4)).run Tryz.prog wr = .ok (.string ⟨(P.map byN).toArray⟩) wr := by
          have hl4 : (P.map byN).length = 4 := by rw [List.length_map]; exact H4.out
          have := run_convert_bytes_back (P := Tryz.prog) wr 22 9 5 ⟨w2.heap.size, 0, none⟩ 4 (P.map byN) Tryz.underlying22 Tryz.underlying5 Tryz.underlying9 (fun j hj => by
            have ha : (⟨w2.heap.size, 0, none⟩ : Addr).add j = ⟨w2.heap.size, j, none⟩ := by unfold Addr.add; split <;> simp_all
            rw [ha, hA.out.told j (by omega)]
            have hj' : j < P.length := by rw [List.length_map] at hj; exact hj
            unfold byV
            rw [List.getD_eq_getElem?_getD, List.getElem?_eq_getElem hj', Option.getD_some, List.getElem_map])
          rw [hl4] at this
          exact this
        go_wp2
        go_ret2
        exact ⟨by rw [HF.out]; rfl, HB.out.trans (hbw.mono HB.out.size)⟩
  · have HF : Hid (fourP (splitL 46 s.data.toList) = none) := Lib.hid (cutN_notfour _ (by rw [hP]; exact h4))
    have hlen := cutN_len 46 5 s.data.toList (by omega)
    rw [hP] at hS hlen
    have HS := Lib.hid hS
    have h4' : ((P.length : Int) != 4) = true := by simp; omega
    clear hS hP
    go_enter Tryz.func39, Tryz.ntmps39
    go_wp2_with (go_at_call 56; refine HS.out.mono ?_; rintro e w2 ⟨cap, rfl, hc1, hc2, hlt2, hrd, hb⟩; clear hrd)
    go_ret2
    exact ⟨by rw [HF.out]; rfl, hb⟩
end Go.Proofs.YtfmnemcnonbkfaaGreatDoor

namespace Go.Proofs.YtfmnemcnonbkfaaGreatDoor
open Go.RowKit Go.Lib Go.Tx Go.Rb Go.Ev
theorem pub16_some (s : ByteArray) (m : Nat) (w : World) (hs : s.size ≤ 1000000) (hg : GloAt w) (h : hex16 s.data.toList = true) (hm : hexA s.data.toList = m) :
    Calls Tryz.prog 58 #[.string s, .int .i64 16, .int .i64 16] w fun e w' => e = .returned (.tuple #[.int .u64 (m : Int), .nilIface]) ∧ Below w.heap.size w w' := by
  refine (pub16_any s w hs hg.syn hg.rng).mono ?_
  rintro e w' ⟨hb, h2⟩
  rw [if_pos h, hm] at h2
  exact ⟨h2, hb⟩
theorem pub16_none (s : ByteArray) (w : World) (hs : s.size ≤ 1000000) (hg : GloAt w) (h : hex16 s.data.toList = false) :
    Calls Tryz.prog 58 #[.string s, .int .i64 16, .int .i64 16] w fun e w' => (∃ (x : Int) (g : Nat), e = .returned (.tuple #[.int .u64 x, .iface 113 (.pointer (some ⟨g, 0, none⟩))])) ∧ Below w.heap.size w w' := by
  refine (pub16_any s w hs hg.syn hg.rng).mono ?_
  rintro e w' ⟨hb, h2⟩
  rw [if_neg (by rw [h]; decide)] at h2
  exact ⟨h2, hb⟩
theorem pgroups_nil (s : ByteArray) (w : World) (h : s.data.toList = []) :
    Calls Tryz.prog 54 #[.string s] w (FourR w (pgP s.data.toList)) := by
  have HG : Hid (pgP s.data.toList = some []) := Lib.hid (by unfold pgP; rw [if_pos h])
  have e1 : s = ⟨#[]⟩ := by apply ByteArray.ext; apply Array.ext'; exact h
  subst e1
  clear h
  go_enter Tryz.func54, Tryz.ntmps54
  go_wp2
  go_ret2
  exact ⟨by rw [HG.out]; rfl, Below.refl _ _⟩
theorem four_or (r : Option (List UInt8)) : (∃ f, r = some f) ∨ r = none := by cases r with
  | none => exact .inr rfl
  | some f => exact .inl ⟨f, rfl⟩
theorem hex16_bd {l : List UInt8} (h : hex16 l = true) : ∃ m : Nat, hexA l = m ∧ m ≤ 65535 := by
  unfold hex16 at h
  simp only [Bool.and_eq_true, decide_eq_true_eq] at h
  have h0 : 0 ≤ hexA l := hexA_from l 0 (fun c hc => by
    have := h.1.2
    unfold hexOk at this
    rw [List.all_eq_true] at this
    simpa using this c hc) (by omega)
  exact ⟨(hexA l).toNat, by omega, by omega⟩
theorem join_str (a f : List UInt8) : (⟨a.toArray⟩ : ByteArray) ++ ⟨f.toArray⟩ = ⟨(a ++ f).toArray⟩ := by
  apply ByteArray.ext
  apply Array.ext'
  simp
set_option maxHeartbeats 4000000 in
set_option maxRecDepth 100000 in
theorem pgroups_yes (s : ByteArray) (w : World) (hs : s.size ≤ 100000) (hg : GloAt w) (h0 : s.data.toList ≠ []) (P : List (List UInt8)) (N : Nat) (hP : cutN 58 9 s.data.toList = P) (hN : P.length = N + 1) (lst : List UInt8) (hlst : P[N]? = some lst) (f : List UInt8) (hf : fourP (splitL 46 lst) = some f) (hpl : ∀ l ∈ P, l.length ≤ 100000) :
    Calls Tryz.prog 54 #[.string s] w (FourR w (pgP s.data.toList)) := by
  obtain ⟨i5, hi, hz0, hz1, hz2⟩ := info_parts info5
  have hS := splitN_any s 58 9 w (by omega) (by omega) (by omega) hg
  have hlen := cutN_len 58 9 s.data.toList (by omega)
  rw [hP] at hS hlen
  rw [hN] at hlen
  have hl2 : P.getLastD [] = lst := by
    rw [List.getLastD_eq_getLast?, List.getLast?_eq_getElem?, hN, Nat.add_sub_cancel, hlst]; rfl
  have hpg : pgP s.data.toList = (hexAll (P.take N)).map (· ++ f) := by
    unfold pgP
    rw [if_neg h0, hP, hl2, hf, List.dropLast_eq_take, hN]; rfl
  have HE : Hid (∀ a, hexAll (P.take N) = some a → pgP s.data.toList = some (a ++ f)) := Lib.hid (fun a h => by rw [hpg, h]; rfl)
  have HK : Hid (∀ l ∈ P.take N, hexG l = none → pgP s.data.toList = none) := Lib.hid (fun l hl h => by rw [hpg, hexAll_no hl h]; rfl)
  have hf4 := fourP_len hf
  have HS := Lib.hid hS
  have HN := Lib.hid hN
  have HL := Lib.hid hlst
  have HPL := Lib.hid hpl
  have HG := Lib.hid hg
  have hll := hpl lst (List.mem_of_getElem? hlst)
  obtain ⟨ql, hq⟩ : ∃ q : ByteArray, (⟨lst.toArray⟩ : ByteArray) = q := ⟨_, rfl⟩
  have hqs : ql.size ≤ 100000 := by
    rw [← hq]
    show lst.toArray.size ≤ _
    simpa using hll
  have hqf : fourP (splitL 46 ql.data.toList) = some f := by rw [← hq]; exact hf
  have HQF := Lib.hid hqf
  have HQ := Lib.hid hq
  have e1 : ¬ s.toList = [] := by rw [toList_data]; exact h0
  have e2 : s.toList.isEmpty = false := by cases hh : s.toList with | nil => exact absurd hh e1 | cons x y => rfl
  clear hS hN hlst hpl hg hf hP hpg hl2 hq hqf h0 hll
  go_enter Tryz.func54, Tryz.ntmps54
  go_wp2_with (first | (go_at_call 56; refine HS.out.mono ?_; rintro e w2 ⟨cap, rfl, hc1, hc2, hlt2, hrd, hb⟩; rw [HN.out] at hc1 ⊢; have hlc := hrd N lst HL.out; rw [HQ.out] at hlc; have HRD := Lib.hid hrd; have HB := Lib.hid hb; have hbs := hb.size; clear hrd hb) | (go_at_call 39; refine (pshort_any ql _ hqs (HG.out.below HB.out)).mono ?_; rw [HQF.out]; rintro e w3 ⟨rfl, hb3⟩; simp only [Option.getD_some, Option.getD_none, Option.isSome_some, Option.isSome_none]; have HB3 := Lib.hid hb3; have hbs3 := hb3.size; clear hb3))
  go_loopw [8, 36] (fun av i wr => ∃ (k : Nat) (a : List UInt8), k ≤ N ∧ i = .int .i64 k ∧ Hid (RB w3.heap.size wr av a) ∧ Hid (hexAll (P.take k) = some a) ∧ Hid (a.length = 2 * k) ∧ Below w3.heap.size w3 wr) (fun _ i _ => N - (RowKit.intOf i).toNat)
  case atStart => exact ⟨0, [], Nat.zero_le _, rfl, Lib.hid (RB.nil _ _), Lib.hid rfl, Lib.hid rfl, Below.refl _ _⟩
  case round =>
    obtain ⟨k, a, hk, rfl, hO, hall, hal, hbw⟩ := hrel
    have hws := hbw.size
    have hal2 : a.length ≤ 1000 := by have := hal.out; omega
    obtain ⟨pa, ca, rfl, hca1, hca2⟩ := hO.out.shape
    have hG2 : Hid (GloAt wr) := Lib.hid (((HG.out.below HB.out).below HB3.out).below hbw)
    by_cases hlt : k < N
    · obtain ⟨l, hl⟩ : ∃ l, P[k]? = some l := ⟨_, List.getElem?_eq_getElem (by rw [HN.out]; omega)⟩
      have hcell : wr.cell? ⟨w.heap.size, k, none⟩ = some (.string ⟨l.toArray⟩) := (hbw.cell (p := ⟨w.heap.size, k, none⟩) (by show w.heap.size < _; omega)).trans ((HB3.out.cell (p := ⟨w.heap.size, k, none⟩) hlt2).trans (HRD.out k l hl))
      obtain ⟨q, hq⟩ : ∃ q : ByteArray, (⟨l.toArray⟩ : ByteArray) = q := ⟨_, rfl⟩
      have hql : q.data.toList = l := by rw [← hq]
      have hqs : q.size ≤ 1000000 := by
        have := HPL.out l (List.mem_of_getElem? hl)
        have e : q.data.toList.length = q.size := rfl
        rw [hql] at e
        omega
      rw [hq] at hcell
      have HL := Lib.hid hl
      have HQL := Lib.hid hql
      have HKl : Hid (hexG l = none → pgP s.data.toList = none) := Lib.hid (HK.out l (by
        have := List.getElem?_take_of_lt (l := P) (i := k) (j := N) hlt
        rw [hl] at this
        exact List.mem_of_getElem? this))
      have hqz : q.data.toList.length = q.size := rfl
      rw [hql] at hqz
      have HQZ := Lib.hid hqz
      clear hl hq hql hqz
      cases hx : hex16 q.data.toList with
      | false =>
        have HX := Lib.hid hx
        have HY := Lib.hid (HKl.out (hexG_no16 (by rw [← HQL.out]; exact hx)))
        clear hx
        go_wp2_with (go_at_call 58; refine (pub16_none q _ hqs hG2.out HX.out).mono ?_; rintro e w4 ⟨⟨x, g, rfl⟩, hb4⟩)
        go_ret2
        exact ⟨by rw [HY.out]; rfl, HB.out.trans ((HB3.out.trans ((hbw.trans (hb4.mono hbw.size)).mono HB3.out.size)).mono HB.out.size)⟩
      | true =>
        obtain ⟨m, hm, hm2⟩ := hex16_bd hx
        have HX := Lib.hid hx
        have HM := Lib.hid hm
        by_cases h4 : 4 < q.size
        · have HY := Lib.hid (HKl.out (hexG_long (by rw [HQZ.out]; exact h4)))
          clear hx hm
          go_wp2_with (go_at_call 58; refine (pub16_some q m _ hqs hG2.out HX.out HM.out).mono ?_; rintro e w4 ⟨rfl, hb4⟩)
          go_ret2
          exact ⟨by rw [HY.out]; rfl, HB.out.trans ((HB3.out.trans ((hbw.trans (hb4.mono hbw.size)).mono HB3.out.size)).mono HB.out.size)⟩
        · have h4' : q.size ≤ 4 := by omega
          have HY : Hid (hexG l = some [UInt8.ofNat (m / 256), UInt8.ofNat (m % 256)]) := Lib.hid (by
            have := hexG_16 hx (by rw [HQL.out, HQZ.out]; exact h4')
            rw [hm, HQL.out] at this
            exact this)
          clear hx hm h4
          go_wp2_with (first | (go_at_call 58; refine (pub16_some q m _ hqs hG2.out HX.out HM.out).mono ?_; rintro e w4 ⟨rfl, hb4⟩; have HO4 := Lib.hid (hO.out.below hb4); have hbs4 := hb4.size) | (at_builtin; refine wpList_append_rb rfl _ _ 22 22 rfl Tryz.underlying22 Tryz.underlying22 (by intro k h; cases h) hi hz0 hz1 hz2 (B := w3.heap.size) (l := a) (m := [UInt8.ofNat (m / 256), UInt8.ofNat (m % 256)]) rfl rfl (HO4.out.alloc _) (lit2 _ () (by simp; omega) (by simp)) (Nat.le_trans (Nat.le_trans hws hbs4) (Nat.le_of_lt (by simp))) (by simp; omega) ?_; intro s' w5 hO5 hb5))
          go_roundw
          case rel => exact ⟨k + 1, a ++ [UInt8.ofNat (m / 256), UInt8.ofNat (m % 256)], hlt, by go_num, Lib.hid hO5, Lib.hid (hexAll_step HL.out hall.out HY.out), Lib.hid (by have := hal.out; simp; omega), ((hbw.trans (hb4.mono hws)).alloc (Nat.le_trans hws hbs4) _).trans hb5⟩
          case measure => simp [RowKit.intOf]; omega
    · obtain rfl : k = N := by omega
      have HF := Lib.hid (HE.out a hall.out)
      have hstr := hO.out.str (P := Tryz.prog) (src := 22) (dst := 9) Tryz.underlying22 Tryz.underlying5 Tryz.underlying9
      have hX : (⟨a.toArray⟩ : ByteArray).size ≤ 1000 := by show a.toArray.size ≤ _; simp; omega
      have hX2 : (⟨f.toArray⟩ : ByteArray).size ≤ 1000 := by show f.toArray.size ≤ _; simp; omega
      go_wp2
      go_ret2
      exact ⟨by rw [HF.out]; simp only [Option.getD_some, Option.isSome_some, ← join_str]; rfl, HB.out.trans ((HB3.out.trans (hbw.mono HB3.out.size)).mono HB.out.size)⟩
set_option maxHeartbeats 4000000 in
set_option maxRecDepth 100000 in
theorem pgroups_no (s : ByteArray) (w : World) (hs : s.size ≤ 100000) (hg : GloAt w) (h0 : s.data.toList ≠ []) (P : List (List UInt8)) (N : Nat) (hP : cutN 58 9 s.data.toList = P) (hN : P.length = N + 1) (lst : List UInt8) (hlst : P[N]? = some lst) (hf : fourP (splitL 46 lst) = none) (hpl : ∀ l ∈ P, l.length ≤ 100000) :
    Calls Tryz.prog 54 #[.string s] w (FourR w (pgP s.data.toList)) := by
  obtain ⟨i5, hi, hz0, hz1, hz2⟩ := info_parts info5
  have hS := splitN_any s 58 9 w (by omega) (by omega) (by omega) hg
  have hlen := cutN_len 58 9 s.data.toList (by omega)
  rw [hP] at hS hlen
  rw [hN] at hlen
  have hl2 : P.getLastD [] = lst := by
    rw [List.getLastD_eq_getLast?, List.getLast?_eq_getElem?, hN, Nat.add_sub_cancel, hlst]; rfl
  have hpg : pgP s.data.toList = hexAll P := by
    unfold pgP
    rw [if_neg h0, hP, hl2, hf]
  have htk : P.take (N + 1) = P := List.take_of_length_le (by omega)
  have HE : Hid (∀ a, hexAll (P.take (N + 1)) = some a → pgP s.data.toList = some (a ++ [])) := Lib.hid (fun a h => by rw [htk] at h; rw [hpg, h, List.append_nil])
  have HK : Hid (∀ l ∈ P.take (N + 1), hexG l = none → pgP s.data.toList = none) := Lib.hid (fun l hl h => by rw [htk] at hl; rw [hpg, hexAll_no hl h])
  clear htk
  have HS := Lib.hid hS
  have HN := Lib.hid hN
  have HL := Lib.hid hlst
  have HPL := Lib.hid hpl
  have HG := Lib.hid hg
  have hll := hpl lst (List.mem_of_getElem? hlst)
  obtain ⟨ql, hq⟩ : ∃ q : ByteArray, (⟨lst.toArray⟩ : ByteArray) = q := ⟨_, rfl⟩
  have hqs : ql.size ≤ 100000 := by
    rw [← hq]
    show lst.toArray.size ≤ _
    simpa using hll
  have hqf : fourP (splitL 46 ql.data.toList) = none := by rw [← hq]; exact hf
  have HQF := Lib.hid hqf
  have HQ := Lib.hid hq
  have e1 : ¬ s.toList = [] := by rw [toList_data]; exact h0
  have e2 : s.toList.isEmpty = false := by cases hh : s.toList with | nil => exact absurd hh e1 | cons x y => rfl
  clear hS hN hlst hpl hg hf hP hpg hl2 hq hqf h0 hll
  go_enter Tryz.func54, Tryz.ntmps54
  go_wp2_with (first | (go_at_call 56; refine HS.out.mono ?_; rintro e w2 ⟨cap, rfl, hc1, hc2, hlt2, hrd, hb⟩; rw [HN.out] at hc1 ⊢; have hlc := hrd N lst HL.out; rw [HQ.out] at hlc; have HRD := Lib.hid hrd; have HB := Lib.hid hb; have hbs := hb.size; clear hrd hb) | (go_at_call 39; refine (pshort_any ql _ hqs (HG.out.below HB.out)).mono ?_; rw [HQF.out]; rintro e w3 ⟨rfl, hb3⟩; simp only [Option.getD_some, Option.getD_none, Option.isSome_some, Option.isSome_none]; have HB3 := Lib.hid hb3; have hbs3 := hb3.size; clear hb3))
  go_loopw [8, 36] (fun av i wr => ∃ (k : Nat) (a : List UInt8), k ≤ (N + 1) ∧ i = .int .i64 k ∧ Hid (RB w3.heap.size wr av a) ∧ Hid (hexAll (P.take k) = some a) ∧ Hid (a.length = 2 * k) ∧ Below w3.heap.size w3 wr) (fun _ i _ => (N + 1) - (RowKit.intOf i).toNat)
  case atStart => exact ⟨0, [], Nat.zero_le _, rfl, Lib.hid (RB.nil _ _), Lib.hid rfl, Lib.hid rfl, Below.refl _ _⟩
  case round =>
    obtain ⟨k, a, hk, rfl, hO, hall, hal, hbw⟩ := hrel
    have hws := hbw.size
    have hal2 : a.length ≤ 1000 := by have := hal.out; omega
    obtain ⟨pa, ca, rfl, hca1, hca2⟩ := hO.out.shape
    have hG2 : Hid (GloAt wr) := Lib.hid (((HG.out.below HB.out).below HB3.out).below hbw)
    by_cases hlt : k < (N + 1)
    · obtain ⟨l, hl⟩ : ∃ l, P[k]? = some l := ⟨_, List.getElem?_eq_getElem (by rw [HN.out]; omega)⟩
      have hcell : wr.cell? ⟨w.heap.size, k, none⟩ = some (.string ⟨l.toArray⟩) := (hbw.cell (p := ⟨w.heap.size, k, none⟩) (by show w.heap.size < _; omega)).trans ((HB3.out.cell (p := ⟨w.heap.size, k, none⟩) hlt2).trans (HRD.out k l hl))
      obtain ⟨q, hq⟩ : ∃ q : ByteArray, (⟨l.toArray⟩ : ByteArray) = q := ⟨_, rfl⟩
      have hql : q.data.toList = l := by rw [← hq]
      have hqs : q.size ≤ 1000000 := by
        have := HPL.out l (List.mem_of_getElem? hl)
        have e : q.data.toList.length = q.size := rfl
        rw [hql] at e
        omega
      rw [hq] at hcell
      have HL := Lib.hid hl
      have HQL := Lib.hid hql
      have HKl : Hid (hexG l = none → pgP s.data.toList = none) := Lib.hid (HK.out l (by
        have := List.getElem?_take_of_lt (l := P) (i := k) (j := (N + 1)) hlt
        rw [hl] at this
        exact List.mem_of_getElem? this))
      have hqz : q.data.toList.length = q.size := rfl
      rw [hql] at hqz
      have HQZ := Lib.hid hqz
      clear hl hq hql hqz
      cases hx : hex16 q.data.toList with
      | false =>
        have HX := Lib.hid hx
        have HY := Lib.hid (HKl.out (hexG_no16 (by rw [← HQL.out]; exact hx)))
        clear hx
        go_wp2_with (go_at_call 58; refine (pub16_none q _ hqs hG2.out HX.out).mono ?_; rintro e w4 ⟨⟨x, g, rfl⟩, hb4⟩)
        go_ret2
        exact ⟨by rw [HY.out]; rfl, HB.out.trans ((HB3.out.trans ((hbw.trans (hb4.mono hbw.size)).mono HB3.out.size)).mono HB.out.size)⟩
      | true =>
        obtain ⟨m, hm, hm2⟩ := hex16_bd hx
        have HX := Lib.hid hx
        have HM := Lib.hid hm
        by_cases h4 : 4 < q.size
        · have HY := Lib.hid (HKl.out (hexG_long (by rw [HQZ.out]; exact h4)))
          clear hx hm
          go_wp2_with (go_at_call 58; refine (pub16_some q m _ hqs hG2.out HX.out HM.out).mono ?_; rintro e w4 ⟨rfl, hb4⟩)
          go_ret2
          exact ⟨by rw [HY.out]; rfl, HB.out.trans ((HB3.out.trans ((hbw.trans (hb4.mono hbw.size)).mono HB3.out.size)).mono HB.out.size)⟩
        · have h4' : q.size ≤ 4 := by omega
          have HY : Hid (hexG l = some [UInt8.ofNat (m / 256), UInt8.ofNat (m % 256)]) := Lib.hid (by
            have := hexG_16 hx (by rw [HQL.out, HQZ.out]; exact h4')
            rw [hm, HQL.out] at this
            exact this)
          clear hx hm h4
          go_wp2_with (first | (go_at_call 58; refine (pub16_some q m _ hqs hG2.out HX.out HM.out).mono ?_; rintro e w4 ⟨rfl, hb4⟩; have HO4 := Lib.hid (hO.out.below hb4); have hbs4 := hb4.size) | (at_builtin; refine wpList_append_rb rfl _ _ 22 22 rfl Tryz.underlying22 Tryz.underlying22 (by intro k h; cases h) hi hz0 hz1 hz2 (B := w3.heap.size) (l := a) (m := [UInt8.ofNat (m / 256), UInt8.ofNat (m % 256)]) rfl rfl (HO4.out.alloc _) (lit2 _ () (by simp; omega) (by simp)) (Nat.le_trans (Nat.le_trans hws hbs4) (Nat.le_of_lt (by simp))) (by simp; omega) ?_; intro s' w5 hO5 hb5))
          go_roundw
          case rel => exact ⟨k + 1, a ++ [UInt8.ofNat (m / 256), UInt8.ofNat (m % 256)], hlt, by go_num, Lib.hid hO5, Lib.hid (hexAll_step HL.out hall.out HY.out), Lib.hid (by have := hal.out; simp; omega), ((hbw.trans (hb4.mono hws)).alloc (Nat.le_trans hws hbs4) _).trans hb5⟩
          case measure => simp [RowKit.intOf]; omega
    · obtain rfl : k = (N + 1) := by omega
      have HF := Lib.hid (HE.out a hall.out)
      have hstr := hO.out.str (P := Tryz.prog) (src := 22) (dst := 9) Tryz.underlying22 Tryz.underlying5 Tryz.underlying9
      have hX : (⟨a.toArray⟩ : ByteArray).size ≤ 1000 := by show a.toArray.size ≤ _; simp; omega
      go_wp2
      go_ret2
      exact ⟨by rw [HF.out]; simp only [Option.getD_some, Option.isSome_some, ← join_str]; rfl, HB.out.trans ((HB3.out.trans (hbw.mono HB3.out.size)).mono HB.out.size)⟩
theorem pgroups_any (s : ByteArray) (w : World) (hs : s.size ≤ 100000) (hg : GloAt w) :
    Calls Tryz.prog 54 #[.string s] w (FourR w (pgP s.data.toList)) := by
  by_cases h0 : s.data.toList = []
  · exact pgroups_nil s w h0
  have hlen := cutN_len 58 9 s.data.toList (by omega)
  obtain ⟨P, hP⟩ : ∃ P, cutN 58 9 s.data.toList = P := ⟨_, rfl⟩
  rw [hP] at hlen
  obtain ⟨N, hN⟩ : ∃ N, P.length = N + 1 := ⟨P.length - 1, by omega⟩
  obtain ⟨lst, hlst⟩ : ∃ l, P[N]? = some l := ⟨_, List.getElem?_eq_getElem (by omega)⟩
  have hpl : ∀ l ∈ P, l.length ≤ 100000 := fun l hl => by
    rw [← hP] at hl
    have := cutN_mem hl
    have e : s.data.toList.length = s.size := rfl
    omega
  rcases four_or (fourP (splitL 46 lst)) with ⟨f, hf⟩ | hf
  · exact pgroups_yes s w hs hg h0 P N hP hN lst hlst f hf hpl
  · exact pgroups_no s w hs hg h0 P N hP hN lst hlst hf hpl
end Go.Proofs.YtfmnemcnonbkfaaGreatDoor

