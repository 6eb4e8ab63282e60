/- A service table in memory: its block, its two maps keyed by structs; contracts of fill and add. -/
import Derived.Test.YtmnahgeledddhaaVd
import Derived.Test.YtmnahgeledddhaaVm
import Derived.Deep.RegionHeld3
import Derived.StillTailTactics
import Derived.Deep.QuietTactic
import Derived.Laws.Cover3
namespace Go.Tx
open Go.RowKit Go.Mk
theorem own_same {B : Nat} {e : TypeId} {size n : Nat} {v : Value} {xs : List Value} {w w' : World} (h : w.ownsRow B e size v n xs) (hb : ∀ j, B ≤ j → w'.heap[j]? = w.heap[j]?) : w'.ownsRow B e size v n xs := by
  refine ⟨h.1, ?_⟩
  rcases h.2 with h | ⟨g, cap, cur, h1, h2, h3, h4⟩
  · exact .inl h
  · exact .inr ⟨g, cap, cur, h1, h2, by rw [hb g h2]; exact h3, h4⟩
theorem heap_setCell_ne (w : World) (b j off : Nat) (v : Value) (h : j ≠ b) : (w.setCell ⟨b, off, none⟩ v).heap[j]? = w.heap[j]? := by
  show (w.heap.modify b _)[j]? = _
  rw [Array.getElem?_modify, if_neg (fun e => h e.symm)]
theorem heap_setCell_eq (w : World) (b off : Nat) (v : Value) (c : Array Value) (e : TypeId) (fr : Nat × Nat) (h : w.heap[b]? = some (.cells c e fr)) : (w.setCell ⟨b, off, none⟩ v).heap[b]? = some (.cells (c.setIfInBounds off v) e fr) := by
  show (w.heap.modify b _)[b]? = _
  rw [Array.getElem?_modify, if_pos rfl, h]
  rfl
theorem size_setCell' (w : World) (a : Addr) (v : Value) : (w.setCell a v).heap.size = w.heap.size := by
  show (w.heap.modify _ _).size = _
  simp
/-- The keys. -/
def kS (q : List UInt8 × List UInt8) : Value := .agg #[.string ⟨q.1.toArray⟩, .string ⟨q.2.toArray⟩]
def kP (q : Int × List UInt8) : Value := .agg #[.int .i64 q.1, .string ⟨q.2.toArray⟩]
theorem bk (k : ByteArray) : (⟨k.data.toList.toArray⟩ : ByteArray) = k := by cases k; simp
/-- Block p is a table of n rows, with the maps m1 (A: ports by names) and m2 (C: names by ports); its slices lie from block L on. -/
structure SB (L : Nat) (w : World) (p m1 m2 : Nat) (n : Nat) (A : List UInt8 × List UInt8 → Option Int) (C : Int × List UInt8 → Option (List (List UInt8))) (G : Int × List UInt8 → Option Value) : Prop where
  pl : p < L
  l1 : m1 < L
  l2 : m2 < L
  n1 : p ≠ m1
  n2 : p ≠ m2
  n12 : m1 ≠ m2
  size : L ≤ w.heap.size
  blk : w.heap[p]? = some (.cells #[.int .i64 (n : Int), .map (some m1), .map (some m2)] 47 (0, 0))
  f : MapK kS w m1 fun k => (A k).map (Value.int .i64)
  g : MapK kP w m2 G
  hG : ∀ k, match C k with
    | none => G k = none
    | some ws => ∃ v, G k = some v ∧ StrC L w v ws
/-- What a call may have turned: the table's block, its maps, and what lies from L on. -/
structure Out (L : Nat) (w w' : World) (p m1 m2 : Nat) : Prop where
  os : w'.os = w.os
  tape : w'.tape = w.tape
  output : w'.output = w.output
  size : w.heap.size ≤ w'.heap.size
  same : ∀ j, j < w.heap.size → j ≠ p → j ≠ m1 → j ≠ m2 → w'.heap[j]? = w.heap[j]?
theorem Out.refl (L : Nat) (w : World) (p m1 m2 : Nat) : Out L w w p m1 m2 := ⟨rfl, rfl, rfl, Nat.le_refl _, fun _ _ _ _ _ => rfl⟩
theorem Out.trans {L : Nat} {w w' w'' : World} {p m1 m2 : Nat} (h : Out L w w' p m1 m2) (k : Out L w' w'' p m1 m2) : Out L w w'' p m1 m2 :=
  ⟨k.os.trans h.os, k.tape.trans h.tape, k.output.trans h.output, Nat.le_trans h.size k.size, fun j a b c d => (k.same j (Nat.lt_of_lt_of_le a h.size) b c d).trans (h.same j a b c d)⟩
theorem Out.below {L : Nat} {w w' w'' : World} {p m1 m2 : Nat} (h : Out L w w' p m1 m2) (k : Below w'.heap.size w' w'') : Out L w w'' p m1 m2 :=
  h.trans ⟨k.os, k.tape, k.output, k.size, fun j a _ _ _ => k.block j a⟩
section
variable {L : Nat} {w w' : World} {p m1 m2 n : Nat} {A : List UInt8 × List UInt8 → Option Int} {C : Int × List UInt8 → Option (List (List UInt8))} {G : Int × List UInt8 → Option Value}
theorem SB.below (h : SB L w p m1 m2 n A C G) (hb : Below w.heap.size w w') : SB L w' p m1 m2 n A C G :=
  { h with
    size := Nat.le_trans h.size hb.size
    blk := by rw [hb.block p (Nat.lt_of_lt_of_le h.pl h.size)]; exact h.blk
    f := h.f.same (hb.block m1 (Nat.lt_of_lt_of_le h.l1 h.size))
    g := h.g.same (hb.block m2 (Nat.lt_of_lt_of_le h.l2 h.size))
    hG := fun k => by
      have := h.hG k
      split
      · rename_i e; rw [e] at this; exact this
      · rename_i ws e
        rw [e] at this
        obtain ⟨v, h1, h2⟩ := this
        exact ⟨v, h1, own_below h2 hb⟩ }
theorem SB.cast {A' : List UInt8 × List UInt8 → Option Int} (h : SB L w p m1 m2 n A C G) (e : A' = A) : SB L w p m1 m2 n A' C G := by subst e; exact h
theorem SB.cells (h : SB L w p m1 m2 n A C G) : w.cell? ⟨p, 0, none⟩ = some (.int .i64 (n : Int)) ∧ w.cell? ⟨p, 1, none⟩ = some (.map (some m1)) ∧ w.cell? ⟨p, 2, none⟩ = some (.map (some m2)) ∧ w.frozen? ⟨p, 0, none⟩ = false := by
  have hb := h.blk
  exact ⟨by simp [World.cell?, hb], by simp [World.cell?, hb], by simp [World.cell?, hb], by simp [World.frozen?, hb]⟩
theorem SB.bump (h : SB L w p m1 m2 n A C G) : SB L (w.setCell ⟨p, 0, none⟩ (.int .i64 ((n + 1 : Nat) : Int))) p m1 m2 (n + 1) A C G :=
  have hp := h.pl
  have hs : ∀ j, L ≤ j → (w.setCell ⟨p, 0, none⟩ (.int .i64 ((n + 1 : Nat) : Int))).heap[j]? = w.heap[j]? := fun j hj => heap_setCell_ne _ _ _ _ _ (by omega)
  { h with
    size := by rw [size_setCell']; exact h.size
    blk := by rw [heap_setCell_eq _ _ _ _ _ _ _ h.blk]; rfl
    f := h.f.same (heap_setCell_ne _ _ _ _ _ (fun e => h.n1 e.symm))
    g := h.g.same (heap_setCell_ne _ _ _ _ _ (fun e => h.n2 e.symm))
    hG := fun k => by
      have := h.hG k
      split
      · rename_i e; rw [e] at this; exact this
      · rename_i ws e
        rw [e] at this
        obtain ⟨v, h1, h2⟩ := this
        exact ⟨v, h1, own_same h2 hs⟩ }
theorem Out.bump (h : Out L w w' p m1 m2) (v : Value) (off : Nat) : Out L w (w'.setCell ⟨p, off, none⟩ v) p m1 m2 :=
  h.trans ⟨rfl, rfl, rfl, by rw [size_setCell']; exact Nat.le_refl _, fun j _ hj _ _ => heap_setCell_ne _ _ _ _ _ hj⟩
/-- Behind a store of names. -/
theorem SB.putG (h : SB L w p m1 m2 n A C G) {a : Int × List UInt8} {v : Value} {f : List (List UInt8)} (hC : C a = none) (hv : StrC L w v f)
    (hg : MapK kP w' m2 (updK G a v)) (hs : w'.heap.size = w.heap.size) (hh : ∀ j, j ≠ m2 → w'.heap[j]? = w.heap[j]?) : SB L w' p m1 m2 n A (fillC C a f) (updK G a v) :=
  have hl := h.l2
  have hsame : ∀ j, L ≤ j → w'.heap[j]? = w.heap[j]? := fun j hj => hh j (by omega)
  { h with
    size := by rw [hs]; exact h.size
    blk := by rw [hh p h.n2]; exact h.blk
    f := h.f.same (hh m1 h.n12)
    g := hg
    hG := fun k => by
      have hk := h.hG k
      unfold fillC updK
      by_cases e : k = a
      · subst e
        rw [hC]
        simp only [if_true]
        exact ⟨v, rfl, own_same hv hsame⟩
      · simp only [if_neg e]
        cases hc : C k with
        | none => rw [hc] at hk; exact hk
        | some ws =>
          rw [hc] at hk
          simp only
          obtain ⟨v2, h1, h2⟩ := hk
          exact ⟨v2, h1, own_same h2 hsame⟩ }
/-- Behind a store of a port. -/
theorem SB.putF (h : SB L w p m1 m2 n A C G) {a : List UInt8 × List UInt8} {x : Int} (hA : A a = none)
    (hf : MapK kS w' m1 (updK (fun k => (A k).map (Value.int .i64)) a (.int .i64 x))) (hs : w'.heap.size = w.heap.size) (hh : ∀ j, j ≠ m1 → w'.heap[j]? = w.heap[j]?) :
    SB L w' p m1 m2 n (oneA A a x) C G :=
  have hl := h.l1
  have hsame : ∀ j, L ≤ j → w'.heap[j]? = w.heap[j]? := fun j hj => hh j (by omega)
  { h with
    size := by rw [hs]; exact h.size
    blk := by rw [hh p h.n1]; exact h.blk
    f := hf.cast fun k => by
      unfold updK oneA
      by_cases e : k = a
      · subst e; simp [hA]
      · simp only [if_neg e]
        cases A k <;> rfl
    g := h.g.same (hh m2 (fun e => h.n12 e.symm))
    hG := fun k => by
      have := h.hG k
      split
      · rename_i e; rw [e] at this; exact this
      · rename_i ws e
        rw [e] at this
        obtain ⟨v, h1, h2⟩ := this
        exact ⟨v, h1, own_same h2 hsame⟩ }
end
end Go.Tx
namespace Go.Proofs.Ytmnahgeledddhaa
open Go.RowKit Go.Lib Go.Tx Go.Mk
theorem l_inj {a b : List UInt8} (h : Value.string ⟨a.toArray⟩ = Value.string ⟨b.toArray⟩) : a = b := by
  simp only [Value.string.injEq, ByteArray.mk.injEq] at h
  exact List.toArray_inj h
theorem l_eq (a b : List UInt8) : ((⟨a.toArray⟩ : ByteArray).toList == (⟨b.toArray⟩ : ByteArray).toList) = decide (a = b) := by
  rw [Go.Lib.toList_data, Go.Lib.toList_data]
  show (a.toArray.toList == b.toArray.toList) = _
  by_cases h : a = b
  · subst h; simp
  · rw [decide_eq_false h]; simpa using h
theorem keyS : KeyOK Try.prog 66 kS := by
  have h := key_two (P := Try.prog) (k := 66) (t1 := 9) (t2 := 9) (κ1 := fun l : List UInt8 => Value.string ⟨l.toArray⟩) (κ2 := fun l : List UInt8 => Value.string ⟨l.toArray⟩) (by kernel_rfl) (by kernel_rfl) (by kernel_rfl)
    (fun w em n a => by simp [Instr.checkKey, run_underlying Try.underlying9]) (fun w em n a => by simp [Instr.checkKey, run_underlying Try.underlying9])
    (fun w d a b => by rw [run_equalIn_string w d _ _ _ Try.underlying9, l_eq]) (fun w d a b => by rw [run_equalIn_string w d _ _ _ Try.underlying9, l_eq])
    (fun a b h => l_inj h) (fun a b h => l_inj h) (fun n a => by simp [Instr.sameBits, beq_toListBytes]) (fun n a => by simp [Instr.sameBits, beq_toListBytes])
  exact h
theorem keyP : KeyOK Try.prog 53 kP := by
  have h := key_two (P := Try.prog) (k := 53) (t1 := 3) (t2 := 9) (κ1 := fun n : Int => Value.int .i64 n) (κ2 := fun l : List UInt8 => Value.string ⟨l.toArray⟩) (by kernel_rfl) (by kernel_rfl) (by kernel_rfl)
    (fun w em n a => by simp [Instr.checkKey, run_underlying Try.underlying3]) (fun w em n a => by simp [Instr.checkKey, run_underlying Try.underlying9])
    (fun w d a b => by rw [run_equalIn_int w d _ _ _ _ _ Try.underlying3]; rfl) (fun w d a b => by rw [run_equalIn_string w d _ _ _ Try.underlying9, l_eq])
    (fun a b h => by cases h; rfl) (fun a b h => l_inj h) (fun n a => by simp [Instr.sameBits, beq_toListBytes]) (fun n a => by simp [Instr.sameBits, beq_toListBytes])
  exact h
theorem zeroS (w : World) : (zeroValue 34).run Try.prog w = .ok (.slice none 0 0) w := Try.zeroValue34 w
theorem zeroI (w : World) : (zeroValue 3).run Try.prog w = .ok (.int .i64 0) w := Try.zeroValue3 w
end Go.Proofs.Ytmnahgeledddhaa
