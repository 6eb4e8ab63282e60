/- A row of bytes that the call itself made, its mark behind its capacity. -/
import Derived.Test.YtmnahgeledddhaaRows
import Derived.WalkKit
import Derived.Below
import Derived.Laws.IdiomStrings
import Derived.Laws.OwnMore
import Derived.Lib.Hide
namespace Go.Rb
open Go.RowKit
/-- Block b is a row of bytes of some capacity, of which the first are l. -/
def RowB (e : TypeId) (w : World) (b cap : Nat) (l : List UInt8) : Prop :=
  ∃ arr lo hi, w.heap[b]? = some (.cells arr e (lo, hi)) ∧ (cap ≤ lo ∨ hi = 0) ∧ arr.size = cap ∧ l.length ≤ cap ∧ ∀ (j : Nat) (c : UInt8), l[j]? = some c → arr[j]? = some (Value.int .u8 (c.toNat : Int))
theorem RowB.cell {e : TypeId} {w : World} {b cap : Nat} {l : List UInt8} (h : RowB e w b cap l) {j : Nat} {c : UInt8} (hj : l[j]? = some c) : w.cell? ⟨b, j, none⟩ = some (.int .u8 (c.toNat : Int)) := by
  obtain ⟨arr, lo, hi, h1, h2, h3, h4, h5⟩ := h
  unfold World.cell?
  rw [h1]
  simp only
  exact h5 j c hj
theorem RowB.frozen {e : TypeId} {w : World} {b cap : Nat} {l : List UInt8} (h : RowB e w b cap l) {j : Nat} (hj : j < cap) : w.frozen? ⟨b, j, none⟩ = false := by
  obtain ⟨arr, lo, hi, h1, h2, h3, h4, h5⟩ := h
  unfold World.frozen?
  rw [h1]
  simp only [Bool.and_eq_false_iff, decide_eq_false_iff_not]
  omega
theorem RowB.drew {e : TypeId} {w : World} {b cap : Nat} {l : List UInt8} (h : RowB e w b cap l) : RowB e w.drew b cap l := by
  obtain ⟨arr, lo, hi, h1, h2⟩ := h
  exact ⟨arr, lo, hi, h1, h2⟩
theorem RowB.set {e : TypeId} {w : World} {b cap : Nat} {l : List UInt8} (h : RowB e w b cap l) {j : Nat} (hj : j < l.length) (c : UInt8) : RowB e (w.setCell ⟨b, j, none⟩ (.int .u8 (c.toNat : Int))) b cap (l.set j c) := by
  obtain ⟨arr, lo, hi, h1, h2, h3, h4, h5⟩ := h
  have hb : b < w.heap.size := (Array.getElem?_eq_some_iff.1 h1).1
  refine ⟨arr.setIfInBounds j (.int .u8 (c.toNat : Int)), lo, hi, ?_, h2, by simpa using h3, by simpa using h4, fun i d hi => ?_⟩
  · show (w.heap.modify b _)[b]? = _
    rw [Array.getElem?_modify]
    simp [h1]
  · rw [List.getElem?_set] at hi
    rw [Array.getElem?_setIfInBounds]
    split at hi
    · rename_i e1
      subst e1
      rw [if_pos rfl, if_pos (by omega)]
      cases hi
      rfl
    · rename_i e1
      rw [if_neg e1]
      exact h5 i d hi
theorem RowB.alloc {e : TypeId} {w : World} {b cap : Nat} {l : List UInt8} (h : RowB e w b cap l) (o : Obj) : RowB e (w.alloc o) b cap l := by
  obtain ⟨arr, lo, hi, h1, h2⟩ := h
  have hb : b < w.heap.size := (Array.getElem?_eq_some_iff.1 h1).1
  exact ⟨arr, lo, hi, by show (w.heap.push o)[b]? = _; rw [Array.getElem?_push, if_neg (by omega)]; exact h1, h2⟩
theorem RowB.below {e : TypeId} {w w' : World} {b cap B : Nat} {l : List UInt8} (h : RowB e w b cap l) (hb : Below B w w') (hlt : b < B) : RowB e w' b cap l := by
  obtain ⟨arr, lo, hi, h1, h2⟩ := h
  exact ⟨arr, lo, hi, by rw [hb.block b hlt]; exact h1, h2⟩
theorem RowB.str {e : TypeId} {w : World} {b cap : Nat} {l : List UInt8} (h : RowB e w b cap l) {P : Program} {src dst : TypeId} (c : Nat) (hs : P.underlying src = some (.slice e)) (he : P.underlying e = some (.int .u8)) (hd : P.underlying dst = some .string) :
    (convert src dst (.slice (some ⟨b, 0, none⟩) l.length c)).run P w = .ok (.string ⟨l.toArray⟩) w :=
  run_convert_bytes_back w src dst e _ c l hs he hd fun j hj => by
    have ha : (⟨b, 0, none⟩ : Addr).add j = ⟨b, j, none⟩ := by unfold Addr.add; split <;> simp_all
    rw [ha]
    exact h.cell (List.getElem?_eq_getElem hj)
theorem RowB.made {P : Program} {src dst e : TypeId} (s : ByteArray) (w : World) (hs : P.underlying src = some .string) (hd : P.underlying dst = some (.slice e)) (he : P.underlying e = some (.int .u8)) :
    ∃ (cap : Nat) (o : Obj), (convert src dst (.string s)).run P w = .ok (.slice (some ⟨w.heap.size, 0, none⟩) s.size cap) (w.drew.alloc o) ∧ s.size ≤ cap ∧ RowB e (w.alloc o) w.heap.size cap s.data.toList := by
  have hge := grownCap_ge w s.size 0 e
  have hsz : s.data.size = s.size := rfl
  have hC : (bytesRow s (grownCap w s.size 0 e)).size = grownCap w s.size 0 e := by simp [bytesRow, hsz]; omega
  refine ⟨grownCap w s.size 0 e, _, run_bytes_of_string w src dst e s hs hd he, hge, _, _, _, heap_alloc_new w _, .inl (by rw [hC]; exact Nat.le_refl _), hC, by simpa [hsz] using hge, fun j c hj => ?_⟩
  have hj' : j < s.data.size := by
    have := (List.getElem?_eq_some_iff.1 hj).1
    simpa using this
  rw [bytesRow_at s _ j hj']
  rw [Array.getElem?_toList, Array.getElem?_eq_getElem hj'] at hj
  cases hj
  rfl
end Go.Rb
