/- A slice of texts in memory, and what keeps it. -/
import Derived.Test.YtmnahgeledddhaaTr
import Derived.Test.YtmnahgeledddhaaLd
namespace Go.Tx
open Go.RowKit
def strV (l : List UInt8) : Value := .string ⟨l.toArray⟩
/-- A slice of texts that reads as ws, of whatever capacity. -/
def StrC (B : Nat) (w : World) (v : Value) (ws : List (List UInt8)) : Prop := w.ownsRow B 9 1 v ws.length (ws.map strV)
theorem StrC.shape {B : Nat} {w : World} {v : Value} {ws : List (List UInt8)} (h : StrC B w v ws) : ∃ p c, v = .slice p ws.length c := by
  rcases h.2 with ⟨a, b⟩ | ⟨g, cap, cur, a, _⟩
  · exact ⟨none, 0, by rw [a, b]⟩
  · exact ⟨_, _, a⟩
theorem StrC.read {B : Nat} {w : World} {v : Value} {ws : List (List UInt8)} (h : StrC B w v ws) :
    ∃ p c, v = .slice p ws.length c ∧ ws.length ≤ c ∧ c ≤ 9223372036854775807 ∧ ∀ (i : Nat) (l : List UInt8), ws[i]? = some l → ∃ g, p = some ⟨g, 0, none⟩ ∧ g < w.heap.size ∧ w.cell? ⟨g, i, none⟩ = some (.string ⟨l.toArray⟩) := by
  rcases h.2 with ⟨a, b⟩ | ⟨g, cap, cur, a, a2, a3, a4, a5, _⟩
  · refine ⟨none, 0, by rw [a, b], by omega, by omega, fun i l hi => ?_⟩
    have := (List.getElem?_eq_some_iff.1 hi).1
    omega
  · subst a
    refine ⟨_, cap, rfl, a4, a5, fun i l hi => ⟨g, rfl, (Array.getElem?_eq_some_iff.1 a3).1, ?_⟩⟩
    have hlt := (List.getElem?_eq_some_iff.1 hi).1
    rw [World.ownsRow.cellAt h i (by omega), List.getElem?_map, hi]
    rfl
end Go.Tx
