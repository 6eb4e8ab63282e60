/- A slice of lines in memory: what keeps it. -/
import Derived.Test.YtmnahgeledddhaaLc
namespace Go.Tx
open Go.RowKit
theorem own_below {B : Nat} {e : TypeId} {size n : Nat} {v : Value} {xs : List Value} {w w' : World} (h : w.ownsRow B e size v n xs) (hb : Below w.heap.size w w') : w'.ownsRow B e size v n xs := by
  refine ⟨h.1, ?_⟩
  rcases h.2 with h | ⟨g, cap, cur, h1, h2, h3, h4⟩
  · exact .inl h
  · exact .inr ⟨g, cap, cur, h1, h2, by rw [hb.block g (Array.getElem?_eq_some_iff.1 h3).1]; exact h3, h4⟩
theorem Strs.below {B : Nat} {v : Value} {ws : List (List UInt8)} {w w' : World} (h : Strs B w v ws) (hb : Below w.heap.size w w') : Strs B w' v ws := by
  rcases h with h | ⟨A, h1, h2, h3⟩
  · exact .inl h
  · exact .inr ⟨A, h1, h2, own_below h3 hb⟩
theorem own_base {B B' : Nat} {e : TypeId} {size n : Nat} {v : Value} {xs : List Value} {w : World} (h : w.ownsRow B e size v n xs) (hb : B' ≤ B) : w.ownsRow B' e size v n xs := by
  refine ⟨h.1, ?_⟩
  rcases h.2 with h | ⟨g, cap, cur, h1, h2, h4⟩
  · exact .inl h
  · exact .inr ⟨g, cap, cur, h1, Nat.le_trans hb h2, h4⟩
theorem Strs.base {B B' : Nat} {v : Value} {ws : List (List UInt8)} {w : World} (h : Strs B w v ws) (hb : B' ≤ B) : Strs B' w v ws := by
  rcases h with h | ⟨A, h1, h2, h3⟩
  · exact .inl h
  · exact .inr ⟨A, h1, Nat.le_trans hb h2, own_base h3 hb⟩
theorem Strs.shape {B : Nat} {v : Value} {ws : List (List UInt8)} {w : World} (h : Strs B w v ws) : ∃ p, v = .slice p ws.length ws.length := by
  rcases h with ⟨h, h2⟩ | ⟨A, h1, _⟩
  · subst h2; exact ⟨none, h⟩
  · exact ⟨_, h1⟩
theorem Strs.grown {B : Nat} {v : Value} {ws : List (List UInt8)} {w w' : World} {row : Option Nat} (h : Strs B w v ws) (hg : w.grownBy w' row) (hr : ∀ g, row = some g → ∃ cur fr, w.heap[g]? = some (.cells cur 51 fr)) : Strs B w' v ws := by
  rcases h with h | ⟨A, h1, h2, h3⟩
  · exact .inl h
  · refine .inr ⟨A, h1, h2, h3.kept hg ?_⟩
    cases row with
    | none => right; rw [h1]; simp [Value.ownBlock]
    | some g =>
      right
      rw [h1]
      simp only [Value.ownBlock, ne_eq, Option.some.injEq]
      rintro rfl
      obtain ⟨cur, fr, hc⟩ := hr A rfl
      rcases h3.2 with ⟨h4, _⟩ | ⟨g', cap, cur', h5, _, h6, _⟩
      · rw [h1] at h4; cases h4
      · rw [h1] at h5
        cases h5
        rw [hc] at h6
        cases h6
/-- A slice of lines that reads as T, in rows from block B on. -/
def LinesAt (B : Nat) (w : World) (v : Value) (T : List (Nat × List (List UInt8))) : Prop :=
  ∃ xs, w.ownsRow B 51 2 v T.length xs ∧ ∀ i no ws, T[i]? = some (no, ws) → xs[2 * i]? = some (.int .i64 (no : Int)) ∧ ∃ wv, xs[2 * i + 1]? = some wv ∧ Strs B w wv ws
theorem LinesAt.nil (B : Nat) (w : World) : LinesAt B w (.slice none 0 0) [] := ⟨[], World.ownsRow_nil w B 51 2, by simp⟩
theorem LinesAt.below {B : Nat} {v : Value} {T : List (Nat × List (List UInt8))} {w w' : World} (h : LinesAt B w v T) (hb : Below w.heap.size w w') : LinesAt B w' v T := by
  obtain ⟨xs, h1, h2⟩ := h
  refine ⟨xs, own_below h1 hb, fun i no ws hi => ?_⟩
  obtain ⟨a, wv, b, c⟩ := h2 i no ws hi
  exact ⟨a, wv, b, c.below hb⟩
theorem LinesAt.shape {B : Nat} {v : Value} {T : List (Nat × List (List UInt8))} {w : World} (h : LinesAt B w v T) : ∃ p c, v = .slice p T.length c := by
  obtain ⟨xs, h1, _⟩ := h
  rcases h1.2 with ⟨a, b⟩ | ⟨g, cap, cur, a, _⟩
  · exact ⟨none, 0, by rw [a, b]⟩
  · exact ⟨_, _, a⟩
/-- One line more. -/
theorem LinesAt.push {B : Nat} {v v' wv : Value} {T : List (Nat × List (List UInt8))} {w w' : World} {xs : List Value} {no : Nat} {ws : List (List UInt8)}
    (h1 : w.ownsRow B 51 2 v T.length xs) (h2 : ∀ i no ws, T[i]? = some (no, ws) → xs[2 * i]? = some (.int .i64 (no : Int)) ∧ ∃ wv, xs[2 * i + 1]? = some wv ∧ Strs B w wv ws)
    (hs : Strs B w wv ws) (ho : w'.ownsRow B 51 2 v' (T.length + 1) (xs ++ [.int .i64 (no : Int), wv])) (hg : w.grownBy w' v.ownBlock) : LinesAt B w' v' (T ++ [(no, ws)]) := by
  have hr : ∀ g, v.ownBlock = some g → ∃ cur fr, w.heap[g]? = some (.cells cur 51 fr) := by
    intro g hg
    rcases h1.2 with ⟨a, _⟩ | ⟨g', cap, cur, a, _, c, _⟩
    · rw [a] at hg; cases hg
    · rw [a] at hg
      cases hg
      exact ⟨cur, _, c⟩
  have hlen : xs.length = T.length * 2 := h1.1
  refine ⟨_, by simpa using ho, fun i no' ws' hi => ?_⟩
  by_cases hlt : i < T.length
  · rw [List.getElem?_append_left hlt] at hi
    obtain ⟨a, wv', b, c⟩ := h2 i no' ws' hi
    exact ⟨by rw [List.getElem?_append_left (by omega)]; exact a, wv', by rw [List.getElem?_append_left (by omega)]; exact b, c.grown hg hr⟩
  · have hle : i < (T ++ [(no, ws)]).length := (List.getElem?_eq_some_iff.1 hi).1
    have : i = T.length := by simp at hle; omega
    subst this
    rw [List.getElem?_append_right (Nat.le_refl _), Nat.sub_self] at hi
    cases hi
    refine ⟨?_, wv, ?_, hs.grown hg hr⟩
    · rw [List.getElem?_append_right (by omega), show 2 * T.length - xs.length = 0 from by omega]; rfl
    · rw [List.getElem?_append_right (by omega), show 2 * T.length + 1 - xs.length = 1 from by omega]; rfl
end Go.Tx
