/- A slice of lines in memory, at whatever type of lines; what keeps it. -/
import Derived.Test.YtmnahgeledddhaaRq
namespace Go.Tx
open Go.RowKit
theorem StrC.of {B : Nat} {w : World} {v : Value} {ws : List (List UInt8)} (h : Strs B w v ws) : StrC B w v ws := by
  rcases h with ⟨rfl, rfl⟩ | ⟨A, rfl, _, h⟩
  · exact World.ownsRow_nil _ _ _ _
  · exact h
theorem StrC.grown {E B : Nat} {v : Value} {ws : List (List UInt8)} {w w' : World} {row : Option Nat} (hE : E ≠ 9) (h : StrC B w v ws) (hg : w.grownBy w' row) (hr : ∀ g, row = some g → ∃ cur fr, w.heap[g]? = some (.cells cur E fr)) : StrC B w' v ws := by
  refine World.ownsRow.kept h hg ?_
  rcases h.2 with ⟨a, _⟩ | ⟨A, cap, cur, a, _, hh, _⟩
  · left; rw [a]; rfl
  · right
    rw [a]
    cases row with
    | none => simp [Value.ownBlock]
    | some g =>
      simp only [Value.ownBlock, ne_eq, Option.some.injEq]
      rintro rfl
      obtain ⟨cur', fr, hc⟩ := hr A rfl
      rw [hc] at hh
      cases hh
      exact hE rfl
def LinesC (E B : Nat) (w : World) (v : Value) (T : List (Nat × List (List UInt8))) : Prop :=
  ∃ xs, w.ownsRow B E 2 v T.length xs ∧ ∀ (i no : Nat) (ws : List (List UInt8)), T[i]? = some (no, ws) → xs[2 * i]? = some (.int .i64 (no : Int)) ∧ ∃ wv, xs[2 * i + 1]? = some wv ∧ StrC B w wv ws
theorem LinesC.of {B : Nat} {w : World} {v : Value} {T : List (Nat × List (List UInt8))} (h : LinesAt B w v T) : LinesC 51 B w v T := by
  obtain ⟨xs, h1, h2⟩ := h
  refine ⟨xs, h1, fun i no ws hi => ?_⟩
  obtain ⟨a, wv, b, c⟩ := h2 i no ws hi
  exact ⟨a, wv, b, StrC.of c⟩
theorem LinesC.nil (E B : Nat) (w : World) : LinesC E B w (.slice none 0 0) [] := ⟨[], World.ownsRow_nil w B E 2, by simp⟩
theorem LinesC.below {E B : Nat} {v : Value} {T : List (Nat × List (List UInt8))} {w w' : World} (h : LinesC E B w v T) (hb : Below w.heap.size w w') : LinesC E B w' v T := by
  obtain ⟨xs, h1, h2⟩ := h
  refine ⟨xs, own_below h1 hb, fun i no ws hi => ?_⟩
  obtain ⟨a, wv, b, c⟩ := h2 i no ws hi
  exact ⟨a, wv, b, own_below c hb⟩
theorem LinesC.shape {E B : Nat} {v : Value} {T : List (Nat × List (List UInt8))} {w : World} (h : LinesC E B w v T) : ∃ p c, v = .slice p T.length c := by
  obtain ⟨xs, h1, _⟩ := h
  rcases h1.2 with ⟨a, b⟩ | ⟨g, cap, cur, a, _⟩
  · exact ⟨none, 0, by rw [a, b]⟩
  · exact ⟨_, _, a⟩
theorem LinesC.push {E B : Nat} (hE : E ≠ 9) {v v' wv : Value} {T : List (Nat × List (List UInt8))} {w w' : World} {xs : List Value} {no : Nat} {ws : List (List UInt8)}
    (h1 : w.ownsRow B E 2 v T.length xs) (h2 : ∀ (i no : Nat) (ws : List (List UInt8)), T[i]? = some (no, ws) → xs[2 * i]? = some (.int .i64 (no : Int)) ∧ ∃ wv, xs[2 * i + 1]? = some wv ∧ StrC B w wv ws)
    (hs : StrC B w wv ws) (ho : w'.ownsRow B E 2 v' (T.length + 1) (xs ++ [.int .i64 (no : Int), wv])) (hg : w.grownBy w' v.ownBlock) : LinesC E B w' v' (T ++ [(no, ws)]) := by
  have hr : ∀ g, v.ownBlock = some g → ∃ cur fr, w.heap[g]? = some (.cells cur E fr) := by
    intro g hg
    rcases h1.2 with ⟨a, _⟩ | ⟨g', cap, cur, a, _, c, _⟩
    · rw [a] at hg; cases hg
    · rw [a] at hg
      cases hg
      exact ⟨cur, _, c⟩
  have hlen : xs.length = T.length * 2 := h1.1
  refine ⟨_, by simpa using ho, fun i no' ws' hi => ?_⟩
  by_cases hlt : i < T.length
  · rw [List.getElem?_append_left hlt] at hi
    obtain ⟨a, wv', b, c⟩ := h2 i no' ws' hi
    exact ⟨by rw [List.getElem?_append_left (by omega)]; exact a, wv', by rw [List.getElem?_append_left (by omega)]; exact b, c.grown hE hg hr⟩
  · have hle : i < (T ++ [(no, ws)]).length := (List.getElem?_eq_some_iff.1 hi).1
    have : i = T.length := by simp at hle; omega
    subst this
    rw [List.getElem?_append_right (Nat.le_refl _), Nat.sub_self] at hi
    cases hi
    refine ⟨?_, wv, ?_, hs.grown hE hg hr⟩
    · rw [List.getElem?_append_right (by omega), show 2 * T.length - xs.length = 0 from by omega]; rfl
    · rw [List.getElem?_append_right (by omega), show 2 * T.length + 1 - xs.length = 1 from by omega]; rfl
theorem LinesC.read {E B : Nat} {w : World} {v : Value} {T : List (Nat × List (List UInt8))} (h : LinesC E B w v T) :
    ∃ p cap, v = .slice p T.length cap ∧ T.length ≤ cap ∧ cap ≤ 9223372036854775807 ∧ ∀ (i no : Nat) (ws : List (List UInt8)), T[i]? = some (no, ws) → ∃ g, p = some ⟨g, 0, none⟩ ∧ w.cell? ⟨g, 2 * i, none⟩ = some (.int .i64 (no : Int)) ∧ ∃ q c, w.cell? ⟨g, 2 * i + 1, none⟩ = some (.slice q ws.length c) ∧ StrC B w (.slice q ws.length c) ws := by
  obtain ⟨xs, h1, h2⟩ := h
  rcases h1.2 with ⟨a, b⟩ | ⟨g, cap, cur, a, a2, a3, a4, a5, _⟩
  · refine ⟨none, 0, by rw [a, b], by omega, by omega, fun i no ws hi => ?_⟩
    have := (List.getElem?_eq_some_iff.1 hi).1
    omega
  · subst a
    refine ⟨_, cap, rfl, a4, a5, fun i no ws hi => ?_⟩
    obtain ⟨x, wv, y, z⟩ := h2 i no ws hi
    have hlt : i < T.length := (List.getElem?_eq_some_iff.1 hi).1
    obtain ⟨q, c, rfl⟩ := z.shape
    exact ⟨g, rfl, by rw [h1.cellAt _ (by omega)]; exact x, q, c, by rw [h1.cellAt _ (by omega)]; exact y, z⟩
end Go.Tx
