/- What a caller reads off the lines. -/
import Derived.Test.YtmnahgeledddhaaLe
import Derived.Test.YtmnahgeledddhaaTr
namespace Go.Tx
open Go.RowKit Go.Rb
theorem LinesAt.read {B : Nat} {w : World} {v : Value} {T : List (Nat × List (List UInt8))} (h : LinesAt B w v T) (h0 : 0 < T.length) :
    ∃ g cap, v = .slice (some ⟨g, 0, none⟩) T.length cap ∧ T.length ≤ cap ∧ cap ≤ 9223372036854775807 ∧ B ≤ g ∧ ∀ (i no : Nat) (ws : List (List UInt8)), T[i]? = some (no, ws) → w.cell? ⟨g, 2 * i, none⟩ = some (.int .i64 (no : Int)) ∧ ∃ p, w.cell? ⟨g, 2 * i + 1, none⟩ = some (.slice p ws.length ws.length) ∧ Strs B w (.slice p ws.length ws.length) ws := by
  obtain ⟨xs, h1, h2⟩ := h
  rcases h1.2 with ⟨a, b⟩ | ⟨g, cap, cur, a, a2, a3, a4, a5, _⟩
  · omega
  · subst a
    refine ⟨g, cap, rfl, a4, a5, a2, fun i no ws hi => ?_⟩
    obtain ⟨x, wv, y, z⟩ := h2 i no ws hi
    have hlt : i < T.length := (List.getElem?_eq_some_iff.1 hi).1
    obtain ⟨p, rfl⟩ := z.shape
    exact ⟨by rw [h1.cellAt _ (by omega)]; exact x, p, by rw [h1.cellAt _ (by omega)]; exact y, z⟩
theorem ba_row {w : World} {b cap : Nat} {l : List UInt8} (h : RowB 5 w b cap l) (hc : cap ≤ 9223372036854775807) : BA w (some ⟨b, 0, none⟩) l.length cap l := by
  have hl : l.length ≤ cap := by obtain ⟨_, _, _, _, _, _, h4, _⟩ := h; exact h4
  refine ⟨rfl, hl, hc, (fun h => by cases h), fun x hx j c hj => ?_⟩
  cases hx
  have ha : (⟨b, 0, none⟩ : Addr).add j = ⟨b, j, none⟩ := by unfold Addr.add; split <;> simp_all
  rw [ha]
  exact h.cell hj
theorem row_made {P : Program} {src dst : TypeId} (s : ByteArray) (w : World) (hm : s.size ≤ maxLen) (hs : P.underlying src = some .string) (hd : P.underlying dst = some (.slice 5)) (he : P.underlying 5 = some (.int .u8)) :
    ∃ (cap : Nat) (o : Obj), (convert src dst (.string s)).run P w = .ok (.slice (some ⟨w.heap.size, 0, none⟩) s.size cap) (w.drew.alloc o) ∧ s.size ≤ cap ∧ cap ≤ 9223372036854775807 ∧ RowB 5 (w.alloc o) w.heap.size cap s.data.toList := by
  have hge := grownCap_ge w s.size 0 5
  have hle := grownCap_le_maxLen w s.size 0 5 hm
  unfold maxLen at hle
  have hsz : s.data.size = s.size := rfl
  have hC : (bytesRow s (grownCap w s.size 0 5)).size = grownCap w s.size 0 5 := by simp [bytesRow, hsz]; omega
  refine ⟨grownCap w s.size 0 5, _, run_bytes_of_string w src dst 5 s hs hd he, hge, by omega, _, _, _, heap_alloc_new w _, .inl (by rw [hC]; exact Nat.le_refl _), hC, by simpa [hsz] using hge, fun j c hj => ?_⟩
  have hj' : j < s.data.size := by
    have := (List.getElem?_eq_some_iff.1 hj).1
    simpa using this
  rw [bytesRow_at s _ j hj']
  rw [Array.getElem?_toList, Array.getElem?_eq_getElem hj'] at hj
  cases hj
  rfl
theorem lines_one {B : Nat} {w : World} {v : Value} {a : Nat} {ws : List (List UInt8)} (h : LinesAt B w v [(a, ws)]) :
    ∃ g cap, v = .slice (some ⟨g, 0, none⟩) 1 cap ∧ 1 ≤ cap ∧ w.cell? ⟨g, 0, none⟩ = some (.int .i64 (a : Int)) := by
  obtain ⟨g, cap, h1, h2, _, _, h3⟩ := h.read (by simp)
  exact ⟨g, cap, h1, h2, (h3 0 a ws rfl).1⟩
theorem lines_two {B : Nat} {w : World} {v : Value} {a b : Nat} {ws us : List (List UInt8)} (h : LinesAt B w v [(a, ws), (b, us)]) :
    ∃ g cap p, v = .slice (some ⟨g, 0, none⟩) 2 cap ∧ 2 ≤ cap ∧ w.cell? ⟨g, 0, none⟩ = some (.int .i64 (a : Int)) ∧ w.cell? ⟨g, 1, none⟩ = some (.slice p ws.length ws.length) ∧ w.cell? ⟨g, 2, none⟩ = some (.int .i64 (b : Int)) := by
  obtain ⟨g, cap, h1, h2, _, _, h3⟩ := h.read (by simp)
  obtain ⟨x1, p, x2, _⟩ := h3 0 a ws rfl
  exact ⟨g, cap, p, h1, h2, x1, x2, (h3 1 b us rfl).1⟩
theorem bcat (a : List UInt8) (b : Array UInt8) : (⟨a.toArray⟩ : ByteArray) ++ ⟨b⟩ = ⟨(a ++ b.toList).toArray⟩ := by
  apply ByteArray.ext
  simp
end Go.Tx
