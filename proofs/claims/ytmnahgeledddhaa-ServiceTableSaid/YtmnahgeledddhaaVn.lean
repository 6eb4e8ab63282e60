/- The document's rows of a service table in memory. -/
import Derived.Test.YtmnahgeledddhaaVl
import Derived.Test.YtmnahgeledddhaaVi
import Derived.Test.YtmnahgeledddhaaSs
import Derived.Test.YtmnahgeledddhaaRl
import Derived.BigQuiet
namespace Go.Tx
open Go.RowKit
/-- A slice of rows that reads as R. -/
def SvcsC (B : Nat) (w : World) (v : Value) (R : List Svc) : Prop :=
  ∃ xs, w.ownsRow B 40 3 v R.length xs ∧ ∀ (i : Nat) (f : List (List UInt8)) (n : Int) (p : List UInt8), R[i]? = some (f, n, p) → (∃ wv, xs[3 * i]? = some wv ∧ StrC B w wv f) ∧ xs[3 * i + 1]? = some (.int .i64 n) ∧ xs[3 * i + 2]? = some (.string ⟨p.toArray⟩)
theorem SvcsC.nil (B : Nat) (w : World) : SvcsC B w (.slice none 0 0) [] := ⟨[], World.ownsRow_nil w B 40 3, by simp⟩
theorem SvcsC.below {B : Nat} {v : Value} {R : List Svc} {w w' : World} (h : SvcsC B w v R) (hb : Below w.heap.size w w') : SvcsC B w' v R := by
  obtain ⟨xs, h1, h2⟩ := h
  refine ⟨xs, own_below h1 hb, fun i f n p hi => ?_⟩
  obtain ⟨⟨wv, a, b⟩, c, d⟩ := h2 i f n p hi
  exact ⟨⟨wv, a, own_below b hb⟩, c, d⟩
theorem SvcsC.shape {B : Nat} {v : Value} {R : List Svc} {w : World} (h : SvcsC B w v R) : ∃ p c, v = .slice p R.length c := by
  obtain ⟨xs, h1, _⟩ := h
  rcases h1.2 with ⟨a, b⟩ | ⟨g, cap, cur, a, _⟩
  · exact ⟨none, 0, by rw [a, b]⟩
  · exact ⟨_, _, a⟩
theorem SvcsC.push {B : Nat} {v v' wv : Value} {R : List Svc} {w w' : World} {xs : List Value} {f : List (List UInt8)} {n : Int} {p : List UInt8}
    (h1 : w.ownsRow B 40 3 v R.length xs) (h2 : ∀ (i : Nat) (f : List (List UInt8)) (n : Int) (p : List UInt8), R[i]? = some (f, n, p) → (∃ wv, xs[3 * i]? = some wv ∧ StrC B w wv f) ∧ xs[3 * i + 1]? = some (.int .i64 n) ∧ xs[3 * i + 2]? = some (.string ⟨p.toArray⟩))
    (hs : StrC B w wv f) (ho : w'.ownsRow B 40 3 v' (R.length + 1) (xs ++ [wv, .int .i64 n, .string ⟨p.toArray⟩])) (hg : w.grownBy w' v.ownBlock) : SvcsC B w' v' (R ++ [(f, n, p)]) := by
  have hr : ∀ g, v.ownBlock = some g → ∃ cur fr, w.heap[g]? = some (.cells cur 40 fr) := by
    intro g hg
    rcases h1.2 with ⟨a, _⟩ | ⟨g', cap, cur, a, _, c, _⟩
    · rw [a] at hg; cases hg
    · rw [a] at hg
      cases hg
      exact ⟨cur, _, c⟩
  have hlen : xs.length = R.length * 3 := h1.1
  refine ⟨_, by simpa using ho, fun i f' n' p' hi => ?_⟩
  by_cases hlt : i < R.length
  · rw [List.getElem?_append_left hlt] at hi
    obtain ⟨⟨wv', b, c⟩, d, e⟩ := h2 i f' n' p' hi
    exact ⟨⟨wv', by rw [List.getElem?_append_left (by omega)]; exact b, c.grown (by decide) hg hr⟩, by rw [List.getElem?_append_left (by omega)]; exact d, by rw [List.getElem?_append_left (by omega)]; exact e⟩
  · have hle : i < (R ++ [(f, n, p)]).length := (List.getElem?_eq_some_iff.1 hi).1
    have : i = R.length := by simp at hle; omega
    subst this
    rw [List.getElem?_append_right (Nat.le_refl _), Nat.sub_self] at hi
    cases hi
    refine ⟨⟨wv, ?_, hs.grown (by decide) hg hr⟩, ?_, ?_⟩
    · rw [List.getElem?_append_right (by omega), show 3 * R.length - xs.length = 0 from by omega]; rfl
    · rw [List.getElem?_append_right (by omega), show 3 * R.length + 1 - xs.length = 1 from by omega]; rfl
    · rw [List.getElem?_append_right (by omega), show 3 * R.length + 2 - xs.length = 2 from by omega]; rfl
theorem SvcsC.read {B : Nat} {w : World} {v : Value} {R : List Svc} (h : SvcsC B w v R) :
    ∃ p cap, v = .slice p R.length cap ∧ R.length ≤ cap ∧ cap ≤ 9223372036854775807 ∧ ∀ (i : Nat) (f : List (List UInt8)) (n : Int) (q : List UInt8), R[i]? = some (f, n, q) → ∃ g, p = some ⟨g, 0, none⟩ ∧ g < w.heap.size ∧ (∃ q c, w.cell? ⟨g, 3 * i, none⟩ = some (.slice q f.length c) ∧ StrC B w (.slice q f.length c) f) ∧ w.cell? ⟨g, 3 * i + 1, none⟩ = some (.int .i64 n) ∧ w.cell? ⟨g, 3 * i + 2, none⟩ = some (.string ⟨q.toArray⟩) := by
  obtain ⟨xs, h1, h2⟩ := h
  rcases h1.2 with ⟨a, b⟩ | ⟨g, cap, cur, a, a2, a3, a4, a5, _⟩
  · refine ⟨none, 0, by rw [a, b], by omega, by omega, fun i f n p hi => ?_⟩
    have := (List.getElem?_eq_some_iff.1 hi).1
    omega
  · subst a
    refine ⟨_, cap, rfl, a4, a5, fun i f n p hi => ?_⟩
    obtain ⟨⟨wv, x, z⟩, y1, y2⟩ := h2 i f n p hi
    have hlt : i < R.length := (List.getElem?_eq_some_iff.1 hi).1
    obtain ⟨q, c, rfl⟩ := z.shape
    exact ⟨g, rfl, (h1.lt g rfl).2, ⟨q, c, by rw [h1.cellAt _ (by omega)]; exact x, z⟩, by rw [h1.cellAt _ (by omega)]; exact y1, by rw [h1.cellAt _ (by omega)]; exact y2⟩
theorem cell_lt {w : World} {b k : Nat} {v : Value} (h : w.cell? ⟨b, k, none⟩ = some v) : b < w.heap.size := by
  unfold World.cell? at h
  split at h
  · rename_i hh; exact (Array.getElem?_eq_some_iff.1 hh).1
  · cases h
theorem own_svcs {B B' : Nat} {w : World} {v : Value} {R : List Svc} (h : SvcsC B w v R) (hB : B' ≤ B) : SvcsC B' w v R := by
  obtain ⟨xs, h1, h2⟩ := h
  refine ⟨xs, own_base h1 hB, fun i a f p hi => ?_⟩
  obtain ⟨⟨wv, x2, x3⟩, c, d⟩ := h2 i a f p hi
  exact ⟨⟨wv, x2, own_base x3 hB⟩, c, d⟩
/-- Block b is a row of three cells, with no mark. -/
structure R3 (w : World) (b : Nat) (x y z : Value) : Prop where
  blk : ∃ e, w.heap[b]? = some (.cells #[x, y, z] e (0, 0))
section
variable {w w' : World} {b : Nat} {x y z : Value}
theorem R3.lt (h : R3 w b x y z) : b < w.heap.size := by
  obtain ⟨e, h⟩ := h.blk
  exact (Array.getElem?_eq_some_iff.1 h).1
theorem R3.c0 (h : R3 w b x y z) : w.cell? ⟨b, 0, none⟩ = some x := by obtain ⟨e, h⟩ := h.blk; simp [World.cell?, h]
theorem R3.c1 (h : R3 w b x y z) : w.cell? ⟨b, 1, none⟩ = some y := by obtain ⟨e, h⟩ := h.blk; simp [World.cell?, h]
theorem R3.c2 (h : R3 w b x y z) : w.cell? ⟨b, 2, none⟩ = some z := by obtain ⟨e, h⟩ := h.blk; simp [World.cell?, h]
theorem R3.free (h : R3 w b x y z) (j : Nat) : w.frozen? ⟨b, j, none⟩ = false := by obtain ⟨e, h⟩ := h.blk; simp [World.frozen?, h]
theorem R3.same (h : R3 w b x y z) (hb : w'.heap[b]? = w.heap[b]?) : R3 w' b x y z := by
  obtain ⟨e, h⟩ := h.blk
  exact ⟨e, hb.trans h⟩
theorem R3.below (h : R3 w b x y z) (hb : Below w.heap.size w w') : R3 w' b x y z := h.same (hb.block b h.lt)
theorem R3.new (w : World) (x y z : Value) (e : TypeId) : R3 (w.alloc (.cells #[x, y, z] e)) w.heap.size x y z := ⟨e, heap_alloc_new w _⟩
theorem R3.set0 (h : R3 w b x y z) (u : Value) : R3 (w.setCell ⟨b, 0, none⟩ u) b u y z := by
  obtain ⟨e, h⟩ := h.blk
  refine ⟨e, ?_⟩
  show (w.heap.modify b _)[b]? = _
  rw [Array.getElem?_modify]
  simp [h]
end
end Go.Tx
