/- What the disk's cut has laid out so far: plain facts. -/
import Derived.Test.YtfpgobbkeocokaaDi
import Derived.Maps.Ext
namespace Go.Proofs.Ytfpgobbkeocokaa
open Go.RowKit Go.Mp Go.Rb Go.Lib
structure OutD (w : World) (B : Nat) (Dout D : DataW Value) (G : ByteArray → List UInt8) (left : Lit → Bool) : Prop where
  isMap : Go.Maps.IsMap Dout
  has : ∀ t : ByteArray, Go.Maps.has Dout (keyL t) = (Go.Maps.has D (keyL t) && !left (keyL t))
  body : ∀ t : ByteArray, t.size ≤ maxLen → Go.Maps.has Dout (keyL t) = true → RB B w (valOf Dout t) (G t)
  apart : ∀ s t a n c a' n' c', s ≠ t → valOf Dout s = .slice (some a) n c → valOf Dout t = .slice (some a') n' c' → a.block ≠ a'.block
  low : ∀ t a n c, valOf Dout t = .slice (some a) n c → a.block < w.heap.size
theorem valOf_none {D : DataW Value} {t : ByteArray} (h : Go.Maps.has D (keyL t) = false) : valOf D t = nilS := by
  unfold valOf
  rw [Go.Maps.atKey_of_not_has h]
theorem OutD.start (w : World) (B : Nat) (D : DataW Value) (G : ByteArray → List UInt8) : OutD w B (.map []) D G (Go.Maps.has D) where
  isMap := Go.Maps.isMap_empty
  has := fun t => by
    show false = _
    cases Go.Maps.has D (keyL t) <;> rfl
  body := fun t _ h => by cases h
  apart := fun s t a n c a' n' c' _ h => by cases h
  low := fun t a n c h => by cases h
theorem OutD.below {w w' : World} {B : Nat} {Dout D : DataW Value} {G : ByteArray → List UInt8} {left : Lit → Bool} (h : OutD w B Dout D G left) (hb : Below w.heap.size w w') : OutD w' B Dout D G left where
  isMap := h.isMap
  has := h.has
  body := fun t ht hh => (h.body t ht hh).below hb
  apart := h.apart
  low := fun t a n c e => Nat.lt_of_lt_of_le (h.low t a n c e) hb.size
theorem OutD.same {w w' : World} {B : Nat} {Dout D : DataW Value} {G : ByteArray → List UInt8} {left : Lit → Bool} (h : OutD w B Dout D G left) {r : Nat} (hg : w.grownBy w' (some r)) (hr : ∀ cur e fr, w.heap[r]? ≠ some (.cells cur e fr)) : OutD w' B Dout D G left where
  isMap := h.isMap
  has := h.has
  body := fun t ht hh => RB.same (h.body t ht hh) (fun a n c e => by
    have := h.body t ht hh
    rw [e] at this
    obtain ⟨_, _, _, _, _, cur, fr, hc⟩ := RB.obj this
    exact hg.block _ (Array.getElem?_eq_some_iff.1 hc).1 (fun e2 => hr _ _ _ (by rw [← Option.some.inj e2]; exact hc)))
  apart := h.apart
  low := fun t a n c e => Nat.lt_of_lt_of_le (h.low t a n c e) hg.size
theorem OutD.put {w : World} {B : Nat} {Dout D : DataW Value} {G : ByteArray → List UInt8} {left : Lit → Bool} (h : OutD w B Dout D G left) {x : ByteArray} (hx : Go.Maps.has D (keyL x) = true) {p : Option Addr} {n c : Nat} (hb : RB B w (.slice p n c) (G x)) (hp : ∀ q, p = some q → q.block < w.heap.size ∧ ∀ t a m d, valOf Dout t = .slice (some a) m d → a.block ≠ q.block) :
    OutD w B (Dout.put (keyL x) (.held (.slice p n c))) D G (fun z => left z && !z.sameKey (keyL x)) := by
  have hs : valOf (Dout.put (keyL x) (.held (.slice p n c))) x = .slice p n c := valOf_put_same h.isMap x p n c
  have ho : ∀ t, t ≠ x → valOf (Dout.put (keyL x) (.held (.slice p n c))) t = valOf Dout t := fun t ht => valOf_put_other ht _
  refine ⟨h.isMap.put _ _, fun t => ?_, fun t ht hh => ?_, fun s t a m d a' m' d' hst e1 e2 => ?_, fun t a m d e => ?_⟩
  · by_cases ht : t = x
    · subst ht
      rw [Go.Maps.has_put_same h.isMap (show Go.WideAt.IsKeyLit (keyL t) from trivial), hx]
      have : (keyL t).sameKey (keyL t) = true := by simp [keyL, Lit.sameKey]
      simp [this]
    · rw [Go.Maps.has_put_other (fun e => ht (keyL_inj e)), h.has t]
      have : (keyL t).sameKey (keyL x) = false := Go.Maps.sameKey_ne (fun e => ht (keyL_inj e))
      simp [this]
  · by_cases htx : t = x
    · subst htx; rw [hs]; exact hb
    · rw [ho t htx]
      rw [Go.Maps.has_put_other (fun e => htx (keyL_inj e))] at hh
      exact h.body t ht hh
  · by_cases h1 : s = x
    · subst h1
      rw [hs] at e1
      rw [ho t (fun e => hst e.symm)] at e2
      injection e1 with q1
      exact fun e => (hp a q1).2 t a' m' d' e2 e.symm
    · rw [ho s h1] at e1
      by_cases h2 : t = x
      · subst h2
        rw [hs] at e2
        injection e2 with q1
        exact (hp a' q1).2 s a m d e1
      · rw [ho t h2] at e2
        exact h.apart s t a m d a' m' d' hst e1 e2
  · by_cases ht : t = x
    · subst ht
      rw [hs] at e
      injection e with q1
      exact (hp a q1).1
    · rw [ho t ht] at e
      exact h.low t a m d e
theorem RB.base {B B' : Nat} {w : World} {v : Value} {l : List UInt8} (h : RB B w v l) (hb : B' ≤ B) : RB B' w v l := by
  rcases h with h | ⟨g, cp, e, hB, hc, hr⟩
  · exact .inl h
  · exact .inr ⟨g, cp, e, by omega, hc, hr⟩
theorem OutD.mono {w w' : World} {B B' : Nat} {Dout D : DataW Value} {G : ByteArray → List UInt8} {left : Lit → Bool} (h : OutD w B Dout D G left) (hB : B' ≤ B) (hh : ∀ k, B ≤ k → w'.heap[k]? = w.heap[k]?) (hs : w'.heap.size = w.heap.size) : OutD w' B' Dout D G left where
  isMap := h.isMap
  has := h.has
  body := fun t ht hx => RB.base (RB.same (h.body t ht hx) (fun a n c e => by
    have := h.body t ht hx
    rw [e] at this
    obtain ⟨_, _, hBa, _⟩ := RB.obj this
    exact hh _ hBa)) hB
  apart := h.apart
  low := fun t a n c e => by rw [hs]; exact h.low t a n c e
end Go.Proofs.Ytfpgobbkeocokaa
