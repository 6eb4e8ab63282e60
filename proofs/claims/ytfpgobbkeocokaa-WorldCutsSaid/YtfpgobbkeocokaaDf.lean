/- The whole state of a disk, and what its contracts lean on. -/
import Derived.Test.YtfpgobbkeocokaaDe
namespace Go.Proofs.Ytfpgobbkeocokaa
open Go.RowKit Go.Mp Go.Rb Go.Lib
/-- A disk: its map and its undo list in memory, and what they say: F, what each file holds; UL, what each file held ahead of each write that may be undone. -/
structure DI (w : World) (b B K : Nat) (c : Value × Value × Value × Value × Value) (mp : Option Nat) (D : DataW Value) (syn : Nat) (V : List (ByteArray × Value)) (p : Option Addr) (cap : Nat) (F : ByteArray → List UInt8) (UL : List (ByteArray × List UInt8)) : Prop where
  wd : WD w b c mp syn (.slice p V.length cap)
  base : B ≤ b
  map : MapD w B K mp D
  undo : UndoAt w B p cap V
  body : ∀ s, s.size ≤ maxLen → RB B w (valOf D s) (F s)
  len : UL.length = V.length
  old : ∀ (j : Nat) e l, V[j]? = some e → UL[j]? = some l → e.1 = l.1 ∧ RB B w e.2 l.2
  apart : ∀ s t a n c a' n' c', s.size ≤ maxLen → t.size ≤ maxLen → s ≠ t → valOf D s = .slice (some a) n c → valOf D t = .slice (some a') n' c' → a.block ≠ a'.block
  elder : ∀ s (j : Nat) e a n c a' n' c', s.size ≤ maxLen → V[j]? = some e → valOf D s = .slice (some a) n c → e.2 = .slice (some a') n' c' → a.block = a'.block → n' ≤ n
  named : ∀ (j : Nat) e, V[j]? = some e → e.1.size ≤ maxLen ∧ Go.Maps.has D (keyL e.1) = true ∧ ∃ a n c, e.2 = .slice a n c
theorem MapD.obj {w : World} {B K m : Nat} {D : DataW Value} (h : MapD w B K (some m) D) : ∃ es cl, w.heap[m]? = some (.map es cl) := by
  rcases h with ⟨e, _⟩ | ⟨m', N, e, _, ⟨es, cl, h, _⟩, _⟩
  · cases e
  · cases e; exact ⟨es, cl, h⟩
theorem MapD.base {w : World} {B K m : Nat} {D : DataW Value} (h : MapD w B K (some m) D) : B ≤ m := by
  rcases h with ⟨e, _⟩ | ⟨m', N, e, h, _⟩
  · cases e
  · cases e; exact h
theorem UndoAt.obj {w : World} {B cap : Nat} {q : Addr} {V : List (ByteArray × Value)} (h : UndoAt w B (some q) cap V) : B ≤ q.block ∧ ∃ cur, w.heap[q.block]? = some (.cells cur 85 (0, 0)) := by
  rcases h with ⟨_, ⟨e, _⟩ | ⟨g, cp, cur, e, hB, hg, _⟩⟩
  · cases e
  · cases e; exact ⟨hB, cur, hg⟩
theorem RB.obj {B : Nat} {w : World} {a : Addr} {n c : Nat} {l : List UInt8} (h : RB B w (.slice (some a) n c) l) : a = ⟨a.block, 0, none⟩ ∧ n = l.length ∧ B ≤ a.block ∧ c ≤ 9223372036854775807 ∧ RowB 5 w a.block c l ∧ ∃ cur fr, w.heap[a.block]? = some (.cells cur 5 fr) := by
  rcases h with ⟨e, _⟩ | ⟨g, cp, e, hB, hc, hr⟩
  · cases e
  · cases e
    obtain ⟨arr, lo, hi, h1, h2⟩ := hr
    exact ⟨rfl, rfl, hB, hc, ⟨arr, lo, hi, h1, h2⟩, arr, _, h1⟩
theorem u8_ne : 5 ≠ 64 ∧ 5 ≠ 85 ∧ 85 ≠ 64 := by decide
section
variable {w : World} {b B K : Nat} {c : Value × Value × Value × Value × Value} {mp : Option Nat} {D : DataW Value} {syn : Nat} {V : List (ByteArray × Value)} {p : Option Addr} {cap : Nat} {F : ByteArray → List UInt8} {UL : List (ByteArray × List UInt8)}
theorem DI.sep (h : DI w b B K c mp D syn V p cap F UL) (q : Addr) (e : p = some q) : q.block ≠ b ∧ mp ≠ some q.block := by
  subst e
  obtain ⟨_, cur, hc⟩ := h.undo.obj
  refine ⟨fun e => ?_, fun e => ?_⟩
  · have := h.wd
    unfold WD at this
    rw [e, this] at hc
    injection hc with hc
    injection hc with _ hc
    exact u8_ne.2.2 hc.symm
  · subst e
    obtain ⟨es, cl, hm⟩ := h.map.obj
    rw [hm] at hc
    cases hc
theorem DI.mpb (h : DI w b B K c mp D syn V p cap F UL) : mp ≠ some b := fun e => by
  subst e
  obtain ⟨es, cl, hm⟩ := h.map.obj
  have := h.wd
  unfold WD at this
  rw [this] at hm
  cases hm
/-- A row of bytes is none of the disk's own blocks. -/
theorem DI.other (h : DI w b B K c mp D syn V p cap F UL) {g : Nat} {cur : Array Value} {fr : Nat × Nat} (hg : w.heap[g]? = some (.cells cur 5 fr)) : g ≠ b ∧ mp ≠ some g ∧ ∀ q, p = some q → g ≠ q.block := by
  refine ⟨fun e => ?_, fun e => ?_, fun q e e2 => ?_⟩
  · have := h.wd
    unfold WD at this
    rw [e, this] at hg
    injection hg with hg
    injection hg with _ hg
    exact u8_ne.1 hg.symm
  · subst e
    obtain ⟨es, cl, hm⟩ := h.map.obj
    rw [hm] at hg
    cases hg
  · subst e
    obtain ⟨_, cur2, hc⟩ := h.undo.obj
    rw [← e2, hg] at hc
    injection hc with hc
    injection hc with _ hc
    exact u8_ne.2.1 hc
theorem RB.same {B : Nat} {w w' : World} {v : Value} {l : List UInt8} (h : RB B w v l) (hh : ∀ a n c, v = .slice (some a) n c → w'.heap[a.block]? = w.heap[a.block]?) : RB B w' v l := by
  rcases h with h | ⟨g, cp, rfl, hB, hc, arr, lo, hi, h1, h2⟩
  · exact .inl h
  · exact .inr ⟨g, cp, rfl, hB, hc, arr, lo, hi, (hh _ _ _ rfl).trans h1, h2⟩
/-- Nothing of what was there has turned. -/
theorem DI.below (h : DI w b B K c mp D syn V p cap F UL) {w' : World} (hb : Below w.heap.size w w') : DI w' b B K c mp D syn V p cap F UL where
  wd := h.wd.same (hb.block b h.wd.lt)
  base := h.base
  map := h.map.same (fun m e => hb.block m (by subst e; exact h.map.lt))
  undo := by
    obtain ⟨h1, h2⟩ := h.undo
    refine ⟨h1, h2.imp id (fun ⟨g, cp, cur, e, hB, hg, h3⟩ => ⟨g, cp, cur, e, hB, (hb.block g (Array.getElem?_eq_some_iff.1 hg).1).trans hg, h3⟩)⟩
  body := fun s hs => (h.body s hs).below hb
  len := h.len
  old := fun j e l h1 h2 => ⟨(h.old j e l h1 h2).1, (h.old j e l h1 h2).2.below hb⟩
  apart := h.apart
  elder := h.elder
  named := h.named
end
end Go.Proofs.Ytfpgobbkeocokaa
