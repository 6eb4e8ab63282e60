/- The disk's map of files: what it reads as. -/
import Derived.Test.YtfpgobbkeocokaaDb
import Derived.Maps.OwnSet
import Derived.Maps.StringElems
import Derived.StringKeys
namespace Go.Proofs.Ytfpgobbkeocokaa
open Go.RowKit Go.Mp Go.Rb Go.Lib
open Go.Maps (Keyed)
/-- How a slice among a map's elements reads: as itself. -/
def R33 (v : Value) : Option (DataW Value × List MemPlace) := match v with
  | .slice a n c => some (.held (.slice a n c), [])
  | _ => none
theorem R33_inv {v : Value} {z : DataW Value × List MemPlace} (h : R33 v = some z) : ∃ a n c, v = .slice a n c ∧ z = (.held (.slice a n c), []) := by
  unfold R33 at h
  split at h
  · cases h; exact ⟨_, _, _, rfl, rfl⟩
  · cases h
def nilS : Value := .slice none 0 0
def keyL (s : ByteArray) : Lit := .string s.data.toList
theorem keyL_inj {s t : ByteArray} (h : keyL s = keyL t) : s = t := by
  unfold keyL at h
  injection h with h
  exact ByteArray.ext (Array.ext' h)
/-- What a map of files answers. -/
def valOf (D : DataW Value) (s : ByteArray) : Value := match D.atKey (keyL s) (.held nilS) with
  | .held v => v
  | _ => nilS
theorem law9 : Keyed Try.prog 9 := Go.Maps.string_keyed Try.underlying9
/-- A map of files, or none. -/
def MapD (w : World) (B K : Nat) (mp : Option Nat) (D : DataW Value) : Prop :=
  (mp = none ∧ D = .map []) ∨ ∃ m N, mp = some m ∧ B ≤ m ∧ w.ownsMap Try.prog 9 R33 m N D ∧ N ≤ K
theorem zero33 (w : World) : (zeroValue 33).run Try.prog w = .ok nilS w := by kernel_rfl
theorem valOf_nil (s : ByteArray) : valOf (.map []) s = nilS := rfl
theorem MapD.lookup {w : World} {B K : Nat} {mp : Option Nat} {D : DataW Value} (h : MapD w B K mp D) (s : ByteArray) (hs : s.size ≤ maxLen) :
    (Instr.lookup 59 (.map mp) (.string s) false).run Try.prog w = .ok (valOf D s) w := by
  rcases h with ⟨rfl, rfl⟩ | ⟨m, N, rfl, _, h, _⟩
  · exact lookup_nil Try.underlying59 Try.underlying9 (zero33 w) s
  · obtain ⟨v, ps, hrun, hv⟩ := h.lookup law9 Try.underlying59 (zero33 w) (zd := .held nilS) (zp := []) rfl (key := .string s) (kl := keyL s) (Go.WideMaps.keyOf_string_mk Try.underlying9 hs)
    obtain ⟨a, n, c, rfl, e⟩ := R33_inv hv
    have e2 : D.atKey (keyL s) (.held nilS) = .held (.slice a n c) := (Prod.mk.inj e).1
    rw [hrun]
    unfold valOf
    rw [e2]
theorem MapD.shape {w : World} {B K : Nat} {mp : Option Nat} {D : DataW Value} (h : MapD w B K mp D) (s : ByteArray) (hs : s.size ≤ maxLen) : ∃ a n c, valOf D s = .slice a n c := by
  rcases h with ⟨rfl, rfl⟩ | ⟨m, N, rfl, _, h, _⟩
  · exact ⟨none, 0, 0, rfl⟩
  · obtain ⟨v, ps, hrun, hv⟩ := h.lookup law9 Try.underlying59 (zero33 w) (zd := .held nilS) (zp := []) rfl (key := .string s) (kl := keyL s) (Go.WideMaps.keyOf_string_mk Try.underlying9 hs)
    obtain ⟨a, n, c, rfl, e⟩ := R33_inv hv
    have e2 : D.atKey (keyL s) (.held nilS) = .held (.slice a n c) := (Prod.mk.inj e).1
    refine ⟨a, n, c, ?_⟩
    unfold valOf
    rw [e2]
theorem MapD.same {w w' : World} {B K : Nat} {mp : Option Nat} {D : DataW Value} (h : MapD w B K mp D) (hh : ∀ m, mp = some m → w'.heap[m]? = w.heap[m]?) : MapD w' B K mp D := by
  rcases h with h | ⟨m, N, e, hB, ⟨es, clock, hb, h⟩, hN⟩
  · exact .inl h
  · exact .inr ⟨m, N, e, hB, ⟨es, clock, (hh m e).trans hb, h⟩, hN⟩
theorem MapD.lt {w : World} {B K m : Nat} {D : DataW Value} (h : MapD w B K (some m) D) : m < w.heap.size := by
  rcases h with ⟨e, _⟩ | ⟨m', N, e, _, h, _⟩
  · cases e
  · cases e; exact h.lt
theorem valOf_put_same {D : DataW Value} (hD : Go.Maps.IsMap D) (s : ByteArray) (a : Option Addr) (n c : Nat) : valOf (D.put (keyL s) (.held (.slice a n c))) s = .slice a n c := by
  unfold valOf
  rw [Go.Maps.atKey_put_same hD (show Go.WideAt.IsKeyLit (keyL s) from trivial)]
theorem valOf_put_other {D : DataW Value} {s t : ByteArray} (h : t ≠ s) (d : DataW Value) : valOf (D.put (keyL s) d) t = valOf D t := by
  unfold valOf
  rw [Go.Maps.atKey_put_other (fun e => h (keyL_inj e))]
end Go.Proofs.Ytfpgobbkeocokaa
