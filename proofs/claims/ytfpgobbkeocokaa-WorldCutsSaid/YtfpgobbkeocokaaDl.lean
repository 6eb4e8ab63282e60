/- What the world's Cut gives is a world of the disk's kind again. -/
import Derived.Test.YtfpgobbkeocokaaDk
namespace Go.Proofs.Ytfpgobbkeocokaa
open Go.RowKit Go.Mp Go.Rb Go.Lib
theorem OutD.di {w : World} {B bn K mf N : Nat} {c : Value × Value × Value × Value × Value} {D D' : DataW Value} {G : ByteArray → List UInt8} {left : Lit → Bool} (hw : WD w bn c (some mf) N (.slice none 0 0)) (hbn : B ≤ bn) (hm : MapD w B K (some mf) D') (hO : OutD w B D' D G left) (hl : ∀ kl, left kl = false) :
    DI w bn B K c (some mf) D' N [] none 0 (fun t => if Go.Maps.has D (keyL t) then G t else []) [] where
  wd := hw
  base := hbn
  map := hm
  undo := World.ownsRow_nil _ _ _ _
  body := fun s hs => by
    have e := hO.has s
    rw [hl, Bool.not_false, Bool.and_true] at e
    cases hx : Go.Maps.has D (keyL s) with
    | true => simpa using hO.body s hs (e.trans hx)
    | false =>
      rw [valOf_none (e.trans hx)]
      exact .inl ⟨rfl, by simp⟩
  len := rfl
  old := fun j e l h => by cases h
  apart := fun s t a n c a' n' c' _ _ => hO.apart s t a n c a' n' c'
  elder := fun s j e a n c a' n' c' _ h => by cases h
  named := fun j e h => by cases h
end Go.Proofs.Ytfpgobbkeocokaa
