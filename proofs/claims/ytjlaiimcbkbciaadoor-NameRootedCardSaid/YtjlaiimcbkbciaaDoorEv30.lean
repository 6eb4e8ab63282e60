/- A run at known arguments, reckoned; a run at each number of a range. The arguments hold no block. -/
import Derived.Test.YtjlaiimcbkbciaaDoorEv29
noncomputable section
namespace Go.Ev
open Go Go.RowKit
/-- A law's walk at arguments that are known. -/
theorem closedL {E : Env} {d f : Nat} {l : List AV} {vs : List Value} (w : World) (hE : EOK E (Bas.of w)) (hm : E.P.follows .mixedOrders = true) (h : yes (aFn E d f l H00) = true) (hv : VRL (fun _ => none) l vs) :
    Calls E.P f vs.toArray w fun e w' => e = .returned (.bool true) ∧ Below w.heap.size w w' := by
  unfold yes at h
  split at h
  · rename_i H' hr
    have := aFn_sound hE hm d f l H00 _ H' hr (fun _ => none) w vs (HR.none00 E.P w) (fun _ _ _ => rfl) hv
    refine this.mono fun e w' ⟨v, ρ', h1, h2, h3, h4⟩ => ?_
    simp only [VR] at h2
    subst h2
    refine ⟨h1, h4.os, h4.tape, h4.output, h4.size, fun k hk => h4.frame k hk ?_⟩
    rintro ⟨n, o, cp, e, _⟩
    rw [show H00.objs.get n = none from Tr.get_leaf n] at e
    cases e
  · cases h
/-- True at each of n numbers from lo on. -/
def each (p : Int → Bool) (lo : Int) : Nat → Bool
  | 0 => true
  | n + 1 => match p lo with
    | true => each p (lo + 1) n
    | false => false
theorem each_spec {p : Int → Bool} : ∀ {n : Nat} {lo : Int}, each p lo n = true → ∀ i, lo ≤ i → i < lo + n → p i = true
  | 0, lo, _, i, h1, h2 => by omega
  | n + 1, lo, h, i, h1, h2 => by
    unfold each at h
    split at h
    · rename_i hp
      by_cases c : i = lo
      · rw [c]; exact hp
      · exact each_spec h i (by omega) (by omega)
    · cases h
/-- True of both. -/
theorem eachB {p : Bool → Bool} (h : (match p true with | true => p false | false => false) = true) : ∀ b, p b = true := by
  intro b
  split at h
  · cases b
    · exact h
    · assumption
  · cases h
theorem VRL.int1 {ρ : Ren} {k : IntKind} {n : Int} {l : List AV} {vs : List Value} (h : VRL ρ l vs) : VRL ρ (.int k n :: l) (.int k n :: vs) := VRL.cons rfl h
theorem VRL.bool1 {ρ : Ren} {b : Bool} {l : List AV} {vs : List Value} (h : VRL ρ l vs) : VRL ρ (.bool b :: l) (.bool b :: vs) := VRL.cons rfl h
end Go.Ev
