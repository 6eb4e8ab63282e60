/- A closed run, reckoned: it returns what was reckoned, and of what was there before nothing has turned. -/
import Derived.Test.YtjlaiimcbkbciaaDoorEv28
noncomputable section
namespace Go.Ev
open Go Go.RowKit
def H00 : AHeap := ⟨.leaf, 0, 0⟩
/-- The functions without a body of which the reckoner knows: numbers and what they are. -/
def extL (l : List (Nat × ExtK)) (f : FuncId) : Option ExtK :=
  match l with
  | [] => none
  | (k, e) :: l => match Nat.beq f k with
    | true => some e
    | false => extL l f
theorem extOK_nil {P : Program} : ExtOK P (extL []) := fun f k h _ => by cases h
theorem extOK_cons {P : Program} {k : Nat} {e : ExtK} {l : List (Nat × ExtK)} {fn : Func} (hl : ExtOK P (extL l)) (hf : P.funcs[k]? = some fn) (hname : (fn.name == "runtime.NumGoroutine") = false) (hb : fn.body.isNone = true) (hn : Extern.findNext fn = none) (he : Extern.find fn = some e.entry) : ExtOK P (extL ((k, e) :: l)) := by
  intro f k' h hpl args w
  unfold extL at h
  split at h
  · rename_i hk
    have hk := Nat.eq_of_beq_eq_true hk
    cases h
    subst hk
    simp only [callFunc, Sem.run_bind, run_program, Result.andThen_ok, hf, hname, hb, hn, he, Bool.false_eq_true, if_false, if_true, run_mark]
    rfl
  · exact hl f k' h hpl args w
def yes : Option (AV × AHeap) → Bool
  | some (.bool true, _) => true
  | _ => false
/-- The world as it stands, for a beginning. -/
def Bas.of (w : World) : Bas := ⟨w.heap.size, fun b => w.heap[b]?⟩
theorem EOK.plain {P : Program} {ext : FuncId → Option ExtK} {w : World} (h : ExtOK P ext) (hp : ∀ f k, ext f = some k → k.plain = true) : EOK ⟨P, ext, fun _ => none⟩ (Bas.of w) :=
  ⟨h, (fun f k e => by have := hp f _ e; cases this), (fun b l e => by cases e)⟩
theorem HR.none00 (P : Program) (w : World) : HR P (Bas.of w) (fun _ => none) H00 w := by
  refine ⟨fun n o h => ?_, fun n m o q b cp cq h => ?_, fun n o c l m h => ?_, fun n o c h => ?_, fun n b cp h => ?_, fun n o h => ?_, by decide, Nat.le_refl _, Nat.le_refl _, fun _ _ => rfl⟩
  all_goals first
    | (have : (H00.objs.get n : Option AObj) = none := Tr.get_leaf n); rw [this] at h; cases h
    | cases h
/-- A closed law's walk. -/
theorem closed {E : Env} {d f : Nat} (w : World) (hE : EOK E (Bas.of w)) (hm : E.P.follows .mixedOrders = true) (h : yes (aFn E d f [] H00) = true) :
    Calls E.P f #[] w fun e w' => e = .returned (.bool true) ∧ Below w.heap.size w w' := by
  unfold yes at h
  split at h
  · rename_i H' hr
    have := aFn_sound hE hm d f [] H00 _ H' hr (fun _ => none) w [] (HR.none00 E.P w) (fun _ _ _ => rfl) VRL.nil
    refine this.mono fun e w' ⟨v, ρ', h1, h2, h3, h4⟩ => ?_
    simp only [VR] at h2
    subst h2
    refine ⟨h1, h4.os, h4.tape, h4.output, h4.size, fun k hk => h4.frame k hk ?_⟩
    rintro ⟨n, o, cp, e, _⟩
    rw [show H00.objs.get n = none from Tr.get_leaf n] at e
    cases e
  · cases h
end Go.Ev
