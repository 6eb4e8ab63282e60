/- The frame of a law whose row lists package variables: the wrap that hands on what they hold, the world's shape and the reach; from what a variable reads as to what the reckoner wants of it. -/
import Derived.Test.YtdfapebggghfdaaGreatDoorEvC
import Derived.HandedShaped
import Derived.Lib.LaidU8
import Derived.Stop.LaidErr
import Derived.Shelf.Vars
import Derived.Lay
import Derived.SevenTiedAt
import Derived.ProofKit
import Derived.OpenShut
namespace Go.Fr
open Go Go.Ev Go.RowKit Go.Lib
variable {H : Type} {enc : TypeId × Value → H}
theorem wrap {a : Assume} {C : Checked} {os : Os} {f : FuncId} {fn : Func} {s : ChangeSpec} {conds : List PathCond} {apart fresh handsOn again : Bool} {X : World → Array Value → Prop}
    (hX : ∀ (w w' : World) (args : Array Value), w.heap = w'.heap → X w args → X w' args)
    (own : ownKnob C.prog.godebug = none) (started : os.Started) (noInit : C.prog.inits.idxOf? f = none) (hfn : C.prog.funcs[f]? = some fn)
    (witness : ∃ (w : World) (tape : Tape) (i : Input), w.os = os ∧ (w.forCall tape i).Shaped C.prog ∧ i.vars = [] ∧ Input.okWide C.prog (w.forCall tape i) .any w.heap.size f i ∧
      ((s.pre enc C.prog fn conds apart (w.forCall tape i).memory i.args ∧ X (w.forCall tape i).memory i.args) ∧ sizedMet enc C.prog fn (OpenSpec.ofChange s) apart (w.forCall tape i).memory i.args) ∧ a.holds C.prog (lone (Frame.enter C.prog f i.args .normal) [] (w.forCall tape i)))
    (contract : ∀ (W : World) (base : Nat) (args : Array Value) (ds gs : List (DataW H)) (before : List MemPlace),
      (∀ (j : Nat) t v, fn.params[j]? = some t → args[j]? = some v → Value.okWide C.prog W .any base t v) →
      DataW.Whole enc C.prog fn.params.toList s.vars apart W args.toList ds gs before →
      conds.all (PathCond.test C.prog ⟨fn.params.toList, ds, s.plain.varTypes C.prog, gs⟩) = true →
      (DataW.weightsEach C.prog (fn.params.toList ++ s.plain.varTypes C.prog) (ds ++ gs)).all (· ≤ reachBytes) = true → X W args → W.ShapedOpen C.prog →
      Calls C.prog f args W fun e W' => ∃ v, e = .returned v ∧ s.post enc C.prog fn apart fresh handsOn again W args v W') :
    ReturnsInHanded a C os f .any (fun w args => (s.pre enc C.prog fn conds apart w args ∧ X w args) ∧ sizedMet enc C.prog fn (OpenSpec.ofChange s) apart w args) (s.post enc C.prog fn apart fresh handsOn again) := by
  refine returnsInHanded_of_calls own started noInit witness ?_
  intro w tape i _ hsh _ hok hpre hholds
  obtain ⟨_, _, _, fn', hfn', _, _, _, _, hval⟩ := hok
  have e : fn' = fn := Option.some.inj (hfn'.symm.trans hfn)
  subst e
  obtain ⟨⟨⟨ds, gs, before, hw, hc⟩, hx⟩, hz⟩ := hpre
  have hw' := DataW.Whole.of_heap (w' := w.forCall tape i) (by rfl) hw
  refine (contract (w.forCall tape i) w.heap.size i.args ds gs before hval hw' hc (hz.weights hw) (hX _ _ _ (by rfl) hx) hsh).mono fun e W' ⟨v, he, hp⟩ => ?_
  subst he
  exact ChangeSpec.post_blind hp
/-! ### What is known of package variables -/
def gL (l : List (Nat × List AV)) (b : Nat) : Option (List AV) :=
  match l with
  | [] => none
  | e :: l => match Nat.beq b e.1 with
    | true => some e.2
    | false => gL l b
/-- A variable holds these values. -/
def Has (W : World) (g : Nat) (l : List AV) : Prop :=
  ∃ arr elem fr, W.heap[g]? = some (.cells arr elem fr) ∧ ∃ vs, VRL (fun _ => none) l vs ∧ ∀ (i : Nat) v, vs[i]? = some v → arr[i]? = some v
theorem glo_nil {W : World} : GloOK (Bas.of W) (gL []) := fun b l e => by cases e
theorem glo_cons {W : World} {g : Nat} {x : List AV} {l : List (Nat × List AV)} (h : Has W g x) (hl : GloOK (Bas.of W) (gL l)) : GloOK (Bas.of W) (gL ((g, x) :: l)) := by
  intro b y e
  unfold gL at e
  split at e
  · rename_i hb
    have hb : b = g := Nat.eq_of_beq_eq_true hb
    cases e
    subst hb
    obtain ⟨arr, elem, fr, h1, h2⟩ := h
    exact ⟨(Array.getElem?_eq_some_iff.1 h1).1, arr, elem, fr, h1, h2⟩
  · exact hl b y e
theorem has_of_var {P : Program} {W : World} {n : String} {g : Nat} {cs : Array Value} {l : List AV} (hg : P.globalNamed n = some g) (hv : W.var? P n = some cs) (h : VRL (fun _ => none) l cs.toList) : Has W g l := by
  unfold World.var? at hv
  rw [hg] at hv
  simp only [Option.bind_some] at hv
  split at hv
  · rename_i arr elem fr hh
    cases hv
    exact ⟨_, _, _, hh, _, h, fun i v e => by simpa using e⟩
  · cases hv
theorem vrl_ints {k : IntKind} : ∀ (zs : List Int), VRL (fun _ => none) (zs.map fun z => AV.int k z) (zs.map fun z => Value.int k z)
  | [] => VRL.nil
  | _ :: zs => VRL.cons rfl (vrl_ints zs)
/-- A table of integers. -/
theorem has_tab {P : Program} {W : World} {n : String} {g t e m : Nat} {k : IntKind} {zs : List Int} (h : VarReads P W n (tabData k zs)) (hg : P.globalNamed n = some g) (hty : (P.globals[g]?).map (·.type) = some t)
    (ht : P.underlying t = some (.array m e)) (he : P.underlying e = some (.int k)) (hce : P.cellsOf e = 1) (hct : P.cellsOf t = m) : Has W g (zs.map fun z => AV.int k z) := by
  obtain ⟨g', t', cs, fuel, p, h1, h2, h3, h4⟩ := h
  obtain rfl := Option.some.inj (hg.symm.trans h1)
  obtain rfl := Option.some.inj (hty.symm.trans h2)
  refine has_of_var hg h3 ?_
  rw [cells_of_tab ht he hce hct h4]
  exact vrl_ints zs
/-- A sentinel error. -/
theorem has_sent {P : Program} {n nm : String} {text : List UInt8} {r : List (String × DataW Unit)} {W : World} {g : Nat} {ti tp te ts : TypeId} {ms : Array (String × TypeId)} {f : Field}
    (h : laidMet P ((n, .iface nm (.ptr (.agg [.lit (.string text)]))) :: r) W)
    (hg : P.globalNamed n = some g) (ht : (P.globals[g]?).map (·.type) = some ti) (hi : P.underlying ti = some (.interface ms)) (hrow : ∀ u, P.typeName? 3 u = some nm → u = tp)
    (hp : P.underlying tp = some (.pointer te)) (he : P.underlying te = some (.struct #[f])) (hft : f.type = ts) (hfo : f.offset = 0) (hs : P.underlying ts = some .string) (hc : P.cellsOf te = 1) (hcs : P.cellsOf ts = 1) :
    ∃ b o : Nat, Has W g [.iface tp (.glob b o)] := by
  obtain ⟨a, s, h1, h2, _, _⟩ := laid_sentinel h hg ht hi hrow hp he hft hfo hs hc hcs
  obtain ⟨b, o, sp⟩ := a
  have : sp = none := by
    unfold World.cell? at h2
    split at h2
    · split at h2
      · cases h2
      · rename_i hn; simpa using hn
    · cases h2
  subst this
  exact ⟨b, o, has_of_var hg h1 (VRL.cons ⟨_, rfl, rfl⟩ VRL.nil)⟩
end Go.Fr
