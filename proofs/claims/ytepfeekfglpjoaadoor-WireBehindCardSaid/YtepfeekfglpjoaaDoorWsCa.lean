/- Contracts and plain facts that the law leans on. -/
import Derived.Test.YtepfeekfglpjoaaDoorEvC
import Derived.HandedShaped
import Derived.Lib.LaidU8
import Derived.Stop.LaidErr
import Derived.Shelf.Vars
import Derived.Lay
import Derived.SevenTiedAt
import Derived.ProofKit
import Derived.OpenShut
import Derived.Test.YtepfeekfglpjoaaDoorRows
import Derived.Test.YtepfeekfglpjoaaDoorShelf
import Derived.SliceStrings
import Derived.WideShapes
import Derived.Carry
import Derived.WalkKit
import Derived.LoopTactic
import Derived.Below
import Derived.OwnWalk
import Derived.Lib.Hide
import Derived.BigQuiet
import Derived.ChangeAlike
import Derived.Laws.BitsAllLaws
import Derived.Lib.Bytes
import Derived.KernelRfl
import Derived.Lib.Strings
import Derived.Lib.SplitLaws
import Derived.Laws.RangeAny
import Derived.Shelf.GgClosure.StringsIndexFunc
import Derived.Laws.IdiomStrings
import Derived.Laws.OwnMore
import Derived.Test.YtepfeekfglpjoaaDoorChecked
import Derived.Laws.AppendOwn
import Derived.Deep.RegionHeld3
import Derived.Deep.AppendLies
import Derived.Deep.RegionLaw
namespace Go.Fr
open Go Go.Ev Go.RowKit Go.Lib
variable {H : Type} {enc : TypeId × Value → H}
theorem wrap {a : Assume} {C : Checked} {os : Os} {f : FuncId} {fn : Func} {s : ChangeSpec} {conds : List PathCond} {apart fresh handsOn again : Bool} {X : World → Array Value → Prop}
    (hX : ∀ (w w' : World) (args : Array Value), w.heap = w'.heap → X w args → X w' args)
    (own : ownKnob C.prog.godebug = none) (started : os.Started) (noInit : C.prog.inits.idxOf? f = none) (hfn : C.prog.funcs[f]? = some fn)
    (witness : ∃ (w : World) (tape : Tape) (i : Input), w.os = os ∧ (w.forCall tape i).Shaped C.prog ∧ i.vars = [] ∧ Input.okWide C.prog (w.forCall tape i) .any w.heap.size f i ∧
      ((s.pre enc C.prog fn conds apart (w.forCall tape i).memory i.args ∧ X (w.forCall tape i).memory i.args) ∧ sizedMet enc C.prog fn (OpenSpec.ofChange s) apart (w.forCall tape i).memory i.args) ∧ a.holds C.prog (lone (Frame.enter C.prog f i.args .normal) [] (w.forCall tape i)))
    (contract : ∀ (W : World) (base : Nat) (args : Array Value) (ds gs : List (DataW H)) (before : List MemPlace),
      (∀ (j : Nat) t v, fn.params[j]? = some t → args[j]? = some v → Value.okWide C.prog W .any base t v) →
      DataW.Whole enc C.prog fn.params.toList s.vars apart W args.toList ds gs before →
      conds.all (PathCond.test C.prog ⟨fn.params.toList, ds, s.plain.varTypes C.prog, gs⟩) = true →
      (DataW.weightsEach C.prog (fn.params.toList ++ s.plain.varTypes C.prog) (ds ++ gs)).all (· ≤ reachBytes) = true → X W args → W.ShapedOpen C.prog →
      Calls C.prog f args W fun e W' => ∃ v, e = .returned v ∧ s.post enc C.prog fn apart fresh handsOn again W args v W') :
    ReturnsInHanded a C os f .any (fun w args => (s.pre enc C.prog fn conds apart w args ∧ X w args) ∧ sizedMet enc C.prog fn (OpenSpec.ofChange s) apart w args) (s.post enc C.prog fn apart fresh handsOn again) := by
  refine returnsInHanded_of_calls own started noInit witness ?_
  intro w tape i _ hsh _ hok hpre hholds
  obtain ⟨_, _, _, fn', hfn', _, _, _, _, hval⟩ := hok
  have e : fn' = fn := Option.some.inj (hfn'.symm.trans hfn)
  subst e
  obtain ⟨⟨⟨ds, gs, before, hw, hc⟩, hx⟩, hz⟩ := hpre
  have hw' := DataW.Whole.of_heap (w' := w.forCall tape i) (by rfl) hw
  refine (contract (w.forCall tape i) w.heap.size i.args ds gs before hval hw' hc (hz.weights hw) (hX _ _ _ (by rfl) hx) hsh).mono fun e W' ⟨v, he, hp⟩ => ?_
  subst he
  exact ChangeSpec.post_blind hp
/-! ### What is known of package variables -/
def gL (l : List (Nat × List AV)) (b : Nat) : Option (List AV) :=
  match l with
  | [] => none
  | e :: l => match Nat.beq b e.1 with
    | true => some e.2
    | false => gL l b
/-- A variable holds these values. -/
def Has (W : World) (g : Nat) (l : List AV) : Prop :=
  ∃ arr elem fr, W.heap[g]? = some (.cells arr elem fr) ∧ ∃ vs, VRL (fun _ => none) l vs ∧ ∀ (i : Nat) v, vs[i]? = some v → arr[i]? = some v
theorem glo_nil {W : World} : GloOK (Bas.of W) (gL []) := fun b l e => by cases e
theorem glo_cons {W : World} {g : Nat} {x : List AV} {l : List (Nat × List AV)} (h : Has W g x) (hl : GloOK (Bas.of W) (gL l)) : GloOK (Bas.of W) (gL ((g, x) :: l)) := by
  intro b y e
  unfold gL at e
  split at e
  · rename_i hb
    have hb : b = g := Nat.eq_of_beq_eq_true hb
    cases e
    subst hb
    obtain ⟨arr, elem, fr, h1, h2⟩ := h
    exact ⟨(Array.getElem?_eq_some_iff.1 h1).1, arr, elem, fr, h1, h2⟩
  · exact hl b y e
theorem has_of_var {P : Program} {W : World} {n : String} {g : Nat} {cs : Array Value} {l : List AV} (hg : P.globalNamed n = some g) (hv : W.var? P n = some cs) (h : VRL (fun _ => none) l cs.toList) : Has W g l := by
  unfold World.var? at hv
  rw [hg] at hv
  simp only [Option.bind_some] at hv
  split at hv
  · rename_i arr elem fr hh
    cases hv
    exact ⟨_, _, _, hh, _, h, fun i v e => by simpa using e⟩
  · cases hv
theorem vrl_ints {k : IntKind} : ∀ (zs : List Int), VRL (fun _ => none) (zs.map fun z => AV.int k z) (zs.map fun z => Value.int k z)
  | [] => VRL.nil
  | _ :: zs => VRL.cons rfl (vrl_ints zs)
/-- A table of integers. -/
theorem has_tab {P : Program} {W : World} {n : String} {g t e m : Nat} {k : IntKind} {zs : List Int} (h : VarReads P W n (tabData k zs)) (hg : P.globalNamed n = some g) (hty : (P.globals[g]?).map (·.type) = some t)
    (ht : P.underlying t = some (.array m e)) (he : P.underlying e = some (.int k)) (hce : P.cellsOf e = 1) (hct : P.cellsOf t = m) : Has W g (zs.map fun z => AV.int k z) := by
  obtain ⟨g', t', cs, fuel, p, h1, h2, h3, h4⟩ := h
  obtain rfl := Option.some.inj (hg.symm.trans h1)
  obtain rfl := Option.some.inj (hty.symm.trans h2)
  refine has_of_var hg h3 ?_
  rw [cells_of_tab ht he hce hct h4]
  exact vrl_ints zs
/-- A sentinel error. -/
theorem has_sent {P : Program} {n nm : String} {text : List UInt8} {r : List (String × DataW Unit)} {W : World} {g : Nat} {ti tp te ts : TypeId} {ms : Array (String × TypeId)} {f : Field}
    (h : laidMet P ((n, .iface nm (.ptr (.agg [.lit (.string text)]))) :: r) W)
    (hg : P.globalNamed n = some g) (ht : (P.globals[g]?).map (·.type) = some ti) (hi : P.underlying ti = some (.interface ms)) (hrow : ∀ u, P.typeName? 3 u = some nm → u = tp)
    (hp : P.underlying tp = some (.pointer te)) (he : P.underlying te = some (.struct #[f])) (hft : f.type = ts) (hfo : f.offset = 0) (hs : P.underlying ts = some .string) (hc : P.cellsOf te = 1) (hcs : P.cellsOf ts = 1) :
    ∃ b o : Nat, Has W g [.iface tp (.glob b o)] := by
  obtain ⟨a, s, h1, h2, _, _⟩ := laid_sentinel h hg ht hi hrow hp he hft hfo hs hc hcs
  obtain ⟨b, o, sp⟩ := a
  have : sp = none := by
    unfold World.cell? at h2
    split at h2
    · split at h2
      · cases h2
      · rename_i hn; simpa using hn
    · cases h2
  subst this
  exact ⟨b, o, has_of_var hg h1 (VRL.cons ⟨_, rfl, rfl⟩ VRL.nil)⟩
end Go.Fr

namespace Go.Proofs.YtepfeekfglpjoaaDoor
open Go.RowKit Go.Ev Go.Fr Go.Lib Go.ChangeShapes
theorem fol : Tryd.prog.follows .mixedOrders = true := by kernel_rfl
theorem own : ownKnob Tryd.prog.godebug = none := by kernel_rfl
abbrev laidL : List (String × DataW Unit) := Rows.wireShortRow.laid
noncomputable def exts : List (Nat × ExtK) := []
def glos : List (Nat × List AV) :=
  []
noncomputable def E0 : Env := { P := Tryd.prog, ext := extL exts, G := gL glos }
theorem fns (B : Bas) (W : World) (_hB : B = Bas.of W) (_hsh : W.ShapedOpen Tryd.prog) : FnsOK Tryd.prog B (extL exts) := by
  exact FnsOK.nil
theorem eok (W : World) (_hL : laidMetH Tryd.prog laidL W) (hsh : W.ShapedOpen Tryd.prog) : EOK E0 (Bas.of W) := by
  exact ⟨extOK_nil, fns _ W rfl hsh, glo_nil⟩
end Go.Proofs.YtepfeekfglpjoaaDoor

namespace Go.Sl
open Go Go.RowKit Go.ChangeShapes Go.ChangeMaps Go.WideShapes
/-- A slice of texts that came in: all texts up to its capacity. -/
def IsStrs (w : World) (a : Option Addr) (n c : Nat) (ss : List ByteArray) : Prop :=
  (a = none ∧ n = 0 ∧ c = 0 ∧ ss = []) ∨ ∃ x, a = some x ∧ n ≤ c ∧ c ≤ maxLen ∧ ss.length = c ∧ (∀ i, i < ss.length → w.cell? (x.add i) = some (.string (ss.getD i ByteArray.empty))) ∧ ∀ s ∈ ss, s.size ≤ maxLen
/-- A slice of numbers that came in: all numbers up to its capacity. -/
def IsInts (k : IntKind) (w : World) (a : Option Addr) (n c : Nat) (zs : List Int) : Prop :=
  (a = none ∧ n = 0 ∧ c = 0 ∧ zs = []) ∨ ∃ x, a = some x ∧ n ≤ c ∧ c ≤ maxLen ∧ zs.length = c ∧ (∀ i, i < zs.length → w.cell? (x.add i) = some (.int k (zs.getD i 0))) ∧ ∀ z ∈ zs, (Lit.int k z).wf = true
theorem isStrs_of {H : Type} {enc : TypeId × Value → H} {P : Program} {w : World} {t e : TypeId} {a : Option Addr} {n c : Nat} {d : DataW H} {ps : List MemPlace} (ht : P.underlying t = some (.slice e)) (he : P.underlying e = some .string) (hc : P.cellsOf e = 1)
    (h : DataW.Trod enc P w 0 (fun _ => true) true t (.slice a n c) d ps) : ∃ ss, IsStrs w a n c ss := by
  obtain ⟨fuel, hf⟩ := h
  rcases open_strings ht he hc hf with ⟨hcs, _⟩ | ⟨x, l, c', ss, hcs, _, hl, hm, hz, _, hcell, hws⟩
  · simp [Value.cells] at hcs
    obtain ⟨rfl, rfl, rfl⟩ := hcs
    exact ⟨[], .inl ⟨rfl, rfl, rfl, rfl⟩⟩
  · simp [Value.cells] at hcs
    obtain ⟨rfl, rfl, rfl⟩ := hcs
    exact ⟨ss, .inr ⟨_, rfl, hl, hm, by simpa using hz, hcell, hws⟩⟩
theorem isInts_of {H : Type} {enc : TypeId × Value → H} {P : Program} {w : World} {t e : TypeId} {k : IntKind} {a : Option Addr} {n c : Nat} {d : DataW H} {ps : List MemPlace} (ht : P.underlying t = some (.slice e)) (he : P.underlying e = some (.int k)) (hc : P.cellsOf e = 1)
    (h : DataW.Trod enc P w 0 (fun _ => true) true t (.slice a n c) d ps) : ∃ zs, IsInts k w a n c zs := by
  obtain ⟨fuel, hf⟩ := h
  rcases open_ints ht he hc hf with ⟨hcs, _⟩ | ⟨x, l, c', ss, hcs, _, hl, hm, hz, _, hcell, hws⟩
  · simp [Value.cells] at hcs
    obtain ⟨rfl, rfl, rfl⟩ := hcs
    exact ⟨[], .inl ⟨rfl, rfl, rfl, rfl⟩⟩
  · simp [Value.cells] at hcs
    obtain ⟨rfl, rfl, rfl⟩ := hcs
    exact ⟨ss, .inr ⟨_, rfl, hl, hm, by simpa using hz, hcell, hws⟩⟩
end Go.Sl

namespace Go.Wi
open Go.RowKit
/-- A slice of bytes that reads as l. -/
structure BA (w : World) (a : Option Addr) (n c : Nat) (l : List UInt8) : Prop where
  len : l.length = n
  cap : n ≤ c
  max : c ≤ 9223372036854775807
  none : a = none → c = 0
  cell : ∀ x, a = some x → ∀ j b, l[j]? = some b → w.cell? (x.add j) = some (.int .u8 (b.toNat : Int))
theorem add_block (x : Addr) (j : Nat) : (x.add j).block = x.block := by unfold Addr.add; split <;> rfl
/-- Of what was there, nothing has changed but block p. -/
structure Kp (p : Nat) (w w' : World) : Prop where
  os : w'.os = w.os
  tape : w'.tape = w.tape
  output : w'.output = w.output
  size : w.heap.size ≤ w'.heap.size
  block : ∀ k, k < w.heap.size → k ≠ p → w'.heap[k]? = w.heap[k]?
theorem Kp.refl (p : Nat) (w : World) : Kp p w w := ⟨rfl, rfl, rfl, Nat.le_refl _, fun _ _ _ => rfl⟩
theorem Kp.trans {p : Nat} {a b c : World} (h : Kp p a b) (k : Kp p b c) : Kp p a c :=
  ⟨k.os.trans h.os, k.tape.trans h.tape, k.output.trans h.output, Nat.le_trans h.size k.size, fun i hi hp => (k.block i (Nat.lt_of_lt_of_le hi h.size) hp).trans (h.block i hi hp)⟩
theorem Kp.of {p : Nat} {w w' : World} (h : Below w.heap.size w w') : Kp p w w' := ⟨h.os, h.tape, h.output, h.size, fun k hk _ => h.block k hk⟩
theorem Kp.below {p B : Nat} {w w' : World} (h : Kp p w w') (hB : B ≤ p) (hs : B ≤ w.heap.size) : Below B w w' := ⟨h.os, h.tape, h.output, h.size, fun k hk => h.block k (by omega) (by omega)⟩
theorem Kp.cell {p : Nat} {w w' : World} (h : Kp p w w') {x : Addr} (hx : x.block < w.heap.size) (hp : x.block ≠ p) : w'.cell? x = w.cell? x := by
  unfold World.cell?
  rw [h.block x.block hx hp]
theorem Kp.set {p : Nat} {w : World} {k : Nat} {v : Value} : Kp p w (w.setCell ⟨p, k, none⟩ v) :=
  ⟨rfl, rfl, rfl, by simp, fun i _ hp => by
    have := (Below.refl (i + 1) w)
    show (w.heap.modify p _)[i]? = _
    rw [Array.getElem?_modify, if_neg (fun e => hp e.symm)]⟩
theorem BA.kp {p : Nat} {w w' : World} {a : Option Addr} {n c : Nat} {l : List UInt8} (h : BA w a n c l) (hk : Kp p w w') (hlt : ∀ x, a = some x → x.block < w.heap.size ∧ x.block ≠ p) : BA w' a n c l :=
  ⟨h.len, h.cap, h.max, h.none, fun x hx j b hj => by
    rw [hk.cell (by rw [add_block]; exact (hlt x hx).1) (by rw [add_block]; exact (hlt x hx).2)]; exact h.cell x hx j b hj⟩
/-- A reader at block p: its bytes, its place, whether it is bad. -/
structure RD (w : World) (p : Nat) (a : Option Addr) (n c : Nat) (l : List UInt8) (at_ : Int) (bad : Bool) : Prop where
  lt : p < w.heap.size
  c0 : w.cell? ⟨p, 0, none⟩ = some (.slice a n c)
  c1 : w.cell? ⟨p, 1, none⟩ = some (.int .i64 at_)
  c2 : w.cell? ⟨p, 2, none⟩ = some (.bool bad)
  f1 : w.frozen? ⟨p, 1, none⟩ = false
  f2 : w.frozen? ⟨p, 2, none⟩ = false
  ba : BA w a n c l
  apart : ∀ x, a = some x → x.block < w.heap.size ∧ x.block ≠ p
theorem RD.below {w w' : World} {p : Nat} {a : Option Addr} {n c : Nat} {l : List UInt8} {at_ : Int} {bad : Bool} (h : RD w p a n c l at_ bad) (hb : Below w.heap.size w w') : RD w' p a n c l at_ bad :=
  ⟨Nat.lt_of_lt_of_le h.lt hb.size, by rw [hb.cell (p := ⟨p, 0, none⟩) h.lt]; exact h.c0, by rw [hb.cell (p := ⟨p, 1, none⟩) h.lt]; exact h.c1, by rw [hb.cell (p := ⟨p, 2, none⟩) h.lt]; exact h.c2,
    by rw [World.frozen?_of_block (w := w) (hb.block p h.lt)]; exact h.f1, by rw [World.frozen?_of_block (w := w) (hb.block p h.lt)]; exact h.f2,
    h.ba.kp (Kp.of hb) h.apart, fun x hx => ⟨Nat.lt_of_lt_of_le (h.apart x hx).1 hb.size, (h.apart x hx).2⟩⟩
theorem ne01 (p i j : Nat) (h : i ≠ j) : (⟨p, i, none⟩ : Addr) ≠ ⟨p, j, none⟩ := fun e => by cases e; exact h rfl
theorem RD.setAt {w : World} {p : Nat} {a : Option Addr} {n c : Nat} {l : List UInt8} {at_ : Int} {bad : Bool} (h : RD w p a n c l at_ bad) (i : Int) : RD (w.setCell ⟨p, 1, none⟩ (.int .i64 i)) p a n c l i bad :=
  ⟨by simpa using h.lt, by rw [World.cell?_setCell_other w _ _ _ (ne01 p 1 0 (by decide))]; exact h.c0, World.cell?_setCell_same w _ _ h.c1, by rw [World.cell?_setCell_other w _ _ _ (ne01 p 1 2 (by decide))]; exact h.c2,
    by simpa using h.f1, by simpa using h.f2, h.ba.kp Kp.set h.apart, fun x hx => by simpa using h.apart x hx⟩
theorem RD.setBad {w : World} {p : Nat} {a : Option Addr} {n c : Nat} {l : List UInt8} {at_ : Int} {bad : Bool} (h : RD w p a n c l at_ bad) (b : Bool) : RD (w.setCell ⟨p, 2, none⟩ (.bool b)) p a n c l at_ b :=
  ⟨by simpa using h.lt, by rw [World.cell?_setCell_other w _ _ _ (ne01 p 2 0 (by decide))]; exact h.c0, by rw [World.cell?_setCell_other w _ _ _ (ne01 p 2 1 (by decide))]; exact h.c1, World.cell?_setCell_same w _ _ h.c2,
    by simpa using h.f1, by simpa using h.f2, h.ba.kp Kp.set h.apart, fun x hx => by simpa using h.apart x hx⟩
theorem RD.drawn {w : World} {p : Nat} {a : Option Addr} {n c : Nat} {l : List UInt8} {at_ : Int} {bad : Bool} (h : RD w p a n c l at_ bad) (k : Nat) : RD (w.drewN k) p a n c l at_ bad :=
  ⟨h.lt, h.c0, h.c1, h.c2, h.f1, h.f2, ⟨h.ba.len, h.ba.cap, h.ba.max, h.ba.none, h.ba.cell⟩, h.apart⟩
theorem Kp.drawn (p : Nat) (w : World) (k : Nat) : Kp p w (w.drewN k) := ⟨rfl, rfl, rfl, Nat.le_refl _, fun _ _ _ => rfl⟩
/-- The bytes that are taken. -/
def tk (l : List UInt8) (i s : Nat) : List UInt8 := (l.drop i).take s
theorem BA.part {w : World} {a : Option Addr} {n c : Nat} {l : List UInt8} (h : BA w a n c l) (i s : Nat) (his : i + s ≤ n) : BA w (if c = i then a else a.map (·.add i)) s (c - i) (tk l i s) := by
  have hc := h.cap
  have hm := h.max
  refine ⟨by unfold tk; rw [List.length_take, List.length_drop, h.len]; omega, by omega, by omega, fun hn => ?_, fun x hx j b hj => ?_⟩
  · split at hn
    · have := h.none hn; omega
    · cases a with
      | none => have := h.none rfl; omega
      | some x => cases hn
  · unfold tk at hj
    have hjs : j < s := by
      have := (List.getElem?_eq_some_iff.1 hj).1
      rw [List.length_take] at this
      omega
    rw [List.getElem?_take_of_lt hjs, List.getElem?_drop] at hj
    split at hx
    · rename_i e
      have := (List.getElem?_eq_some_iff.1 hj).1
      rw [h.len] at this
      omega
    · cases a with
      | none => cases hx
      | some y =>
        cases hx
        have := h.cell y rfl (i + j) b hj
        have ha : (y.add i).add j = y.add (i + j) := Addr.add_add y i j
        rw [ha]
        exact this
end Go.Wi
namespace Go.Proofs.YtepfeekfglpjoaaDoor
open Go.RowKit Go.Lib Go.Wi
theorem check_any (w : World) (p : Nat) (a : Option Addr) (n c : Nat) (l : List UInt8) (i : Int) (bad b : Bool) (h : RD w p a n c l i bad) :
    Calls Tryd.prog 36 #[.pointer (some ⟨p, 0, none⟩), .bool b] w fun e w' => e = .returned (.tuple #[]) ∧ RD w' p a n c l i (bad || !b) ∧ Kp p w w' := by
  have hc2 := h.c2
  have hf2 := h.f2
  have HR := Lib.hid h
  clear h
  cases bad <;> cases b
  all_goals
    go_enter Tryd.func36, Tryd.ntmps36
    go_wp2
    go_end0
    exact ⟨rfl, HR.out.setBad _, Kp.set⟩
/-- take, where there are enough bytes. -/
theorem take_ok (w : World) (p : Nat) (a : Option Addr) (n c : Nat) (l : List UInt8) (i s : Nat) (h : RD w p a n c l (i : Int) false) (his : i + s ≤ n) :
    Calls Tryd.prog 37 #[.pointer (some ⟨p, 0, none⟩), .int .i64 (s : Int)] w fun e w' => (∃ a' c', e = .returned (.slice a' s c') ∧ BA w' a' s c' (tk l i s) ∧ ∀ x, a' = some x → x.block < w'.heap.size ∧ x.block ≠ p) ∧ RD w' p a n c l ((i + s : Nat) : Int) false ∧ Kp p w w' := by
  have hc0 := h.c0
  have hc1 := h.c1
  have hc2 := h.c2
  have hf1 := h.f1
  have hcap := h.ba.cap
  have hmax := h.ba.max
  have HR := Lib.hid h
  have h1 : ¬ ((n : Int) - (i : Int) < (s : Int)) := by omega
  have h1' : (s : Int) ≤ (n : Int) - (i : Int) := by omega
  have h2 : (0 : Int) ≤ (i : Int) := by omega
  have h3 : (i : Int) ≤ (i : Int) + (s : Int) := by omega
  have h4 : (i : Int) + (s : Int) ≤ (c : Int) := by omega
  have hpt := fun (W : World) (hW : RD W p a n c l ((i + s : Nat) : Int) false) => hW.ba.part i s his
  have HPT := Lib.hid hpt
  clear h hpt
  have hap : ∀ W : World, RD W p a n c l ((i + s : Nat) : Int) false → ∀ x, (if c = i then a else a.map (·.add i)) = some x → x.block < W.heap.size ∧ x.block ≠ p := fun W hW x hx => by
    split at hx
    · exact hW.apart x hx
    · cases a with
      | none => cases hx
      | some y => cases hx; rw [add_block]; exact hW.apart y rfl
  have HAP := Lib.hid hap
  clear hap
  by_cases hci : c = i
  · rw [if_pos hci] at HPT HAP
    subst hci
    obtain rfl : s = 0 := by omega
    rw [Nat.sub_self] at HPT
    go_enter Tryd.func37, Tryd.ntmps37
    go_wp2
    go_quiet (fail)
    go_wp2
    go_quiet (fail)
    go_wp2
    go_ret
    refine ⟨⟨_, _, by first | rfl | (show Ending.returned (Value.slice _ (i + s - i) _) = _; rw [hsi]), HPT.out _ ?_, HAP.out _ ?_⟩, ?_, ((Kp.drawn _ _ _).trans Kp.set).trans (Kp.drawn _ _ _)⟩
    all_goals exact ((HR.out.drawn _).setAt _).drawn _
  · rw [if_neg hci] at HPT HAP
    have hsi : i + s - i = s := by omega
    go_enter Tryd.func37, Tryd.ntmps37
    go_wp2
    go_quiet (fail)
    go_wp2
    go_quiet (fail)
    go_wp2
    go_ret
    refine ⟨⟨_, _, by first | rfl | (show Ending.returned (Value.slice _ (i + s - i) _) = _; rw [hsi]), HPT.out _ ?_, HAP.out _ ?_⟩, ?_, ((Kp.drawn _ _ _).trans Kp.set).trans (Kp.drawn _ _ _)⟩
    all_goals exact ((HR.out.drawn _).setAt _).drawn _
/-- take, where there are too few, or where the reader is bad. -/
theorem take_no (w : World) (p : Nat) (a : Option Addr) (n c : Nat) (l : List UInt8) (i : Int) (s : Nat) (bad : Bool) (h : RD w p a n c l i bad) (hb : bad = true ∨ ((n : Int) - i < s ∧ 0 ≤ i ∧ i ≤ n)) (hs : s ≤ 1000000) :
    Calls Tryd.prog 37 #[.pointer (some ⟨p, 0, none⟩), .int .i64 (s : Int)] w fun e w' => e = .returned (.slice none 0 0) ∧ RD w' p a n c l i true ∧ Kp p w w' := by
  have hc0 := h.c0
  have hc1 := h.c1
  have hc2 := h.c2
  have hf2 := h.f2
  have hcap := h.ba.cap
  have hmax := h.ba.max
  have HR := Lib.hid h
  clear h
  cases bad with
  | true =>
    clear hb
    go_enter Tryd.func37, Tryd.ntmps37
    go_wp2
    go_quiet (fail)
    go_wp2
    go_ret
    exact ⟨rfl, (HR.out.drawn _).setBad _, (Kp.drawn _ _ _).trans Kp.set⟩
  | false =>
    have h1 : (n : Int) - i < (s : Int) := by rcases hb with h | h; cases h; exact h.1
    have h0 : 0 ≤ i := by rcases hb with h | h; cases h; exact h.2.1
    have hn : i ≤ n := by rcases hb with h | h; cases h; exact h.2.2
    clear hb
    go_enter Tryd.func37, Tryd.ntmps37
    go_wp2
    go_quiet (fail)
    go_wp2
    go_ret
    exact ⟨rfl, (HR.out.drawn _).setBad _, (Kp.drawn _ _ _).trans Kp.set⟩
end Go.Proofs.YtepfeekfglpjoaaDoor

namespace Go.Wi
def numV (l : List UInt8) : Nat := l.foldl (fun n c => n * 256 + c.toNat) 0
theorem numV_snoc (l : List UInt8) (c : UInt8) : numV (l ++ [c]) = numV l * 256 + c.toNat := by simp [numV, List.foldl_append]
theorem numF_lt : ∀ (l : List UInt8) (a : Nat), l.foldl (fun n c => n * 256 + c.toNat) a < (a + 1) * 256 ^ l.length
  | [], a => by simp
  | c :: l, a => by
    have h := numF_lt l (a * 256 + c.toNat)
    have hc := c.toNat_lt
    have e : (c :: l).foldl (fun n c => n * 256 + c.toNat) a = l.foldl (fun n c => n * 256 + c.toNat) (a * 256 + c.toNat) := rfl
    rw [e, List.length_cons, Nat.pow_succ]
    refine Nat.lt_of_lt_of_le h ?_
    rw [Nat.mul_comm (256 ^ l.length) 256, ← Nat.mul_assoc]
    exact Nat.mul_le_mul_right _ (by omega)
theorem numV_lt (l : List UInt8) : numV l < 256 ^ l.length := by
  have := numF_lt l 0
  simpa [numV] using this
theorem or_i64 (k : Nat) (c : UInt8) (hk : k < 16777216) : bits .or .i64 ((k : Int) * 256) (c.toNat : Int) = ((k * 256 + c.toNat : Nat) : Int) := by
  have hc := c.toNat_lt
  have h := (bits_nat .i64 62 (by decide) (fun n h0 h1 => by rw [IntKind.wrap_i64]; omega) (k * 256) c.toNat (by omega) (by omega)).2
  have h3 := Nat.two_pow_add_eq_or_of_lt (i := 8) hc k
  rw [show k * 256 = 2 ^ 8 * k by omega, ← h3] at h
  rw [show (k : Int) * 256 = ((2 ^ 8 * k : Nat) : Int) by omega, h]
  congr 1
  omega
end Go.Wi
namespace Go.Proofs.YtepfeekfglpjoaaDoor
open Go.RowKit Go.Lib Go.Wi
theorem number_ok (w : World) (p : Nat) (a : Option Addr) (n c : Nat) (l : List UInt8) (i s : Nat) (h : RD w p a n c l (i : Int) false) (his : i + s ≤ n) (hs : s ≤ 4) :
    Calls Tryd.prog 35 #[.pointer (some ⟨p, 0, none⟩), .int .i64 (s : Int)] w fun e w' => e = .returned (.int .i64 (numV (tk l i s) : Int)) ∧ RD w' p a n c l ((i + s : Nat) : Int) false ∧ Kp p w w' := by
  have HT := Lib.hid (take_ok w p a n c l i s h his)
  clear h
  go_enter Tryd.func35, Tryd.ntmps35
  go_wp2_with (go_at_call 37; refine HT.out.mono ?_; rintro e w2 ⟨⟨a', c', rfl, hba, hap⟩, hR, hK⟩; have HBA := Lib.hid hba; have hR2 := Lib.hid hR; have hK2 := Lib.hid hK; have hcap := hba.cap; have hmax := hba.max; clear hba hap hR hK)
  go_loop [5, 12] (fun v j => ∃ k : Nat, k ≤ s ∧ j = .int .i64 k ∧ v = .int .i64 (numV ((tk l i s).take k) : Int)) (fun _ j => s - (RowKit.intOf j).toNat)
  case atStart => exact ⟨0, Nat.zero_le _, rfl, rfl⟩
  case round =>
    obtain ⟨k, hk, rfl, rfl⟩ := hrel
    by_cases hlt : k < s
    · obtain ⟨b, hb⟩ : ∃ b, (tk l i s)[k]? = some b := ⟨_, List.getElem?_eq_getElem (by rw [HBA.out.len]; exact hlt)⟩
      cases a' with
      | none => have := HBA.out.none rfl; omega
      | some x =>
        have hcell := HBA.out.cell x rfl k b hb
        have hnv := numV_lt ((tk l i s).take k)
        have hp : 256 ^ ((tk l i s).take k).length ≤ 256 ^ 3 := Nat.pow_le_pow_right (by omega) (by rw [List.length_take]; omega)
        have HS : Hid (numV ((tk l i s).take (k + 1)) = numV ((tk l i s).take k) * 256 + b.toNat) := Lib.hid (by
          rw [List.take_add_one, hb]
          exact numV_snoc _ _)
        generalize numV ((tk l i s).take k) = v at hnv HS
        have hv : v < 16777216 := by omega
        have hor := or_i64 v b hv
        have hbl := b.toNat_lt
        clear hnv hp hb
        go_wp2
        go_round
        case rel => exact ⟨k + 1, hlt, by go_num, by rw [HS.out]; congr 1⟩
        case measure => simp [RowKit.intOf]; omega
    · obtain rfl : s = k := by omega
      have ht : (tk l i s).take s = tk l i s := List.take_of_length_le (by rw [HBA.out.len]; exact Nat.le_refl _)
      rw [ht]
      go_wp2
      go_ret
      exact ⟨rfl, hR2.out, hK2.out⟩
theorem number_no (w : World) (p : Nat) (a : Option Addr) (n c : Nat) (l : List UInt8) (i : Int) (s : Nat) (bad : Bool) (h : RD w p a n c l i bad) (hb : bad = true ∨ ((n : Int) - i < s ∧ 0 ≤ i ∧ i ≤ n)) (hs : s ≤ 4) :
    Calls Tryd.prog 35 #[.pointer (some ⟨p, 0, none⟩), .int .i64 (s : Int)] w fun e w' => e = .returned (.int .i64 0) ∧ RD w' p a n c l i true ∧ Kp p w w' := by
  have HT := Lib.hid (take_no w p a n c l i s bad h hb (by omega))
  clear h hb
  go_enter Tryd.func35, Tryd.ntmps35
  go_wp2_with (go_at_call 37; refine HT.out.mono ?_; rintro e w2 ⟨rfl, hR, hK⟩; have hR2 := Lib.hid hR; have hK2 := Lib.hid hK; clear hR hK)
  go_loop [5, 12] (fun v j => v = .int .i64 0 ∧ j = .int .i64 0) (fun _ _ => 0)
  case atStart => exact ⟨rfl, rfl⟩
  case round =>
    obtain ⟨rfl, rfl⟩ := hrel
    go_wp2
    go_ret
    exact ⟨rfl, hR2.out, hK2.out⟩
end Go.Proofs.YtepfeekfglpjoaaDoor

namespace Go.Tx
/-- The pieces between the bytes c; 'cur': what stands ahead. -/
def splitG (c : UInt8) : List UInt8 → List UInt8 → List (List UInt8)
  | cur, [] => [cur]
  | cur, d :: l => if d = c then cur :: splitG c [] l else splitG c (cur ++ [d]) l
def splitL (c : UInt8) (l : List UInt8) : List (List UInt8) := splitG c [] l
theorem splitG_len (c : UInt8) : ∀ (l cur : List UInt8), 1 ≤ (splitG c cur l).length ∧ (splitG c cur l).length ≤ l.length + 1
  | [], cur => by simp [splitG]
  | d :: l, cur => by
    unfold splitG
    split
    · have := splitG_len c l []
      simp; omega
    · have := splitG_len c l (cur ++ [d])
      simp; omega
theorem stake_succ (l : List UInt8) (k : Nat) (b : UInt8) (h : l[k]? = some b) : l.take (k + 1) = l.take k ++ [b] := by
  have hk := (List.getElem?_eq_some_iff.1 h).1
  rw [List.take_succ_eq_append_getElem hk]
  rw [List.getElem?_eq_getElem hk] at h
  cases h
  rfl
theorem sdrop_cons (l : List UInt8) (k : Nat) (b : UInt8) (h : l[k]? = some b) : l.drop k = b :: l.drop (k + 1) := by
  have hk := (List.getElem?_eq_some_iff.1 h).1
  rw [List.drop_eq_getElem_cons hk]
  rw [List.getElem?_eq_getElem hk] at h
  cases h
  rfl
theorem splitG_step {l : List UInt8} {k F : Nat} {b c : UInt8} (h : l[k]? = some b) (hF : F ≤ k) (hb : ¬ b = c) : splitG c ((l.take k).drop F) (l.drop k) = splitG c ((l.take (k + 1)).drop F) (l.drop (k + 1)) := by
  have hk := (List.getElem?_eq_some_iff.1 h).1
  rw [sdrop_cons l k b h, splitG, if_neg hb, stake_succ l k b h, List.drop_append_of_le_length (by rw [List.length_take]; omega)]
theorem splitG_cut {l : List UInt8} {k F : Nat} {b c : UInt8} (h : l[k]? = some b) (hb : b = c) : splitG c ((l.take k).drop F) (l.drop k) = (l.take k).drop F :: splitG c ((l.take (k + 1)).drop (k + 1)) (l.drop (k + 1)) := by
  have e2 : (l.take (k + 1)).drop (k + 1) = [] := List.drop_of_length_le (by rw [List.length_take]; omega)
  rw [sdrop_cons l k b h, splitG, if_pos hb, e2]
theorem splitG_last {l : List UInt8} {n F : Nat} {c : UInt8} (h : l.length = n) : splitG c ((l.take n).drop F) (l.drop n) = [(l.take n).drop F] := by
  have e : l.drop n = [] := List.drop_of_length_le (by omega)
  rw [e]
  rfl
/-- A hexadecimal digit; -1: none. -/
def hexV (c : UInt8) : Int :=
  if 48 ≤ (c.toNat : Int) ∧ (c.toNat : Int) ≤ 57 then (c.toNat : Int) - 48
  else if 97 ≤ (c.toNat : Int) ∧ (c.toNat : Int) ≤ 102 then (c.toNat : Int) - 87
  else if 65 ≤ (c.toNat : Int) ∧ (c.toNat : Int) ≤ 70 then (c.toNat : Int) - 55
  else -1
theorem hexV_bd (c : UInt8) : -1 ≤ hexV c ∧ hexV c ≤ 15 := by
  unfold hexV
  split
  · omega
  · split
    · omega
    · split <;> omega
end Go.Tx
namespace Go.Tx
theorem splitG_mem (c : UInt8) : ∀ (l cur x : List UInt8), x ∈ splitG c cur l → x.length ≤ cur.length + l.length
  | [], cur, x, h => by simp [splitG] at h; subst h; simp
  | d :: l, cur, x, h => by
    unfold splitG at h
    split at h
    · rcases List.mem_cons.1 h with h | h
      · subst h; simp
      · have := splitG_mem c l [] x h
        simp at this ⊢; omega
    · have := splitG_mem c l (cur ++ [d]) x h
      simp at this ⊢; omega
end Go.Tx

namespace Go.Tx
def dig (c : UInt8) : Bool := decide (48 ≤ (c.toNat : Int)) && decide ((c.toNat : Int) ≤ 57)
def valF (n : Nat) (l : List UInt8) : Nat := l.foldl (fun n c => 10 * n + (c.toNat - 48)) n
/-- The number that digits write. -/
def val (l : List UInt8) : Nat := valF 0 l
theorem val_nil : val [] = 0 := rfl
theorem val_snoc (l : List UInt8) (c : UInt8) : val (l ++ [c]) = 10 * val l + (c.toNat - 48) := by simp [val, valF]
theorem valF_lt : ∀ (l : List UInt8) (n : Nat), (∀ c ∈ l, dig c = true) → valF n l < (n + 1) * 10 ^ l.length := by
  intro l
  induction l with
  | nil => intro n _; simp [valF]
  | cons c l ih =>
    intro n h
    have h1 := ih (10 * n + (c.toNat - 48)) fun d hd => h d (by simp [hd])
    have h2 := h c (by simp)
    simp only [dig, Bool.and_eq_true, decide_eq_true_eq] at h2
    have h3 : valF n (c :: l) = valF (10 * n + (c.toNat - 48)) l := rfl
    rw [h3, List.length_cons, Nat.pow_succ]
    refine Nat.lt_of_lt_of_le h1 ?_
    rw [Nat.mul_comm (10 ^ l.length) 10, ← Nat.mul_assoc]
    exact Nat.mul_le_mul_right _ (by omega)
theorem val_lt (l : List UInt8) (h : ∀ c ∈ l, dig c = true) : val l < 10 ^ l.length := by
  have := valF_lt l 0 h
  simpa [val] using this
theorem val_lt9 (l : List UInt8) (h : ∀ c ∈ l, dig c = true) (hl : l.length ≤ 9) : val l < 1000000000 := by
  have h1 := val_lt l h
  have h2 : 10 ^ l.length ≤ 10 ^ 9 := Nat.pow_le_pow_right (by omega) hl
  omega
theorem take_snoc (s : ByteArray) (k : Nat) (h : k < s.size) : s.data.toList.take (k + 1) = s.data.toList.take k ++ [s[k]] := by
  rw [List.take_succ_eq_append_getElem (by simpa using h)]; rfl
theorem val_step (s : ByteArray) (k : Nat) (h : k < s.size) (hd : dig s[k] = true) : ((val (s.data.toList.take (k + 1)) : Nat) : Int) = (val (s.data.toList.take k) : Int) * 10 + ((s[k].toNat : Int) - 48) := by
  rw [take_snoc s k h, val_snoc]
  simp only [dig, Bool.and_eq_true, decide_eq_true_eq] at hd
  omega
theorem all_step (s : ByteArray) (k : Nat) (h : k < s.size) : (s.data.toList.take (k + 1)).all dig = ((s.data.toList.take k).all dig && dig s[k]) := by
  rw [take_snoc s k h, List.all_append]; simp
theorem all_no (s : ByteArray) (k : Nat) (h : k < s.size) (hd : dig s[k] = false) : s.data.toList.all dig = false := by
  cases hh : s.data.toList.all dig with
  | false => rfl
  | true =>
    rw [List.all_eq_true] at hh
    have := hh s[k] (Array.mem_toList_iff.2 (Array.getElem_mem (xs := s.data) h))
    rw [hd] at this; cases this
theorem take_all (s : ByteArray) (k : Nat) (h : s.size ≤ k) : s.data.toList.take k = s.data.toList := List.take_of_length_le (by simpa using h)
theorem val_bd (s : ByteArray) (k : Nat) (h : (s.data.toList.take k).all dig = true) (h9 : s.size ≤ 9) : val (s.data.toList.take k) < 1000000000 := by
  refine val_lt9 _ (by rw [List.all_eq_true] at h; exact h) ?_
  rw [List.length_take]
  have : s.data.toList.length = s.size := rfl
  omega
theorem dig_of (c : UInt8) (h1 : 48 ≤ (c.toNat : Int)) (h2 : (c.toNat : Int) ≤ 57) : dig c = true := by simp [dig, h1, h2]
theorem dig_lo (c : UInt8) (h1 : (c.toNat : Int) < 48) : dig c = false := by
  have : ¬ (48 ≤ (c.toNat : Int)) := by omega
  simp [dig, this]
theorem dig_hi (c : UInt8) (h1 : 57 < (c.toNat : Int)) : dig c = false := by
  have : ¬ ((c.toNat : Int) ≤ 57) := by omega
  simp [dig, this]
/-- What Num answers. -/
def numBad (l : List UInt8) : Bool := l.isEmpty || decide (9 < l.length) || (l.head? == some 48 && decide (1 < l.length)) || !l.all dig
def numRes (l : List UInt8) (most : Int) : Int × Bool := if numBad l = true then (0, false) else if most < (val l : Int) then (0, false) else (val l, true)
theorem numRes_nil (l : List UInt8) (m : Int) (h : l = []) : numRes l m = (0, false) := by subst h; rfl
theorem numRes_len (l : List UInt8) (m : Int) (h : 9 < l.length) : numRes l m = (0, false) := by simp [numRes, numBad, h]
theorem numRes_zero (l : List UInt8) (m : Int) (h : 1 < l.length) (h2 : l.head? = some 48) : numRes l m = (0, false) := by simp [numRes, numBad, h, h2]
theorem numRes_no (l : List UInt8) (m : Int) (h : l.all dig = false) : numRes l m = (0, false) := by simp [numRes, numBad, h]
theorem numRes_ok (l : List UInt8) (m : Int) (h0 : 1 ≤ l.length) (h1 : l.length ≤ 9) (h2 : ¬ (l.head? = some 48 ∧ 1 < l.length)) (h3 : l.all dig = true) : numRes l m = if m < (val l : Int) then (0, false) else ((val l : Int), true) := by
  have : numBad l = false := by
    cases l with
    | nil => simp at h0
    | cons c l => simp [numBad, h3]; simp at h1 h2; exact ⟨h1, h2⟩
  simp [numRes, this]
/-! ### Folding -/
def low (c : UInt8) : UInt8 := if 65 ≤ (c.toNat : Int) ∧ (c.toNat : Int) ≤ 90 then UInt8.ofNat (c.toNat + 32) else c
def lowTake (k : Nat) (l : List UInt8) : List UInt8 := (l.take k).map low ++ l.drop k
theorem lowTake_zero (l : List UInt8) : lowTake 0 l = l := by simp [lowTake]
theorem lowTake_len (k : Nat) (l : List UInt8) : (lowTake k l).length = l.length := by simp [lowTake]; omega
theorem lowTake_all (k : Nat) (l : List UInt8) (h : l.length ≤ k) : lowTake k l = l.map low := by
  simp [lowTake, List.take_of_length_le h, List.drop_of_length_le h]
theorem lowTake_at (k : Nat) (l : List UInt8) (h : k < l.length) : (lowTake k l)[k]? = some l[k] := by
  unfold lowTake
  rw [List.getElem?_append_right (by simp; omega)]
  have : k - (List.map low (List.take k l)).length = 0 := by simp; omega
  rw [this, List.getElem?_drop]
  simp
theorem lowTake_step (k : Nat) (l : List UInt8) (h : k < l.length) : lowTake (k + 1) l = (lowTake k l).set k (low l[k]) := by
  apply List.ext_getElem?
  intro j
  rw [List.getElem?_set]
  have hlen : (lowTake k l).length = l.length := lowTake_len k l
  unfold lowTake
  rw [List.getElem?_append, List.getElem?_append]
  simp only [List.length_map, List.length_take, List.getElem?_map, List.getElem?_take, List.getElem?_drop, List.length_append, List.length_drop]
  by_cases hj : k = j
  · subst hj
    rw [if_pos (by omega), if_pos (by omega), if_pos rfl, if_pos (by omega)]
    simp [h]
  · rw [if_neg hj]
    by_cases hlt : j < k
    · rw [if_pos (by omega), if_pos (by omega), if_pos (by omega), if_pos (by omega)]
    · rw [if_neg (by omega), if_neg (by omega)]
      congr 1
      omega
theorem lowTake_skip (k : Nat) (l : List UInt8) (h : k < l.length) (hl : low l[k] = l[k]) : lowTake (k + 1) l = lowTake k l := by
  rw [lowTake_step k l h, hl]
  apply List.ext_getElem?
  intro j
  rw [List.getElem?_set]
  split
  · rename_i e
    subst e
    rw [lowTake_at k l h, lowTake_len, if_pos h]
  · rfl
theorem low_up (c : UInt8) (h1 : 65 ≤ (c.toNat : Int)) (h2 : (c.toNat : Int) ≤ 90) : ((low c).toNat : Int) = (c.toNat : Int) + 32 := by
  unfold low
  rw [if_pos ⟨h1, h2⟩]
  have : (c.toNat + 32) % 256 = c.toNat + 32 := by omega
  simp [this]
theorem low_lo (c : UInt8) (h1 : (c.toNat : Int) < 65) : low c = c := by unfold low; rw [if_neg (by omega)]
theorem low_hi (c : UInt8) (h1 : 90 < (c.toNat : Int)) : low c = c := by unfold low; rw [if_neg (by omega)]
end Go.Tx

namespace Go.Tx
open Go.Lib
/-! ### The library's pieces are the document's -/
def pre (x : List UInt8) : List (List UInt8) → List (List UInt8)
  | [] => []
  | h :: t => (x ++ h) :: t
theorem splitG_pre (c : UInt8) (x : List UInt8) : ∀ (l y : List UInt8), splitG c (x ++ y) l = pre x (splitG c y l)
  | [], y => by simp [splitG, pre]
  | d :: l, y => by
    unfold splitG
    split
    · rfl
    · rw [List.append_assoc, splitG_pre c x l (y ++ [d])]
theorem splitK_pre {b c : UInt8} (h : b ≠ c) (k : Nat) (l : List UInt8) : splitK [c] 0 k (b :: l) = pre [b] (splitK [c] 0 k l) := by
  cases k with
  | zero => rfl
  | succ k =>
    have hp : ([c] : List UInt8).isPrefixOf (b :: l) = false := by simp [List.isPrefixOf, Ne.symm h]
    have hix : index (b :: l) [c] = if index l [c] == -1 then -1 else index l [c] + 1 := by rw [index, hp]; simp
    unfold splitK
    by_cases hm : index l [c] = -1
    · rw [hix, hm]; simp [pre]
    · have hge := index_ge l [c]
      obtain ⟨j, hj⟩ : ∃ j : Nat, index l [c] = j := ⟨(index l [c]).toNat, by omega⟩
      have h1 : ((j : Int) == -1) = false := by rw [beq_eq_false_iff_ne]; omega
      have h2 : ((j : Int) + 1 == -1) = false := by rw [beq_eq_false_iff_ne]; omega
      have h3 : ((j : Int) + 1).toNat = j + 1 := by omega
      rw [hix, hj]
      simp [h1, h2, h3, pre]
theorem splitK_one (c : UInt8) : ∀ l : List UInt8, splitK [c] 0 (count l [c]) l = splitL c l
  | [] => by
    have : count ([] : List UInt8) [c] = 0 := by rw [count_one]; rfl
    rw [this]; rfl
  | b :: l => by
    by_cases h : b = c
    · subst h
      have hix : index (b :: l) [b] = 0 := by rw [index]; simp [List.isPrefixOf]
      rw [count_cons_eq, Nat.add_comm, splitK, hix, splitL, splitG, if_pos rfl]
      simp only [List.length_singleton]
      have := splitK_one b l
      simpa [splitL] using this
    · rw [count_cons_ne b c l h, splitK_pre h, splitK_one c l, splitL, splitL, splitG, if_neg h]
      exact (splitG_pre c [b] l []).symm
theorem split_pieces (s : ByteArray) (c : UInt8) : (splitB ⟨#[c]⟩ 0 (countB s ⟨#[c]⟩) s).map Value.string = (splitL c s.data.toList).map fun l => Value.string ⟨l.toArray⟩ := by
  have h := splitB_data ⟨#[c]⟩ 0 (countB s ⟨#[c]⟩) s
  have h2 : countB s ⟨#[c]⟩ = count s.data.toList [c] := rfl
  rw [h2] at h ⊢
  have h3 := splitK_one c s.data.toList
  have h4 : (ByteArray.data ⟨#[c]⟩).toList = [c] := rfl
  rw [h4, h3] at h
  rw [← h, List.map_map]
  rfl
theorem split_count (s : ByteArray) (c : UInt8) : countB s ⟨#[c]⟩ + 1 = (splitL c s.data.toList).length := by
  have h := splitB_all ⟨#[c]⟩ (Nat.le_refl 1) 0 _ s rfl
  have h2 := congrArg List.length (split_pieces s c)
  simp only [List.length_map] at h2
  omega
/-! ### A rune that is foreign is a byte that is -/
theorem idxFrom_any (p : Nat → Bool) (hp : ∀ x, 128 ≤ x → p x = true) (s : ByteArray) : ∀ (f pos : Nat), s.size - pos ≤ f →
    decide (0 ≤ idxFuncFrom p true s f pos) = (s.data.toList.drop pos).any fun b => p b.toNat
  | 0, pos, h => by
    have e : s.data.toList.drop pos = [] := List.drop_of_length_le (by rw [← size_eq]; omega)
    simp [idxFuncFrom, e]
  | f + 1, pos, h => by
    unfold idxFuncFrom
    by_cases hlt : pos < s.size
    · rw [if_pos hlt]
      have hd : s.data.toList.drop pos = s[pos] :: s.data.toList.drop (pos + 1) := List.drop_eq_getElem_cons (by rw [← size_eq]; exact hlt)
      rw [hd, List.any_cons]
      by_cases ha : s[pos].toNat < 128
      · rw [decode_ascii s pos hlt ha]
        simp only
        by_cases hb : p s[pos].toNat = true
        · rw [if_pos hb, hb]; simp
        · have hb' : p s[pos].toNat = false := by simpa using hb
          rw [if_neg hb, hb', Bool.false_or]
          exact idxFrom_any p hp s f (pos + 1) (by omega)
      · obtain ⟨h1, h2⟩ := decode_high s pos hlt (by omega)
        rw [if_pos (hp _ h1), hp _ (by omega)]
        simp
    · have e : s.data.toList.drop pos = [] := List.drop_of_length_le (by rw [← size_eq]; omega)
      rw [if_neg hlt, e]; simp
theorem idx_anyR (p : Nat → Bool) (hp : ∀ x, 128 ≤ x → p x = true) (s : ByteArray) : decide (0 ≤ idxFunc p true s) = s.data.toList.any fun b => p b.toNat := by
  exact idxFrom_any p hp s s.size 0 (by omega)
/-! ### Names -/
/-- What labels are made of, by number. -/
def sign (x : Nat) : Bool := (decide (97 ≤ x) && decide (x ≤ 122)) || (decide (65 ≤ x) && decide (x ≤ 90)) || (decide (48 ≤ x) && decide (x ≤ 57)) || decide (x = 45) || decide (x = 95)
theorem sign_high (x : Nat) (h : 128 ≤ x) : sign x = false := by
  simp only [sign, Bool.or_eq_false_iff, Bool.and_eq_false_iff, decide_eq_false_iff_not]
  omega
def labelB (l : List UInt8) : Bool := decide (l ≠ []) && decide (l.length ≤ 63) && l.all fun b => sign b.toNat
def nameB (l : List UInt8) : Bool := decide (l.length ≤ 253) && (splitL 46 l).all labelB
/-- Without a point at its end. -/
def bare (l : List UInt8) : List UInt8 := trimSuffix l [46]
def isRoot (l : List UInt8) : Bool := hasSuffix l [46]
def cleanV (l : List UInt8) : Value := if nameB (bare l) = true then .tuple #[.string ⟨((bare l).map low).toArray⟩, .bool (isRoot l), .bool true] else .tuple #[.string ⟨#[]⟩, .bool false, .bool false]
theorem bare_len (l : List UInt8) : (bare l).length ≤ l.length := by
  unfold bare trimSuffix
  split
  · simp
  · exact Nat.le_refl _
theorem noLabel (l : List UInt8) : (decide (l = []) || (decide (63 < l.length) || l.any fun b => !sign b.toNat)) = !labelB l := by
  have h1 : (decide (63 < l.length)) = !decide (l.length ≤ 63) := by by_cases h : l.length ≤ 63 <;> simp [h] <;> omega
  have h2 : (l.any fun b => !sign b.toNat) = !(l.all fun b => sign b.toNat) := by simp [List.any_eq_not_all_not]
  rw [h1, h2]
  unfold labelB
  by_cases h : l = [] <;> simp [h]
end Go.Tx

namespace Go.Rb
open Go.RowKit
/-- Block b is a row of bytes of some capacity, of which the first are l. -/
def RowB (e : TypeId) (w : World) (b cap : Nat) (l : List UInt8) : Prop :=
  ∃ arr lo hi, w.heap[b]? = some (.cells arr e (lo, hi)) ∧ (cap ≤ lo ∨ hi = 0) ∧ arr.size = cap ∧ l.length ≤ cap ∧ ∀ (j : Nat) (c : UInt8), l[j]? = some c → arr[j]? = some (Value.int .u8 (c.toNat : Int))
theorem RowB.cell {e : TypeId} {w : World} {b cap : Nat} {l : List UInt8} (h : RowB e w b cap l) {j : Nat} {c : UInt8} (hj : l[j]? = some c) : w.cell? ⟨b, j, none⟩ = some (.int .u8 (c.toNat : Int)) := by
  obtain ⟨arr, lo, hi, h1, h2, h3, h4, h5⟩ := h
  unfold World.cell?
  rw [h1]
  simp only
  exact h5 j c hj
theorem RowB.frozen {e : TypeId} {w : World} {b cap : Nat} {l : List UInt8} (h : RowB e w b cap l) {j : Nat} (hj : j < cap) : w.frozen? ⟨b, j, none⟩ = false := by
  obtain ⟨arr, lo, hi, h1, h2, h3, h4, h5⟩ := h
  unfold World.frozen?
  rw [h1]
  simp only [Bool.and_eq_false_iff, decide_eq_false_iff_not]
  omega
theorem RowB.drew {e : TypeId} {w : World} {b cap : Nat} {l : List UInt8} (h : RowB e w b cap l) : RowB e w.drew b cap l := by
  obtain ⟨arr, lo, hi, h1, h2⟩ := h
  exact ⟨arr, lo, hi, h1, h2⟩
theorem RowB.set {e : TypeId} {w : World} {b cap : Nat} {l : List UInt8} (h : RowB e w b cap l) {j : Nat} (hj : j < l.length) (c : UInt8) : RowB e (w.setCell ⟨b, j, none⟩ (.int .u8 (c.toNat : Int))) b cap (l.set j c) := by
  obtain ⟨arr, lo, hi, h1, h2, h3, h4, h5⟩ := h
  have hb : b < w.heap.size := (Array.getElem?_eq_some_iff.1 h1).1
  refine ⟨arr.setIfInBounds j (.int .u8 (c.toNat : Int)), lo, hi, ?_, h2, by simpa using h3, by simpa using h4, fun i d hi => ?_⟩
  · show (w.heap.modify b _)[b]? = _
    rw [Array.getElem?_modify]
    simp [h1]
  · rw [List.getElem?_set] at hi
    rw [Array.getElem?_setIfInBounds]
    split at hi
    · rename_i e1
      subst e1
      rw [if_pos rfl, if_pos (by omega)]
      cases hi
      rfl
    · rename_i e1
      rw [if_neg e1]
      exact h5 i d hi
theorem RowB.alloc {e : TypeId} {w : World} {b cap : Nat} {l : List UInt8} (h : RowB e w b cap l) (o : Obj) : RowB e (w.alloc o) b cap l := by
  obtain ⟨arr, lo, hi, h1, h2⟩ := h
  have hb : b < w.heap.size := (Array.getElem?_eq_some_iff.1 h1).1
  exact ⟨arr, lo, hi, by show (w.heap.push o)[b]? = _; rw [Array.getElem?_push, if_neg (by omega)]; exact h1, h2⟩
theorem RowB.below {e : TypeId} {w w' : World} {b cap B : Nat} {l : List UInt8} (h : RowB e w b cap l) (hb : Below B w w') (hlt : b < B) : RowB e w' b cap l := by
  obtain ⟨arr, lo, hi, h1, h2⟩ := h
  exact ⟨arr, lo, hi, by rw [hb.block b hlt]; exact h1, h2⟩
theorem RowB.str {e : TypeId} {w : World} {b cap : Nat} {l : List UInt8} (h : RowB e w b cap l) {P : Program} {src dst : TypeId} (c : Nat) (hs : P.underlying src = some (.slice e)) (he : P.underlying e = some (.int .u8)) (hd : P.underlying dst = some .string) :
    (convert src dst (.slice (some ⟨b, 0, none⟩) l.length c)).run P w = .ok (.string ⟨l.toArray⟩) w :=
  run_convert_bytes_back w src dst e _ c l hs he hd fun j hj => by
    have ha : (⟨b, 0, none⟩ : Addr).add j = ⟨b, j, none⟩ := by unfold Addr.add; split <;> simp_all
    rw [ha]
    exact h.cell (List.getElem?_eq_getElem hj)
theorem RowB.made {P : Program} {src dst e : TypeId} (s : ByteArray) (w : World) (hs : P.underlying src = some .string) (hd : P.underlying dst = some (.slice e)) (he : P.underlying e = some (.int .u8)) :
    ∃ (cap : Nat) (o : Obj), (convert src dst (.string s)).run P w = .ok (.slice (some ⟨w.heap.size, 0, none⟩) s.size cap) (w.drew.alloc o) ∧ s.size ≤ cap ∧ RowB e (w.alloc o) w.heap.size cap s.data.toList := by
  have hge := grownCap_ge w s.size 0 e
  have hsz : s.data.size = s.size := rfl
  have hC : (bytesRow s (grownCap w s.size 0 e)).size = grownCap w s.size 0 e := by simp [bytesRow, hsz]; omega
  refine ⟨grownCap w s.size 0 e, _, run_bytes_of_string w src dst e s hs hd he, hge, _, _, _, heap_alloc_new w _, .inl (by rw [hC]; exact Nat.le_refl _), hC, by simpa [hsz] using hge, fun j c hj => ?_⟩
  have hj' : j < s.data.size := by
    have := (List.getElem?_eq_some_iff.1 hj).1
    simpa using this
  rw [bytesRow_at s _ j hj']
  rw [Array.getElem?_toList, Array.getElem?_eq_getElem hj'] at hj
  cases hj
  rfl
end Go.Rb

namespace Go.Proofs.YtepfeekfglpjoaaDoor
open Go.RowKit Go.Lib Go.Tx
theorem foreign_any (x : Nat) (hx : x ≤ 1114111) (w : World) : Calls Tryd.prog 66 #[.int .i32 (x : Int)] w fun e w' => e = .returned (.bool (!sign x)) ∧ w' = w := by
  have hc : x < 45 ∨ x = 45 ∨ (46 ≤ x ∧ x ≤ 47) ∨ (48 ≤ x ∧ x ≤ 57) ∨ (58 ≤ x ∧ x ≤ 64) ∨ (65 ≤ x ∧ x ≤ 90) ∨ (91 ≤ x ∧ x ≤ 94) ∨ x = 95 ∨ x = 96 ∨ (97 ≤ x ∧ x ≤ 122) ∨ 122 < x := by omega
  have key : ∀ b, sign x = b → Calls Tryd.prog 66 #[.int .i32 (x : Int)] w (fun e w' => e = .returned (.bool (!b)) ∧ w' = w) → Calls Tryd.prog 66 #[.int .i32 (x : Int)] w fun e w' => e = .returned (.bool (!sign x)) ∧ w' = w := fun b h k => by rw [h]; exact k
  have hs : sign x = decide ((97 ≤ x ∧ x ≤ 122) ∨ (65 ≤ x ∧ x ≤ 90) ∨ (48 ≤ x ∧ x ≤ 57) ∨ x = 45 ∨ x = 95) := by
    simp only [sign]
    by_cases h1 : 97 ≤ x <;> by_cases h2 : x ≤ 122 <;> by_cases h3 : 65 ≤ x <;> by_cases h4 : x ≤ 90 <;> by_cases h5 : 48 ≤ x <;> by_cases h6 : x ≤ 57 <;> by_cases h7 : x = 45 <;> by_cases h8 : x = 95 <;> simp [*]
  rcases hc with h | h | ⟨h, h'⟩ | ⟨h, h'⟩ | ⟨h, h'⟩ | ⟨h, h'⟩ | ⟨h, h'⟩ | h | h | ⟨h, h'⟩ | h
  · refine key false (by rw [hs]; exact decide_eq_false (by omega)) ?_
    clear hs key hx
    have : (x : Int) < 45 := by omega
    go_enter Tryd.func66, Tryd.ntmps66
    go_wp2
    all_goals (go_ret; exact ⟨rfl, rfl⟩)
  · subst h
    refine key true (by decide) ?_
    clear hs key hx
    go_enter Tryd.func66, Tryd.ntmps66
    go_wp2
    all_goals (go_ret; exact ⟨rfl, rfl⟩)
  · refine key false (by rw [hs]; exact decide_eq_false (by omega)) ?_
    clear hs key hx
    have a1 : (46:Int) ≤ (x : Int) := by omega
    have a2 : (x : Int) ≤ 47 := by omega
    go_enter Tryd.func66, Tryd.ntmps66
    go_wp2
    all_goals (go_ret; exact ⟨rfl, rfl⟩)
  · refine key true (by rw [hs]; exact decide_eq_true (by omega)) ?_
    clear hs key hx
    have a1 : (48:Int) ≤ (x : Int) := by omega
    have a2 : (x : Int) ≤ 57 := by omega
    go_enter Tryd.func66, Tryd.ntmps66
    go_wp2
    all_goals (go_ret; exact ⟨rfl, rfl⟩)
  · refine key false (by rw [hs]; exact decide_eq_false (by omega)) ?_
    clear hs key hx
    have a1 : (58:Int) ≤ (x : Int) := by omega
    have a2 : (x : Int) ≤ 64 := by omega
    go_enter Tryd.func66, Tryd.ntmps66
    go_wp2
    all_goals (go_ret; exact ⟨rfl, rfl⟩)
  · refine key true (by rw [hs]; exact decide_eq_true (by omega)) ?_
    clear hs key hx
    have a1 : (65:Int) ≤ (x : Int) := by omega
    have a2 : (x : Int) ≤ 90 := by omega
    go_enter Tryd.func66, Tryd.ntmps66
    go_wp2
    all_goals (go_ret; exact ⟨rfl, rfl⟩)
  · refine key false (by rw [hs]; exact decide_eq_false (by omega)) ?_
    clear hs key hx
    have a1 : (91:Int) ≤ (x : Int) := by omega
    have a2 : (x : Int) ≤ 94 := by omega
    go_enter Tryd.func66, Tryd.ntmps66
    go_wp2
    all_goals (go_ret; exact ⟨rfl, rfl⟩)
  · subst h
    refine key true (by decide) ?_
    clear hs key hx
    go_enter Tryd.func66, Tryd.ntmps66
    go_wp2
    all_goals (go_ret; exact ⟨rfl, rfl⟩)
  · subst h
    refine key false (by decide) ?_
    clear hs key hx
    go_enter Tryd.func66, Tryd.ntmps66
    go_wp2
    all_goals (go_ret; exact ⟨rfl, rfl⟩)
  · refine key true (by rw [hs]; exact decide_eq_true (by omega)) ?_
    clear hs key hx
    have a1 : (97:Int) ≤ (x : Int) := by omega
    have a2 : (x : Int) ≤ 122 := by omega
    go_enter Tryd.func66, Tryd.ntmps66
    go_wp2
    all_goals (go_ret; exact ⟨rfl, rfl⟩)
  · refine key false (by rw [hs]; exact decide_eq_false (by omega)) ?_
    clear hs key hx
    have a1 : (122:Int) < (x : Int) := by omega
    go_enter Tryd.func66, Tryd.ntmps66
    go_wp2
    all_goals (go_ret; exact ⟨rfl, rfl⟩)
theorem foreignAt (w : World) : PredAtRunes Tryd.prog 66 #[] (fun x => !sign x) w := fun W x hx _ =>
  (foreign_any x hx W).mono fun _ _ ⟨h1, h2⟩ => ⟨h1, 0, h2⟩
set_option maxRecDepth 100000 in
theorem hasForeign (s : ByteArray) (w : World) : Calls Tryd.prog 65 #[.string s, .func (.func 66) #[] #[]] w fun e w' => e = .returned (.bool (s.data.toList.any fun b => !sign b.toNat)) ∧ Below w.heap.size w w' := by
  refine (Tryd.strings_ContainsFunc_runes 66 #[] (fun args w => by rfl) (fun x => !sign x) s w (foreignAt w)).mono fun e w' ⟨h1, h2⟩ => ⟨?_, h2⟩
  rw [h1, idx_anyR (fun x => !sign x) (fun x hx => by simp [sign_high x hx])]
theorem noLabel_any (s : ByteArray) (w : World) : Calls Tryd.prog 60 #[.string s] w fun e w' => e = .returned (.bool (!labelB s.data.toList)) ∧ Below w.heap.size w w' := by
  have HF := Lib.hid (fun w => hasForeign s w)
  have HN := Lib.hid (noLabel s.data.toList)
  have hl : s.data.toList.length = s.size := rfl
  by_cases h0 : s = ⟨#[]⟩
  · subst h0
    go_enter Tryd.func60, Tryd.ntmps60
    go_wp2
    all_goals (go_ret; exact ⟨rfl, Below.refl _ _⟩)
  · have h0' : s.data.toList ≠ [] := fun h => h0 (by cases s; simp at h; simp [h])
    by_cases h1 : 63 < s.size
    · have h1' : (63 : Int) < (s.size : Int) := by omega
      have hb : labelB s.data.toList = false := by unfold labelB; simp [hl]; omega
      rw [hb]
      clear HN HF
      go_enter Tryd.func60, Tryd.ntmps60
      go_wp2
      all_goals (go_ret; exact ⟨rfl, Below.refl _ _⟩)
    · have h1' : (s.size : Int) ≤ 63 := by omega
      have hb : (!labelB s.data.toList) = s.data.toList.any fun b => !sign b.toNat := by
        rw [← HN.out]
        simp [h0', hl, h1]
      rw [hb]
      clear HN hb
      have e2 : s.toList.isEmpty = false := by
        rw [Go.Lib.toList_data]
        cases hh : s.data.toList with
        | nil => exact absurd hh h0'
        | cons x y => rfl
      have e3 : decide (63 < (s.size : Int)) = false := decide_eq_false (by omega)
      clear h0 h0' h1 hl
      have HF' : ∀ w, Calls Tryd.prog 65 #[.string s, .func (.func 66) #[] #[]] w fun e w' => e = .returned (.bool (s.data.toList.any fun b => !sign b.toNat)) ∧ Below w.heap.size w w' := HF.out
      clear HF
      generalize (s.data.toList.any fun b => !sign b.toNat) = X at HF' ⊢
      have HF := Lib.hid HF'
      clear HF'
      go_enter Tryd.func60, Tryd.ntmps60
      go_wp2_with (go_at_call 65; refine (HF.out _).mono ?_; rintro e w2 ⟨rfl, hb⟩)
      all_goals (go_ret; exact ⟨by simp only []; rfl, hb⟩)
end Go.Proofs.YtepfeekfglpjoaaDoor

namespace Go.Proofs.YtepfeekfglpjoaaDoor
open Go.RowKit Go.Lib Go.Tx Go.Rb
theorem lowTake_at' (s : ByteArray) (k : Nat) (h : k < s.size) : (lowTake k s.data.toList)[k]? = some s[k] := lowTake_at k s.data.toList h
theorem ret_str {a b : List UInt8} (h : a = b) : Ending.returned (.string ⟨a.toArray⟩) = .returned (.string ⟨b.toArray⟩) := by rw [h]
theorem row_up (s : ByteArray) {wr : World} {b cap k : Nat} {x : Int} (h : k < s.size) (h1 : 65 ≤ (s[k].toNat : Int)) (h2 : (s[k].toNat : Int) ≤ 90) (hx : x = (s[k].toNat : Int) + 32) (hr : RowB 5 wr b cap (lowTake k s.data.toList)) :
    RowB 5 (wr.setCell ⟨b, k, none⟩ (.int .u8 x)) b cap (lowTake (k + 1) s.data.toList) := by
  have e1 : lowTake (k + 1) s.data.toList = (lowTake k s.data.toList).set k (low s[k]) := lowTake_step k s.data.toList h
  rw [e1, hx, ← low_up _ h1 h2]
  exact hr.set (by rw [lowTake_len]; exact h) _
theorem row_skip (s : ByteArray) {wr : World} {b cap k : Nat} (h : k < s.size) (h1 : low s[k] = s[k]) (hr : RowB 5 wr b cap (lowTake k s.data.toList)) : RowB 5 wr b cap (lowTake (k + 1) s.data.toList) := by
  have e1 : lowTake (k + 1) s.data.toList = lowTake k s.data.toList := lowTake_skip k s.data.toList h h1
  rw [e1]; exact hr
theorem row_str (s : ByteArray) {wr : World} {b cap k : Nat} (h : s.size ≤ k) (hr : RowB 5 wr b cap (lowTake k s.data.toList)) (c : Nat) :
    (convert 29 9 (.slice (some ⟨b, 0, none⟩) s.size c)).run Tryd.prog wr = .ok (.string ⟨(s.data.toList.map low).toArray⟩) wr := by
  have := hr.str (P := Tryd.prog) (src := 29) (dst := 9) c Tryd.underlying29 Tryd.underlying5 Tryd.underlying9
  rw [lowTake_all k _ h] at this
  have hl : (s.data.toList.map low).length = s.size := by simp
  rw [hl] at this
  exact this
set_option maxHeartbeats 1000000 in
set_option maxRecDepth 100000 in
theorem fold_any (s : ByteArray) (w : World) (hs : s.size ≤ maxLen) :
    Calls Tryd.prog 55 #[.string s] w fun e w' => e = .returned (.string ⟨(s.data.toList.map low).toArray⟩) ∧ Below w.heap.size w w' := by
  unfold maxLen at hs
  obtain ⟨cap, o, hconv, hcap, hrow⟩ := RowB.made (P := Tryd.prog) s w Tryd.underlying9 Tryd.underlying29 Tryd.underlying5
  have HR := Lib.hid hrow
  clear hrow
  go_enter Tryd.func55, Tryd.ntmps55
  go_wp2
  go_loopw [10] (fun i wr => ∃ k : Nat, k ≤ s.size ∧ i = .int .i64 k ∧ RowB 5 wr w.heap.size cap (lowTake k s.data.toList) ∧ Below w.heap.size w wr) (fun i _ => s.size - (intOf i).toNat)
  case atStart => exact ⟨0, Nat.zero_le _, rfl, by rw [lowTake_zero]; exact HR.out.drew, ((Below.refl _ _).alloc (Nat.le_refl _) _).drew⟩
  case round =>
    obtain ⟨k, hk, rfl, hrow, hbel⟩ := hrel
    by_cases hlt : k < s.size
    · have hcell := hrow.cell (lowTake_at' s k hlt)
      have hfz := hrow.frozen (j := k) (by omega)
      have HR1 := Lib.hid hrow
      clear hrow
      go_wp2
      all_goals
        go_roundw
        case rel => exact ⟨k + 1, by omega, by go_num, by first | exact row_up s hlt (by assumption) (by assumption) (by omega) HR1.out | exact row_skip s hlt (low_hi _ (by omega)) HR1.out | exact row_skip s hlt (low_lo _ (by omega)) HR1.out, by first | exact hbel | exact hbel.setCell (Nat.le_refl _) _⟩
        case measure => simp [intOf]; omega
    · have hback := row_str s (by omega) hrow cap
      clear hrow
      go_wp2
      go_ret
      exact ⟨rfl, hbel⟩
set_option maxHeartbeats 1000000 in
set_option maxRecDepth 100000 in
theorem rfold_any (s : ByteArray) (w : World) (hs : s.size ≤ maxLen) :
    Calls Tryd.prog 42 #[.string s] w fun e w' => e = .returned (.string ⟨(s.data.toList.map low).toArray⟩) ∧ Below w.heap.size w w' := by
  unfold maxLen at hs
  obtain ⟨cap, o, hconv, hcap, hrow⟩ := RowB.made (P := Tryd.prog) s w Tryd.underlying9 Tryd.underlying29 Tryd.underlying5
  have HR := Lib.hid hrow
  clear hrow
  go_enter Tryd.func42, Tryd.ntmps42
  go_wp2
  go_loopw [4] (fun i wr => ∃ k : Nat, k ≤ s.size ∧ i = .int .i64 k ∧ RowB 5 wr w.heap.size cap (lowTake k s.data.toList) ∧ Below w.heap.size w wr) (fun i _ => s.size - (intOf i).toNat)
  case atStart => exact ⟨0, Nat.zero_le _, rfl, by rw [lowTake_zero]; exact HR.out.drew, ((Below.refl _ _).alloc (Nat.le_refl _) _).drew⟩
  case round =>
    obtain ⟨k, hk, rfl, hrow, hbel⟩ := hrel
    by_cases hlt : k < s.size
    · have hcell := hrow.cell (lowTake_at' s k hlt)
      have hfz := hrow.frozen (j := k) (by omega)
      have HR1 := Lib.hid hrow
      clear hrow
      go_wp2
      all_goals
        go_roundw
        case rel => exact ⟨k + 1, by omega, by go_num, by first | exact row_up s hlt (by assumption) (by assumption) (by omega) HR1.out | exact row_skip s hlt (low_hi _ (by omega)) HR1.out | exact row_skip s hlt (low_lo _ (by omega)) HR1.out, by first | exact hbel | exact hbel.setCell (Nat.le_refl _) _⟩
        case measure => simp [intOf]; omega
    · have hback := row_str s (by omega) hrow cap
      clear hrow
      go_wp2
      go_ret
      exact ⟨rfl, hbel⟩
end Go.Proofs.YtepfeekfglpjoaaDoor

namespace Go.Tx
open Go.RowKit
def strV (l : List UInt8) : Value := .string ⟨l.toArray⟩
/-- A slice of texts that reads as ws, of whatever capacity. -/
def StrC (B : Nat) (w : World) (v : Value) (ws : List (List UInt8)) : Prop := w.ownsRow B 9 1 v ws.length (ws.map strV)
theorem own_below {B : Nat} {e : TypeId} {size n : Nat} {v : Value} {xs : List Value} {w w' : World} (h : w.ownsRow B e size v n xs) (hb : Below w.heap.size w w') : w'.ownsRow B e size v n xs := by
  refine ⟨h.1, ?_⟩
  rcases h.2 with h | ⟨g, cap, cur, h1, h2, h3, h4⟩
  · exact .inl h
  · exact .inr ⟨g, cap, cur, h1, h2, by rw [hb.block g (Array.getElem?_eq_some_iff.1 h3).1]; exact h3, h4⟩
theorem StrC.shape {B : Nat} {w : World} {v : Value} {ws : List (List UInt8)} (h : StrC B w v ws) : ∃ p c, v = .slice p ws.length c := by
  rcases h.2 with ⟨a, b⟩ | ⟨g, cap, cur, a, _⟩
  · exact ⟨none, 0, by rw [a, b]⟩
  · exact ⟨_, _, a⟩
theorem StrC.read {B : Nat} {w : World} {v : Value} {ws : List (List UInt8)} (h : StrC B w v ws) :
    ∃ p c, v = .slice p ws.length c ∧ ws.length ≤ c ∧ c ≤ 9223372036854775807 ∧ ∀ (i : Nat) (l : List UInt8), ws[i]? = some l → ∃ g, p = some ⟨g, 0, none⟩ ∧ g < w.heap.size ∧ w.cell? ⟨g, i, none⟩ = some (.string ⟨l.toArray⟩) := by
  rcases h.2 with ⟨a, b⟩ | ⟨g, cap, cur, a, a2, a3, a4, a5, _⟩
  · refine ⟨none, 0, by rw [a, b], by omega, by omega, fun i l hi => ?_⟩
    have := (List.getElem?_eq_some_iff.1 hi).1
    omega
  · subst a
    refine ⟨_, cap, rfl, a4, a5, fun i l hi => ⟨g, rfl, (Array.getElem?_eq_some_iff.1 a3).1, ?_⟩⟩
    have hlt := (List.getElem?_eq_some_iff.1 hi).1
    rw [World.ownsRow.cellAt h i (by omega), List.getElem?_map, hi]
    rfl
end Go.Tx

namespace Go.Proofs.YtepfeekfglpjoaaDoor
open Go.RowKit Go.Lib Go.Tx
/-- A row of texts, whose address and length are known. -/
structure TextsAt (w : World) (b cap : Nat) (ws : List (List UInt8)) : Prop where
  lt : b < w.heap.size
  fits : ws.length ≤ cap
  max : cap ≤ 9223372036854775807
  cell : ∀ (i : Nat) l, ws[i]? = some l → w.cell? ⟨b, i, none⟩ = some (.string ⟨l.toArray⟩)
theorem TextsAt.below {w w' : World} {b cap : Nat} {ws : List (List UInt8)} (h : TextsAt w b cap ws) (hb : Below w.heap.size w w') : TextsAt w' b cap ws :=
  ⟨Nat.lt_of_lt_of_le h.lt hb.size, h.fits, h.max, fun i l hi => by
    have := h.cell i l hi
    unfold World.cell? at this ⊢
    rw [hb.block b h.lt]
    exact this⟩
def IdxT (p : List UInt8 → Bool) (ws : List (List UInt8)) (w : World) (e : Ending) (w' : World) : Prop := ∃ i : Int, e = .returned (.int .i64 i) ∧ decide (0 ≤ i) = ws.any p ∧ Below w.heap.size w w'
theorem anyT_no {p : List UInt8 → Bool} (l : List (List UInt8)) (k : Nat) (hk : l.length ≤ k) (h : ∀ j b, j < k → l[j]? = some b → p b = false) : l.any p = false := by
  rw [List.any_eq_false]
  intro b hb
  obtain ⟨j, hj, rfl⟩ := List.getElem_of_mem hb
  rw [h j _ (by omega) (List.getElem?_eq_getElem hj)]
  simp
theorem anyT_yes {p : List UInt8 → Bool} (l : List (List UInt8)) (k : Nat) (b : List UInt8) (hk : l[k]? = some b) (h : p b = true) : l.any p = true := by
  rw [List.any_eq_true]
  exact ⟨b, List.mem_of_getElem? hk, h⟩
set_option maxHeartbeats 1000000 in
set_option maxRecDepth 100000 in
theorem idxT_any (b n cap : Nat) (ws : List (List UInt8)) (w : World) (hn : ws.length = n) (h : TextsAt w b cap ws) :
    Calls Tryd.prog 64 #[.slice (some ⟨b, 0, none⟩) n cap, .func (.func 60) #[] #[]] w (IdxT (fun l => !labelB l) ws w) := by
  have hcap := h.fits
  have hmax := h.max
  rw [hn] at hcap
  have HT := Lib.hid h
  clear h
  go_enter Tryd.func64, Tryd.ntmps64
  go_wp2
  go_loopw [8] (fun i wr => ∃ k : Nat, k ≤ n ∧ i = .int .i64 k ∧ Below w.heap.size w wr ∧ Hid (∀ j b, j < k → ws[j]? = some b → (!labelB b) = false)) (fun i _ => n - (intOf i).toNat)
  case atStart => exact ⟨0, Nat.zero_le _, rfl, Below.refl _ _, Lib.hid (by omega)⟩
  case round =>
    obtain ⟨k, hk, rfl, hbel, hall⟩ := hrel
    by_cases hlt : k < n
    · have hkl : k < ws.length := by omega
      have hcell := (HT.out.below hbel).cell k ws[k] (List.getElem?_eq_getElem hkl)
      have HK := Lib.hid (List.getElem?_eq_getElem hkl)
      clear hn
      generalize ws[k] = t at hcell HK
      have HN := Lib.hid (fun w => noLabel_any ⟨t.toArray⟩ w)
      cases hb : labelB t with
      | false =>
        have HB := Lib.hid hb
        clear hb
        go_wp2_with (go_at_call 60; refine (HN.out _).mono ?_; rw [show labelB (ByteArray.data ⟨t.toArray⟩).toList = false from HB.out]; rintro e w' ⟨rfl, hb2⟩)
        go_ret
        exact ⟨k, rfl, by rw [anyT_yes ws k t HK.out (by rw [HB.out]; rfl)]; simp, hbel.trans (hb2.mono hbel.size)⟩
      | true =>
        have HB := Lib.hid hb
        clear hb
        go_wp2_with (go_at_call 60; refine (HN.out _).mono ?_; rw [show labelB (ByteArray.data ⟨t.toArray⟩).toList = true from HB.out]; rintro e w' ⟨rfl, hb2⟩)
        go_roundw
        case rel => exact ⟨k + 1, hlt, by go_num, hbel.trans (hb2.mono hbel.size), Lib.hid (by
          intro j d hj hd
          by_cases e : j = k
          · subst e
            have := HK.out
            rw [this] at hd
            cases hd
            rw [HB.out]; rfl
          · exact hall.out j d (by omega) hd)⟩
        case measure => simp [intOf]; omega
    · go_wp2
      go_ret
      exact ⟨-1, rfl, by rw [anyT_no ws k (by omega) hall.out]; rfl, hbel⟩
theorem containsT_any (b n cap : Nat) (ws : List (List UInt8)) (w : World) (hn : ws.length = n) (h : TextsAt w b cap ws) :
    Calls Tryd.prog 59 #[.slice (some ⟨b, 0, none⟩) n cap, .func (.func 60) #[] #[]] w fun e w' => e = .returned (.bool (ws.any fun l => !labelB l)) ∧ Below w.heap.size w w' := by
  have HI := Lib.hid (idxT_any b n cap ws w hn h)
  clear h hn
  go_enter Tryd.func59, Tryd.ntmps59
  go_wp2_with (go_at_call 64; refine HI.out.mono ?_; rintro e w' ⟨i, rfl, hi, hb⟩; have HD := Lib.hid hi; clear hi)
  go_ret
  exact ⟨by rw [← HD.out]; rfl, hb⟩
/-- The library's variable holds a number. -/
def MaxAt (w : World) : Prop := ∃ m : Int, w.cell? ⟨0, 0, none⟩ = some (.int .i64 m)
theorem MaxAt.lt {w : World} (h : MaxAt w) : 0 < w.heap.size := by
  obtain ⟨m, h⟩ := h
  unfold World.cell? at h
  split at h
  · rename_i hh
    exact (Array.getElem?_eq_some_iff.1 hh).1
  · cases h
theorem MaxAt.below {w w' : World} (h : MaxAt w) (hb : Below w.heap.size w w') : MaxAt w' := by
  have := h.lt
  obtain ⟨m, h⟩ := h
  exact ⟨m, by rw [hb.cell (p := ⟨0, 0, none⟩) this]; exact h⟩
theorem split_textsAt (s : ByteArray) (w : World) (hs : s.size < 9223372036854775807) :
    TextsAt (w.alloc (.cells ((Lib.splitB ⟨#[46]⟩ 0 (Lib.countB s ⟨#[46]⟩) s).map Value.string).toArray 9)) w.heap.size (Lib.countB s ⟨#[46]⟩ + 1) (splitL 46 s.data.toList) := by
  rw [split_pieces, split_count]
  have hl := splitG_len 46 s.data.toList []
  refine ⟨by show w.heap.size < (w.heap.push _).size; simp, Nat.le_refl _, ?_, fun i l hi => ?_⟩
  · have : s.data.toList.length = s.size := rfl
    unfold splitL; omega
  · rw [World.cell?_alloc_new]
    simp only [List.getElem?_toArray, List.getElem?_map, hi]
    rfl
set_option maxHeartbeats 1000000 in
theorem isName_any (s : ByteArray) (w : World) (hm : MaxAt w) : Calls Tryd.prog 54 #[.string s] w fun e w' => e = .returned (.bool (nameB s.data.toList)) ∧ Below w.heap.size w w' := by
  have hl : s.data.toList.length = s.size := rfl
  by_cases h1 : s.size ≤ 253
  · have h1' : (s.size : Int) ≤ 253 := by omega
    obtain ⟨m, hm⟩ := hm
    have HS := Lib.hid (Tryd.strings_Split s ⟨#[46]⟩ m w (by omega) hm (Nat.le_refl 1))
    have HT := Lib.hid (split_textsAt s w (by omega))
    have HC := Lib.hid (split_count s 46).symm
    have hb : nameB s.data.toList = !((splitL 46 s.data.toList).any fun l => !labelB l) := by
      unfold nameB
      rw [decide_eq_true (by omega), Bool.true_and]
      simp [List.all_eq_not_any_not]
    rw [hb]
    clear hb hm hl
    go_enter Tryd.func54, Tryd.ntmps54
    go_wp2_with (first | (go_at_call 56; refine HS.out.mono ?_; rintro e w2 ⟨rfl, rfl⟩) | (go_at_call 59; refine (containsT_any _ _ _ _ _ HC.out HT.out).mono ?_; rintro e w2 ⟨rfl, hb⟩))
    go_ret
    exact ⟨rfl, ((Below.refl _ _).alloc (Nat.le_refl _) _).trans (hb.mono (by show w.heap.size ≤ (w.heap.push _).size; simp))⟩
  · have h1' : (253 : Int) < (s.size : Int) := by omega
    have hb : nameB s.data.toList = false := by unfold nameB; rw [decide_eq_false (by omega), Bool.false_and]
    rw [hb]
    clear hb
    go_enter Tryd.func54, Tryd.ntmps54
    go_wp2
    all_goals (go_ret; exact ⟨rfl, Below.refl _ _⟩)
set_option maxHeartbeats 1000000 in
theorem clean_any (s : ByteArray) (w : World) (hs : s.size ≤ maxLen) (hm : MaxAt w) : Calls Tryd.prog 48 #[.string s] w fun e w' => e = .returned (cleanV s.data.toList) ∧ Below w.heap.size w w' := by
  have HC := Lib.hid (Tryd.strings_CutSuffix s ⟨#[46]⟩ w (by unfold maxLen at hs; omega))
  have hbl : (bare s.data.toList).length ≤ maxLen := Nat.le_trans (bare_len _) hs
  have HF := Lib.hid (fun w => fold_any ⟨(bare s.data.toList).toArray⟩ w hbl)
  have HN := Lib.hid (fun w hm => isName_any ⟨(bare s.data.toList).toArray⟩ w hm)
  clear hbl hs
  cases hn : nameB (bare s.data.toList) with
  | true =>
    have hv : cleanV s.data.toList = .tuple #[.string ⟨((bare s.data.toList).map low).toArray⟩, .bool (isRoot s.data.toList), .bool true] := by unfold cleanV; rw [if_pos hn]
    rw [hv]
    have HB := Lib.hid hn
    clear hn hv
    go_enter Tryd.func48, Tryd.ntmps48
    go_wp2_with (first | (go_at_call 53; refine HC.out.mono ?_; rintro e w2 ⟨rfl, rfl⟩) | (go_at_call 54; refine (HN.out _ hm).mono ?_; rw [show nameB (ByteArray.data ⟨(bare s.data.toList).toArray⟩).toList = true from HB.out]; rintro e w2 ⟨rfl, hb⟩) | (go_at_call 55; refine (HF.out _).mono ?_; rintro e w3 ⟨rfl, hb3⟩))
    go_ret3
    exact ⟨rfl, hb.trans (hb3.mono hb.size)⟩
  | false =>
    have hv : cleanV s.data.toList = .tuple #[.string ⟨#[]⟩, .bool false, .bool false] := by unfold cleanV; rw [if_neg (by rw [hn]; decide)]
    rw [hv]
    have HB := Lib.hid hn
    clear hn hv
    go_enter Tryd.func48, Tryd.ntmps48
    go_wp2_with (first | (go_at_call 53; refine HC.out.mono ?_; rintro e w2 ⟨rfl, rfl⟩) | (go_at_call 54; refine (HN.out _ hm).mono ?_; rw [show nameB (ByteArray.data ⟨(bare s.data.toList).toArray⟩).toList = false from HB.out]; rintro e w2 ⟨rfl, hb⟩))
    go_ret3
    exact ⟨rfl, hb⟩
end Go.Proofs.YtepfeekfglpjoaaDoor

namespace Go.Proofs.YtepfeekfglpjoaaDoor
open Go.RowKit Go.Lib Go.Wi Go.Tx
theorem BA.str {w : World} {a : Option Addr} {n c : Nat} {m : List UInt8} (h : Go.Wi.BA w a n c m) : (convert 29 9 (.slice a n c)).run Tryd.prog w = .ok (.string ⟨m.toArray⟩) w := by
  cases a with
  | none =>
    have h0 := h.none rfl
    have h1 := h.cap
    have h2 := h.len
    obtain rfl : m = [] := List.eq_nil_of_length_eq_zero (by omega)
    obtain rfl : n = 0 := by omega
    rw [run_convert_bytes_string w 29 9 5 none 0 c Tryd.underlying29 Tryd.underlying5 Tryd.underlying9]
    rfl
  | some x =>
    have := run_convert_bytes_back (P := Tryd.prog) w 29 9 5 x c m Tryd.underlying29 Tryd.underlying5 Tryd.underlying9 (fun j hj => h.cell x rfl j _ (List.getElem?_eq_getElem hj))
    rw [h.len] at this
    exact this
theorem dots_any (s : ByteArray) (w : World) : Calls Tryd.prog 57 #[.string s] w fun e w' => e = .returned (.int .i64 (countByte s.data.toList 46)) ∧ w = w' := by
  have HC := Lib.hid (Tryd.strings_Count_one s 46 w)
  go_enter Tryd.func57, Tryd.ntmps57
  go_wp2_with (go_at_call 62; refine HC.out.mono ?_; rintro e w' ⟨rfl, rfl⟩)
  go_ret
  exact ⟨rfl, rfl⟩
def fitsB (k : Int) (m : List UInt8) : Bool := if k = 1 then decide (m.length = 4) else if k = 28 then decide (m.length = 16) else decide (m.length ≤ 256)
theorem fits_any (k : Int) (s : ByteArray) (w : World) : Calls Tryd.prog 50 #[.int .i64 k, .string s] w fun e w' => e = .returned (.bool (fitsB k s.data.toList)) ∧ w = w' := by
  have hl : s.data.toList.length = s.size := rfl
  by_cases h1 : k = 1
  · have HV : Hid (fitsB k s.data.toList = decide (s.size = 4)) := Lib.hid (by unfold fitsB; rw [if_pos h1, hl])
    subst h1
    clear hl
    go_enter Tryd.func50, Tryd.ntmps50
    go_wp2
    go_ret
    exact ⟨by rw [HV.out]; by_cases h : s.size = 4 <;> simp [h] <;> omega, rfl⟩
  by_cases h2 : k = 28
  · have HV : Hid (fitsB k s.data.toList = decide (s.size = 16)) := Lib.hid (by unfold fitsB; rw [if_neg h1, if_pos h2, hl])
    subst h2
    clear hl h1
    go_enter Tryd.func50, Tryd.ntmps50
    go_wp2
    go_ret
    exact ⟨by rw [HV.out]; by_cases h : s.size = 16 <;> simp [h] <;> omega, rfl⟩
  · have HV : Hid (fitsB k s.data.toList = decide (s.size ≤ 256)) := Lib.hid (by unfold fitsB; rw [if_neg h1, if_neg h2, hl])
    have e1 : (k == 1) = false := by rw [beq_eq_false_iff_ne]; exact h1
    have e2 : (k == 28) = false := by rw [beq_eq_false_iff_ne]; exact h2
    clear hl h1 h2
    go_enter Tryd.func50, Tryd.ntmps50
    go_wp2
    go_ret
    exact ⟨by rw [HV.out]; by_cases h : s.size ≤ 256 <;> simp [h] <;> omega, rfl⟩
theorem count_mem (m : List UInt8) : (((countByte m 46 : Nat) : Int) == 0) = decide (¬ 46 ∈ m) := by
  unfold countByte
  by_cases h : 46 ∈ m
  · have := List.count_pos_iff.2 h
    rw [decide_eq_false (fun e => e h), beq_eq_false_iff_ne]
    omega
  · rw [decide_eq_true h, List.count_eq_zero_of_not_mem h]
    rfl
theorem label_ok (w : World) (p : Nat) (a : Option Addr) (n c : Nat) (l : List UInt8) (i s : Nat) (h : RD w p a n c l (i : Int) false) (his : i + s ≤ n) :
    Calls Tryd.prog 51 #[.pointer (some ⟨p, 0, none⟩), .int .i64 (s : Int)] w fun e w' => e = .returned (.string ⟨(tk l i s).toArray⟩) ∧ RD w' p a n c l ((i + s : Nat) : Int) (decide (46 ∈ tk l i s)) ∧ Kp p w w' := by
  have HT := Lib.hid (take_ok w p a n c l i s h his)
  clear h
  obtain ⟨q, hq⟩ : ∃ q : ByteArray, (⟨(tk l i s).toArray⟩ : ByteArray) = q := ⟨_, rfl⟩
  have hqd : q.data.toList = tk l i s := by rw [← hq]
  have HD := Lib.hid (fun W => dots_any q W)
  have hcm := count_mem (tk l i s)
  rw [hqd] at HD
  rw [hq]
  have HQ := Lib.hid hq
  clear hqd hq
  have HCM := Lib.hid hcm
  clear hcm
  go_enter Tryd.func51, Tryd.ntmps51
  go_wp2_with (first | (go_at_call 37; refine HT.out.mono ?_; rintro e w2 ⟨⟨a', c', rfl, hba, hap⟩, hR, hK⟩; have hstr := BA.str hba; rw [HQ.out] at hstr; have HR := Lib.hid hR; have HK := Lib.hid hK; clear hba hap hR hK) | (go_at_call 57; refine (HD.out _).mono ?_; rintro e w' ⟨rfl, rfl⟩) | (go_at_call 36; refine (check_any _ p a n c l _ _ _ HR.out).mono ?_; rintro e w' ⟨rfl, hR3, hK3⟩; have HR3 := Lib.hid hR3; have HK3 := Lib.hid (HK.out.trans hK3); clear hR3 hK3))
  go_ret
  refine ⟨rfl, ?_, HK3.out⟩
  have := HR3.out
  rw [HCM.out] at this
  simpa using this
set_option maxRecDepth 100000 in
theorem label_no (w : World) (p : Nat) (a : Option Addr) (n c : Nat) (l : List UInt8) (i : Int) (s : Nat) (bad : Bool) (h : RD w p a n c l i bad) (hb : bad = true ∨ ((n : Int) - i < s ∧ 0 ≤ i ∧ i ≤ n)) (hs : s ≤ 1000) :
    Calls Tryd.prog 51 #[.pointer (some ⟨p, 0, none⟩), .int .i64 (s : Int)] w fun e w' => e = .returned (.string ⟨#[]⟩) ∧ RD w' p a n c l i true ∧ Kp p w w' := by
  have HT := Lib.hid (take_no w p a n c l i s bad h hb (by omega))
  obtain ⟨q, hq⟩ : ∃ q : ByteArray, (⟨#[]⟩ : ByteArray) = q := ⟨_, rfl⟩
  have hstr : ∀ W : World, (convert 29 9 (.slice none 0 0)).run Tryd.prog W = .ok (.string q) W := fun W => by
    rw [← hq, run_convert_bytes_string W 29 9 5 none 0 0 Tryd.underlying29 Tryd.underlying5 Tryd.underlying9]
    rfl
  have HD : Hid (∀ W, Calls Tryd.prog 57 #[.string q] W fun e w' => e = .returned (.int .i64 0) ∧ W = w') := Lib.hid (fun W => by rw [← hq]; exact dots_any ⟨#[]⟩ W)
  rw [hq]
  clear hq
  clear h hb
  go_enter Tryd.func51, Tryd.ntmps51
  go_wp2_with (first | (go_at_call 37; refine HT.out.mono ?_; rintro e w2 ⟨rfl, hR, hK⟩; have HR := Lib.hid hR; have HK := Lib.hid hK; clear hR hK) | (go_at_call 57; refine (HD.out _).mono ?_; rintro e w' ⟨rfl, rfl⟩) | (go_at_call 36; refine (check_any _ p a n c l _ _ _ HR.out).mono ?_; rintro e w' ⟨rfl, hR3, hK3⟩; have HR3 := Lib.hid hR3; have HK3 := Lib.hid (HK.out.trans hK3); clear hR3 hK3))
  go_ret
  exact ⟨rfl, by have := HR3.out; simpa using this, HK3.out⟩
/-- What clean hands back: the name, cleaned, or nothing. -/
def nameOf (l : List UInt8) : List UInt8 := if nameB (bare l) = true then (bare l).map low else []
theorem rclean_is (w : World) (p : Nat) (a : Option Addr) (n c : Nat) (l : List UInt8) (i : Int) (bad : Bool) (s : ByteArray) (h : RD w p a n c l i bad) (hs : s.size ≤ 100000) (hm : MaxAt w) :
    Calls Tryd.prog 52 #[.pointer (some ⟨p, 0, none⟩), .string s] w fun e w' => e = .returned (.string ⟨(nameOf s.data.toList).toArray⟩) ∧ RD w' p a n c l i (bad || !nameB (bare s.data.toList)) ∧ Kp p w w' := by
  have HC := Lib.hid (clean_any s w (by unfold maxLen; omega) hm)
  have HR0 := Lib.hid h
  clear h hm
  cases hn : nameB (bare s.data.toList) with
  | true =>
    have hv : cleanV s.data.toList = .tuple #[.string ⟨(nameOf s.data.toList).toArray⟩, .bool (isRoot s.data.toList), .bool true] := by unfold cleanV nameOf; rw [if_pos hn, if_pos hn]
    rw [hv] at HC
    clear hn hv
    generalize nameOf s.data.toList = N at *
    generalize isRoot s.data.toList = b at *
    go_enter Tryd.func52, Tryd.ntmps52
    go_wp2_with (first | (go_at_call 48; refine HC.out.mono ?_; rintro e w2 ⟨rfl, hb⟩; have HR := Lib.hid (HR0.out.below hb); have HK := Lib.hid (Kp.of (p := p) hb); clear hb) | (go_at_call 36; refine (check_any _ p a n c l _ _ _ HR.out).mono ?_; rintro e w' ⟨rfl, hR3, hK3⟩; have HR3 := Lib.hid hR3; have HK3 := Lib.hid (HK.out.trans hK3); clear hR3 hK3))
    go_ret
    exact ⟨rfl, HR3.out, HK3.out⟩
  | false =>
    have hv : cleanV s.data.toList = .tuple #[.string ⟨(nameOf s.data.toList).toArray⟩, .bool false, .bool false] := by unfold cleanV nameOf; rw [if_neg (by rw [hn]; decide), if_neg (by rw [hn]; decide)]
    rw [hv] at HC
    clear hn hv
    generalize nameOf s.data.toList = N at *
    go_enter Tryd.func52, Tryd.ntmps52
    go_wp2_with (first | (go_at_call 48; refine HC.out.mono ?_; rintro e w2 ⟨rfl, hb⟩; have HR := Lib.hid (HR0.out.below hb); have HK := Lib.hid (Kp.of (p := p) hb); clear hb) | (go_at_call 36; refine (check_any _ p a n c l _ _ _ HR.out).mono ?_; rintro e w' ⟨rfl, hR3, hK3⟩; have HR3 := Lib.hid hR3; have HK3 := Lib.hid (HK.out.trans hK3); clear hR3 hK3))
    go_ret
    exact ⟨rfl, HR3.out, HK3.out⟩
end Go.Proofs.YtepfeekfglpjoaaDoor

namespace Go.Wi
open Go.Tx
/-- The name that begins at a place: it, and where what follows begins. -/
def nameF (l : List UInt8) : Nat → Nat → Nat → List UInt8 → Nat → Option (List UInt8 × Nat)
  | 0, _, _, _, _ => none
  | f + 1, lo, i, whole, behind =>
    match l[i]? with
    | none => none
    | some z =>
      if 192 ≤ z.toNat then
        (match l[i + 1]? with
        | none => none
        | some y => if (z.toNat - 192) * 256 + y.toNat < min i lo then nameF l f ((z.toNat - 192) * 256 + y.toNat) ((z.toNat - 192) * 256 + y.toNat) whole (if behind = 0 then i + 2 else behind) else none)
      else if 0 < z.toNat then
        (if i + 1 + z.toNat ≤ l.length ∧ ¬ 46 ∈ tk l (i + 1) z.toNat ∧ (whole ++ tk l (i + 1) z.toNat ++ [46]).length ≤ 254 then nameF l f lo (i + 1 + z.toNat) (whole ++ tk l (i + 1) z.toNat ++ [46]) behind else none)
      else if nameB (bare whole) = true then some ((bare whole).map low, if 0 < behind then behind else i + 1) else none
theorem nameF_end {l : List UInt8} {f lo i be : Nat} {wh : List UInt8} (h : l[i]? = none) : nameF l f lo i wh be = none := by
  cases f with
  | zero => rfl
  | succ f => unfold nameF; rw [h]
theorem nameF_short {l : List UInt8} {f lo i be : Nat} {wh : List UInt8} {z : UInt8} (h : l[i]? = some z) (hz : 192 ≤ z.toNat) (h2 : l[i + 1]? = none) : nameF l f lo i wh be = none := by
  cases f with
  | zero => rfl
  | succ f => unfold nameF; rw [h]; simp only; rw [if_pos hz, h2]
theorem nameF_wild {l : List UInt8} {f lo i be : Nat} {wh : List UInt8} {z y : UInt8} (h : l[i]? = some z) (hz : 192 ≤ z.toNat) (h2 : l[i + 1]? = some y) (ht : ¬ (z.toNat - 192) * 256 + y.toNat < min i lo) : nameF l f lo i wh be = none := by
  cases f with
  | zero => rfl
  | succ f => unfold nameF; rw [h]; simp only; rw [if_pos hz, h2]; simp only; rw [if_neg ht]
theorem nameF_ptr {l : List UInt8} {f lo i be : Nat} {wh : List UInt8} {z y : UInt8} (h : l[i]? = some z) (hz : 192 ≤ z.toNat) (h2 : l[i + 1]? = some y) (ht : (z.toNat - 192) * 256 + y.toNat < min i lo) :
    nameF l (f + 1) lo i wh be = nameF l f ((z.toNat - 192) * 256 + y.toNat) ((z.toNat - 192) * 256 + y.toNat) wh (if be = 0 then i + 2 else be) := by
  rw [nameF, h]; simp only; rw [if_pos hz, h2]; simp only; rw [if_pos ht]
theorem nameF_no {l : List UInt8} {f lo i be : Nat} {wh : List UInt8} {z : UInt8} (h : l[i]? = some z) (hz : ¬ 192 ≤ z.toNat) (hz2 : 0 < z.toNat) (hc : ¬ (i + 1 + z.toNat ≤ l.length ∧ ¬ 46 ∈ tk l (i + 1) z.toNat ∧ (wh ++ tk l (i + 1) z.toNat ++ [46]).length ≤ 254)) : nameF l f lo i wh be = none := by
  cases f with
  | zero => rfl
  | succ f => unfold nameF; rw [h]; simp only; rw [if_neg hz, if_pos hz2, if_neg hc]
theorem nameF_lab {l : List UInt8} {f lo i be : Nat} {wh : List UInt8} {z : UInt8} (h : l[i]? = some z) (hz : ¬ 192 ≤ z.toNat) (hz2 : 0 < z.toNat) (hc : i + 1 + z.toNat ≤ l.length ∧ ¬ 46 ∈ tk l (i + 1) z.toNat ∧ (wh ++ tk l (i + 1) z.toNat ++ [46]).length ≤ 254) :
    nameF l (f + 1) lo i wh be = nameF l f lo (i + 1 + z.toNat) (wh ++ tk l (i + 1) z.toNat ++ [46]) be := by
  rw [nameF, h]; simp only; rw [if_neg hz, if_pos hz2, if_pos hc]
theorem nameF_bad {l : List UInt8} {f lo i be : Nat} {wh : List UInt8} {z : UInt8} (h : l[i]? = some z) (hz : z.toNat = 0) (hn : nameB (bare wh) = false) : nameF l f lo i wh be = none := by
  cases f with
  | zero => rfl
  | succ f => unfold nameF; rw [h]; simp only; rw [if_neg (by omega), if_neg (by omega), if_neg (by rw [hn]; decide)]
theorem nameF_fin {l : List UInt8} {f lo i be : Nat} {wh : List UInt8} {z : UInt8} (h : l[i]? = some z) (hz : z.toNat = 0) (hn : nameB (bare wh) = true) : nameF l (f + 1) lo i wh be = some ((bare wh).map low, if 0 < be then be else i + 1) := by
  rw [nameF, h]; simp only; rw [if_neg (by omega), if_neg (by omega), if_pos hn]
def nameW (l : List UInt8) (i : Nat) : Option (List UInt8 × Nat) := nameF l ((l.length + 1) * (l.length + 2) + 1) l.length i [] 0
theorem meas_ptr {n lo i t f : Nat} (hf : lo * (n + 2) + (n + 1 - i) ≤ f + 1) (ht : t < lo) (_hi : i ≤ n) : t * (n + 2) + (n + 1 - t) ≤ f := by
  have h1 : (t + 1) * (n + 2) ≤ lo * (n + 2) := Nat.mul_le_mul_right _ ht
  rw [Nat.add_mul] at h1
  omega
theorem meas_lt {n lo t k : Nat} (ht : t < lo) : t * (n + 2) + (n + 1 - t) < lo * (n + 2) + (n + 1 - k) := by
  have h1 : (t + 1) * (n + 2) ≤ lo * (n + 2) := Nat.mul_le_mul_right _ ht
  rw [Nat.add_mul] at h1
  omega
/-- Where the reader is, and whether it is bad, for the measure. -/
def atOf (w : World) (p : Nat) : Nat := match w.cell? ⟨p, 1, none⟩ with
  | some (.int _ i) => i.toNat
  | _ => 0
def badOf (w : World) (p : Nat) : Bool := match w.cell? ⟨p, 2, none⟩ with
  | some (.bool b) => b
  | _ => false
theorem RD.atOf {w : World} {p : Nat} {a : Option Addr} {n c : Nat} {l : List UInt8} {i : Int} {bad : Bool} (h : RD w p a n c l i bad) : Go.Wi.atOf w p = i.toNat := by unfold Go.Wi.atOf; rw [h.c1]
theorem RD.badOf {w : World} {p : Nat} {a : Option Addr} {n c : Nat} {l : List UInt8} {i : Int} {bad : Bool} (h : RD w p a n c l i bad) : Go.Wi.badOf w p = bad := by unfold Go.Wi.badOf; rw [h.c2]
def mu (n : Nat) (w : World) (p : Nat) (lo : Nat) : Nat := if badOf w p = true then 0 else 1 + lo * (n + 2) + (n + 1 - atOf w p)
end Go.Wi
namespace Go.Proofs.YtepfeekfglpjoaaDoor
open Go.RowKit Go.Lib Go.Wi Go.Tx
theorem num_one {l : List UInt8} {i : Nat} {z : UInt8} (h : l[i]? = some z) : numV (tk l i 1) = z.toNat := by
  have hi := (List.getElem?_eq_some_iff.1 h).1
  have e : tk l i 1 = [z] := by
    unfold tk
    rw [List.drop_eq_getElem_cons hi, List.take_succ_cons, List.take_zero]
    rw [List.getElem?_eq_getElem hi] at h
    cases h
    rfl
  rw [e]
  simp [numV]
theorem nameOf_len (s : ByteArray) : (nameOf s.data.toList).length ≤ s.size := by
  unfold nameOf
  split
  · rw [List.length_map]; exact bare_len _
  · exact Nat.zero_le _
def NameR (w : World) (p : Nat) (a : Option Addr) (n c : Nat) (l : List UInt8) (R : Option (List UInt8 × Nat)) (e : Ending) (w' : World) : Prop :=
  Kp p w w' ∧ match R with
    | some (m, j) => e = .returned (.string ⟨m.toArray⟩) ∧ RD w' p a n c l (j : Int) false ∧ j ≤ n
    | none => (∃ m : ByteArray, m.size ≤ 1000 ∧ e = .returned (.string m)) ∧ ∃ i', RD w' p a n c l i' true
structure NI (w : World) (p : Nat) (a : Option Addr) (n c : Nat) (l : List UInt8) (R : Option (List UInt8 × Nat)) (wr : World) (wh : ByteArray) (be lo : Nat) (i : Int) (bad : Bool) : Prop where
  rd : RD wr p a n c l i bad
  kp : Kp p w wr
  whs : wh.size ≤ 500
  bes : be ≤ 100000
  los : lo ≤ 100000
  no : bad = true → R = none
  go : bad = false → ∃ k : Nat, i = k ∧ k ≤ n ∧ lo ≤ n ∧ wh.size ≤ 254 ∧ be ≤ n ∧ ∃ f, R = nameF l f lo k wh.data.toList be ∧ lo * (n + 2) + (n + 1 - k) ≤ f
theorem NI.drawn {w : World} {p : Nat} {a : Option Addr} {n c : Nat} {l : List UInt8} {R : Option (List UInt8 × Nat)} {wr : World} {wh : ByteArray} {be lo : Nat} {i : Int} {bad : Bool} (h : NI w p a n c l R wr wh be lo i bad) (j : Nat) : NI w p a n c l R (wr.drewN j) wh be lo i bad :=
  ⟨h.rd.drawn j, h.kp.trans (Kp.drawn p wr j), h.whs, h.bes, h.los, h.no, h.go⟩
theorem mu_good {n : Nat} {w : World} {p : Nat} {a : Option Addr} {c lo : Nat} {l : List UInt8} {k : Nat} (h : RD w p a n c l (k : Int) false) : mu n w p lo = 1 + lo * (n + 2) + (n + 1 - k) := by
  unfold mu
  rw [h.badOf, h.atOf, if_neg (by decide), Int.toNat_natCast]
theorem mu_bad {n : Nat} {w : World} {p : Nat} {a : Option Addr} {m c lo : Nat} {l : List UInt8} {k : Int} (h : RD w p a m c l k true) : mu n w p lo = 0 := by
  unfold mu
  rw [h.badOf, if_pos rfl]
set_option maxHeartbeats 4000000 in
set_option maxRecDepth 100000 in
theorem name_any (w : World) (p : Nat) (a : Option Addr) (n c : Nat) (l : List UInt8) (i : Int) (bad : Bool) (R : Option (List UInt8 × Nat)) (h : RD w p a n c l i bad) (hn : n ≤ 4096) (hR : bad = true → R = none) (hgo : bad = false → ∃ k : Nat, i = k ∧ k ≤ n ∧ R = nameW l k) (hm : MaxAt w) (hp0 : p ≠ 0) :
    Calls Tryd.prog 46 #[.pointer (some ⟨p, 0, none⟩)] w (NameR w p a n c l R) := by
  have hc0 := h.c0
  have hl : l.length = n := h.ba.len
  have hcap := h.ba.cap
  have hmax := h.ba.max
  have HL := Lib.hid hl
  have HMx : Hid (∀ W, Kp p w W → MaxAt W) := Lib.hid (fun W hk => by
    obtain ⟨m, hm2⟩ := hm
    have hlt : 0 < w.heap.size := MaxAt.lt ⟨m, hm2⟩
    exact ⟨m, by rw [hk.cell (x := ⟨0, 0, none⟩) hlt (fun e => hp0 e.symm)]; exact hm2⟩)
  have HI : Hid (NI w p a n c l R w ⟨#[]⟩ 0 n i bad) := Lib.hid ⟨h, Kp.refl _ _, Nat.zero_le _, Nat.zero_le _, by omega, hR, fun hb => by
    obtain ⟨k, e1, e2, e3⟩ := hgo hb
    refine ⟨k, e1, e2, Nat.le_refl _, Nat.zero_le _, Nat.zero_le _, (n + 1) * (n + 2) + 1, by rw [e3]; unfold nameW; rw [hl], ?_⟩
    have : (n + 1) * (n + 2) = n * (n + 2) + (n + 2) := by rw [Nat.add_mul, Nat.one_mul]
    omega⟩
  clear h hR hgo hm hl
  go_enter Tryd.func46, Tryd.ntmps46
  go_wp2
  go_quiet (fail)
  go_wp2
  go_loopw [3, 4, 5] (fun whv bev lov wr => ∃ (wh : ByteArray) (be lo : Nat) (i : Int) (bad : Bool), whv = .string wh ∧ bev = .int .i64 be ∧ lov = .int .i64 lo ∧ Hid (NI w p a n c l R wr wh be lo i bad)) (fun _ _ lov wr => mu n wr p (RowKit.intOf lov).toNat)
  case atStart => exact ⟨⟨#[]⟩, 0, n, i, bad, rfl, rfl, rfl, Lib.hid (HI.out.drawn _)⟩
  case round =>
    obtain ⟨wh, be, lo, i2, bad2, rfl, rfl, rfl, hI⟩ := hrel
    have hd1 := hI.out.rd.c1
    have hd2 := hI.out.rd.c2
    have hg1 := hI.out.rd.f1
    cases bad2 with
    | true =>
      have HNo := Lib.hid (hI.out.no rfl)
      go_wp2
      go_ret
      unfold NameR
      rw [HNo.out]
      exact ⟨hI.out.kp, ⟨⟨#[]⟩, Nat.zero_le _, rfl⟩, _, hI.out.rd⟩
    | false =>
      obtain ⟨k, hik, hkn, hlo, hws, hbe, f, hRf, hf⟩ := hI.out.go rfl
      subst hik
      have HR := Lib.hid hI.out.rd
      have HR0 := Lib.hid hI.out.rd
      have HK := Lib.hid hI.out.kp
      have HF := Lib.hid hf
      have HRF := Lib.hid hRf
      have HWS := Lib.hid (nameOf_len wh)
      clear hI hf hRf
      by_cases hk : k < n
      · obtain ⟨z, hz⟩ : ∃ z, l[k]? = some z := ⟨_, List.getElem?_eq_getElem (by rw [HL.out]; exact hk)⟩
        have HZ := Lib.hid hz
        have hzl := z.toNat_lt
        have HN1 : Hid (∀ W, RD W p a n c l (k : Int) false → Calls Tryd.prog 35 #[.pointer (some ⟨p, 0, none⟩), .int .i64 1] W fun e w' => e = .returned (.int .i64 (z.toNat : Int)) ∧ RD w' p a n c l ((k + 1 : Nat) : Int) false ∧ Kp p W w') := Lib.hid (fun W hW => by
          have := number_ok W p a n c l k 1 hW (by omega) (by omega)
          rw [num_one HZ.out] at this
          exact this)
        clear hz
        by_cases hz1 : 192 ≤ z.toNat
        · skip
          by_cases hk2 : k + 1 < n
          · obtain ⟨y, hy⟩ : ∃ y, l[k + 1]? = some y := ⟨_, List.getElem?_eq_getElem (by rw [HL.out]; exact hk2)⟩
            have HY := Lib.hid hy
            have hyl := y.toNat_lt
            have HN2 : Hid (∀ W, RD W p a n c l ((k + 1 : Nat) : Int) false → Calls Tryd.prog 35 #[.pointer (some ⟨p, 0, none⟩), .int .i64 1] W fun e w' => e = .returned (.int .i64 (y.toNat : Int)) ∧ RD w' p a n c l ((k + 2 : Nat) : Int) false ∧ Kp p W w') := Lib.hid (fun W hW => by
              have := number_ok W p a n c l (k + 1) 1 hW (by omega) (by omega)
              rw [num_one HY.out] at this
              exact this)
            clear hy
            obtain ⟨t, ht⟩ : ∃ t, (z.toNat - 192) * 256 + y.toNat = t := ⟨_, rfl⟩
            have hor := or_i64 (z.toNat - 192) y (by omega)
            rw [ht, show ((z.toNat - 192 : Nat) : Int) = (z.toNat : Int) - 192 by omega] at hor
            have ht3 : t ≤ 16383 := by omega
            have HTT := Lib.hid ht
            clear ht
            by_cases htl : t < min k lo
            · skip
              have hmin : (t : Int) < min (k : Int) (lo : Int) := by omega
              have hmd : decide ((t : Int) < min (k : Int) (lo : Int)) = true := decide_eq_true hmin
              obtain ⟨f, rfl⟩ : ∃ g, f = g + 1 := ⟨f - 1, by have := HF.out; omega⟩
              have HRF2 := Lib.hid (HRF.out.trans (nameF_ptr HZ.out hz1 HY.out (by rw [HTT.out]; exact htl)))
              have HMu := Lib.hid (meas_ptr HF.out (show t < lo by omega) hkn)
              by_cases hb0 : be = 0
              · have HB0 := Lib.hid hb0
                have hbz : ((be : Int) == 0) = true := by rw [hb0]; rfl
                clear hb0
                go_wp2_with (first | (go_at_call 35; refine (HN1.out _ HR.out).mono ?_; rintro e w' ⟨rfl, hR3, hK3⟩; have HR := Lib.hid hR3; have HK := Lib.hid (HK.out.trans hK3); have hd1 := hR3.c1; have hd2 := hR3.c2; have hg1 := hR3.f1; clear hR3 hK3) | (go_at_call 35; refine (HN2.out _ HR.out).mono ?_; rintro e w' ⟨rfl, hR3, hK3⟩; have HR := Lib.hid hR3; have HK := Lib.hid (HK.out.trans hK3); have hd1 := hR3.c1; have hd2 := hR3.c2; have hg1 := hR3.f1; clear hR3 hK3) | (go_at_call 36; refine (check_any _ p a n c l _ _ _ HR.out).mono ?_; rintro e w' ⟨rfl, hR3, hK3⟩; have hR4 : RD w' p a n c l _ false := (by first | exact hR3 | (have hR5 := hR3; simp only [Bool.true_or, Bool.or_true, Bool.false_or, Bool.not_true, Bool.not_false] at hR5; exact hR5)); have HR := Lib.hid hR4; have HK := Lib.hid (HK.out.trans hK3); have hd1 := hR4.c1; have hd2 := hR4.c2; have hg1 := hR4.f1; clear hR3 hK3 hR4))
                go_roundw
                case rel => exact ⟨wh, k + 2, t, t, false, rfl, by first | rfl | go_num, rfl, Lib.hid ⟨HR.out.setAt _, HK.out.trans Kp.set, by omega, by omega, by omega, (fun h => by cases h), fun _ => ⟨t, rfl, by omega, by omega, hws, by omega, f, by have h := HRF2.out; rw [if_pos HB0.out, HTT.out] at h; exact h, HMu.out⟩⟩⟩
                case measure =>
                  simp only [RowKit.intOf, Int.toNat_natCast]
                  rw [mu_good (k := t) (HR.out.setAt _), mu_good HR0.out]
                  have := meas_lt (n := n) (k := k) (show t < lo by omega)
                  omega
              · have hbz : ((be : Int) == 0) = false := by rw [beq_eq_false_iff_ne]; omega
                have HB0 := Lib.hid hb0
                clear hb0
                go_wp2_with (first | (go_at_call 35; refine (HN1.out _ HR.out).mono ?_; rintro e w' ⟨rfl, hR3, hK3⟩; have HR := Lib.hid hR3; have HK := Lib.hid (HK.out.trans hK3); have hd1 := hR3.c1; have hd2 := hR3.c2; have hg1 := hR3.f1; clear hR3 hK3) | (go_at_call 35; refine (HN2.out _ HR.out).mono ?_; rintro e w' ⟨rfl, hR3, hK3⟩; have HR := Lib.hid hR3; have HK := Lib.hid (HK.out.trans hK3); have hd1 := hR3.c1; have hd2 := hR3.c2; have hg1 := hR3.f1; clear hR3 hK3) | (go_at_call 36; refine (check_any _ p a n c l _ _ _ HR.out).mono ?_; rintro e w' ⟨rfl, hR3, hK3⟩; have hR4 : RD w' p a n c l _ false := (by first | exact hR3 | (have hR5 := hR3; simp only [Bool.true_or, Bool.or_true, Bool.false_or, Bool.not_true, Bool.not_false] at hR5; exact hR5)); have HR := Lib.hid hR4; have HK := Lib.hid (HK.out.trans hK3); have hd1 := hR4.c1; have hd2 := hR4.c2; have hg1 := hR4.f1; clear hR3 hK3 hR4))
                go_roundw
                case rel => exact ⟨wh, be, t, t, false, rfl, by first | rfl | go_num, rfl, Lib.hid ⟨HR.out.setAt _, HK.out.trans Kp.set, by omega, by omega, by omega, (fun h => by cases h), fun _ => ⟨t, rfl, by omega, by omega, hws, by omega, f, by have h := HRF2.out; rw [if_neg HB0.out, HTT.out] at h; exact h, HMu.out⟩⟩⟩
                case measure =>
                  simp only [RowKit.intOf, Int.toNat_natCast]
                  rw [mu_good (k := t) (HR.out.setAt _), mu_good HR0.out]
                  have := meas_lt (n := n) (k := k) (show t < lo by omega)
                  omega
            · skip
              have hmd : decide ((t : Int) < min (k : Int) (lo : Int)) = false := decide_eq_false (by omega)
              have hmd2 : ¬ (t : Int) < min (k : Int) (lo : Int) := by omega
              have HNo := Lib.hid (HRF.out.trans (nameF_wild HZ.out hz1 HY.out (by rw [HTT.out]; exact htl)))
              by_cases hb0 : be = 0
              · have HB0 := Lib.hid hb0
                have hbz : ((be : Int) == 0) = true := by rw [hb0]; rfl
                clear hb0
                go_wp2_with (first | (go_at_call 35; refine (HN1.out _ HR.out).mono ?_; rintro e w' ⟨rfl, hR3, hK3⟩; have HR := Lib.hid hR3; have HK := Lib.hid (HK.out.trans hK3); have hd1 := hR3.c1; have hd2 := hR3.c2; have hg1 := hR3.f1; clear hR3 hK3) | (go_at_call 35; refine (HN2.out _ HR.out).mono ?_; rintro e w' ⟨rfl, hR3, hK3⟩; have HR := Lib.hid hR3; have HK := Lib.hid (HK.out.trans hK3); have hd1 := hR3.c1; have hd2 := hR3.c2; have hg1 := hR3.f1; clear hR3 hK3) | (go_at_call 36; refine (check_any _ p a n c l _ _ _ HR.out).mono ?_; rintro e w' ⟨rfl, hR3, hK3⟩; have hR4 : RD w' p a n c l _ true := (by first | exact hR3 | (have hR5 := hR3; simp only [Bool.true_or, Bool.or_true, Bool.false_or, Bool.not_true, Bool.not_false] at hR5; exact hR5)); have HR := Lib.hid hR4; have HK := Lib.hid (HK.out.trans hK3); have hd1 := hR4.c1; have hd2 := hR4.c2; have hg1 := hR4.f1; clear hR3 hK3 hR4))
                go_roundw
                case rel => exact ⟨wh, k + 2, t, t, true, rfl, by first | rfl | go_num, rfl, Lib.hid ⟨HR.out.setAt _, HK.out.trans Kp.set, by omega, by omega, by omega, fun _ => HNo.out, fun h => by cases h⟩⟩
                case measure =>
                  simp only [RowKit.intOf, Int.toNat_natCast]
                  rw [mu_bad (HR.out.setAt _), mu_good HR0.out]
                  omega
              · have hbz : ((be : Int) == 0) = false := by rw [beq_eq_false_iff_ne]; omega
                have HB0 := Lib.hid hb0
                clear hb0
                go_wp2_with (first | (go_at_call 35; refine (HN1.out _ HR.out).mono ?_; rintro e w' ⟨rfl, hR3, hK3⟩; have HR := Lib.hid hR3; have HK := Lib.hid (HK.out.trans hK3); have hd1 := hR3.c1; have hd2 := hR3.c2; have hg1 := hR3.f1; clear hR3 hK3) | (go_at_call 35; refine (HN2.out _ HR.out).mono ?_; rintro e w' ⟨rfl, hR3, hK3⟩; have HR := Lib.hid hR3; have HK := Lib.hid (HK.out.trans hK3); have hd1 := hR3.c1; have hd2 := hR3.c2; have hg1 := hR3.f1; clear hR3 hK3) | (go_at_call 36; refine (check_any _ p a n c l _ _ _ HR.out).mono ?_; rintro e w' ⟨rfl, hR3, hK3⟩; have hR4 : RD w' p a n c l _ true := (by first | exact hR3 | (have hR5 := hR3; simp only [Bool.true_or, Bool.or_true, Bool.false_or, Bool.not_true, Bool.not_false] at hR5; exact hR5)); have HR := Lib.hid hR4; have HK := Lib.hid (HK.out.trans hK3); have hd1 := hR4.c1; have hd2 := hR4.c2; have hg1 := hR4.f1; clear hR3 hK3 hR4))
                go_roundw
                case rel => exact ⟨wh, be, t, t, true, rfl, by first | rfl | go_num, rfl, Lib.hid ⟨HR.out.setAt _, HK.out.trans Kp.set, by omega, by omega, by omega, fun _ => HNo.out, fun h => by cases h⟩⟩
                case measure =>
                  simp only [RowKit.intOf, Int.toNat_natCast]
                  rw [mu_bad (HR.out.setAt _), mu_good HR0.out]
                  omega
          · skip
            have hy : l[k + 1]? = none := List.getElem?_eq_none (by rw [HL.out]; omega)
            have HNo := Lib.hid (HRF.out.trans (nameF_short HZ.out hz1 hy))
            have HN2 : Hid (∀ W, RD W p a n c l ((k + 1 : Nat) : Int) false → Calls Tryd.prog 35 #[.pointer (some ⟨p, 0, none⟩), .int .i64 1] W fun e w' => e = .returned (.int .i64 0) ∧ RD w' p a n c l ((k + 1 : Nat) : Int) true ∧ Kp p W w') := Lib.hid (fun W hW => number_no W p a n c l _ 1 false hW (.inr ⟨by omega, by omega, by omega⟩) (by omega))
            clear hy
            obtain ⟨t, ht⟩ : ∃ t, (z.toNat - 192) * 256 + (0 : UInt8).toNat = t := ⟨_, rfl⟩
            have hor := or_i64 (z.toNat - 192) 0 (by omega)
            rw [ht, show ((z.toNat - 192 : Nat) : Int) = (z.toNat : Int) - 192 by omega, show (((0 : UInt8).toNat : Nat) : Int) = 0 from rfl] at hor
            have ht3 : t ≤ 16383 := by have : (0 : UInt8).toNat = 0 := rfl; omega
            clear ht
            by_cases hb0 : be = 0
            · have HB0 := Lib.hid hb0
              have hbz : ((be : Int) == 0) = true := by rw [hb0]; rfl
              clear hb0
              go_wp2_with (first | (go_at_call 35; refine (HN1.out _ HR.out).mono ?_; rintro e w' ⟨rfl, hR3, hK3⟩; have HR := Lib.hid hR3; have HK := Lib.hid (HK.out.trans hK3); have hd1 := hR3.c1; have hd2 := hR3.c2; have hg1 := hR3.f1; clear hR3 hK3) | (go_at_call 35; refine (HN2.out _ HR.out).mono ?_; rintro e w' ⟨rfl, hR3, hK3⟩; have HR := Lib.hid hR3; have HK := Lib.hid (HK.out.trans hK3); have hd1 := hR3.c1; have hd2 := hR3.c2; have hg1 := hR3.f1; clear hR3 hK3) | (go_at_call 36; refine (check_any _ p a n c l _ _ _ HR.out).mono ?_; rintro e w' ⟨rfl, hR3, hK3⟩; have hR4 : RD w' p a n c l _ true := (by first | exact hR3 | (have hR5 := hR3; simp only [Bool.true_or, Bool.or_true, Bool.false_or, Bool.not_true, Bool.not_false] at hR5; exact hR5)); have HR := Lib.hid hR4; have HK := Lib.hid (HK.out.trans hK3); have hd1 := hR4.c1; have hd2 := hR4.c2; have hg1 := hR4.f1; clear hR3 hK3 hR4))
              go_roundw
              case rel => exact ⟨wh, k + 1, t, t, true, rfl, by first | rfl | go_num, rfl, Lib.hid ⟨HR.out.setAt _, HK.out.trans Kp.set, by omega, by omega, by omega, fun _ => HNo.out, fun h => by cases h⟩⟩
              case measure =>
                simp only [RowKit.intOf, Int.toNat_natCast]
                rw [mu_bad (HR.out.setAt _), mu_good HR0.out]
                omega
            · have hbz : ((be : Int) == 0) = false := by rw [beq_eq_false_iff_ne]; omega
              have HB0 := Lib.hid hb0
              clear hb0
              go_wp2_with (first | (go_at_call 35; refine (HN1.out _ HR.out).mono ?_; rintro e w' ⟨rfl, hR3, hK3⟩; have HR := Lib.hid hR3; have HK := Lib.hid (HK.out.trans hK3); have hd1 := hR3.c1; have hd2 := hR3.c2; have hg1 := hR3.f1; clear hR3 hK3) | (go_at_call 35; refine (HN2.out _ HR.out).mono ?_; rintro e w' ⟨rfl, hR3, hK3⟩; have HR := Lib.hid hR3; have HK := Lib.hid (HK.out.trans hK3); have hd1 := hR3.c1; have hd2 := hR3.c2; have hg1 := hR3.f1; clear hR3 hK3) | (go_at_call 36; refine (check_any _ p a n c l _ _ _ HR.out).mono ?_; rintro e w' ⟨rfl, hR3, hK3⟩; have hR4 : RD w' p a n c l _ true := (by first | exact hR3 | (have hR5 := hR3; simp only [Bool.true_or, Bool.or_true, Bool.false_or, Bool.not_true, Bool.not_false] at hR5; exact hR5)); have HR := Lib.hid hR4; have HK := Lib.hid (HK.out.trans hK3); have hd1 := hR4.c1; have hd2 := hR4.c2; have hg1 := hR4.f1; clear hR3 hK3 hR4))
              go_roundw
              case rel => exact ⟨wh, be, t, t, true, rfl, by first | rfl | go_num, rfl, Lib.hid ⟨HR.out.setAt _, HK.out.trans Kp.set, by omega, by omega, by omega, fun _ => HNo.out, fun h => by cases h⟩⟩
              case measure =>
                simp only [RowKit.intOf, Int.toNat_natCast]
                rw [mu_bad (HR.out.setAt _), mu_good HR0.out]
                omega
        · by_cases hzp : 0 < z.toNat
          · skip
            have hz2 : (z.toNat : Int) < 192 := by omega
            have hz3 : (0 : Int) < (z.toNat : Int) := by omega
            by_cases hfit : k + 1 + z.toNat ≤ n
            · obtain ⟨q, hq⟩ : ∃ q : ByteArray, (⟨(tk l (k + 1) z.toNat).toArray⟩ : ByteArray) = q := ⟨_, rfl⟩
              have hqd : q.data.toList = tk l (k + 1) z.toNat := by rw [← hq]
              have hqs : q.size = z.toNat := by
                have e : q.data.toList.length = q.size := rfl
                rw [← e, hqd]
                unfold tk
                rw [List.length_take, List.length_drop, HL.out]
                omega
              have HLb : Hid (∀ W, RD W p a n c l ((k + 1 : Nat) : Int) false → Calls Tryd.prog 51 #[.pointer (some ⟨p, 0, none⟩), .int .i64 (z.toNat : Int)] W fun e w' => e = .returned (.string q) ∧ RD w' p a n c l ((k + 1 + z.toNat : Nat) : Int) (decide (46 ∈ q.data.toList)) ∧ Kp p W w') := Lib.hid (fun W hW => by
                rw [hqd, ← hq]
                exact label_ok W p a n c l (k + 1) z.toNat hW hfit)
              have hsz1 : (wh ++ (q ++ ⟨#[46]⟩)).size = wh.size + (z.toNat + 1) := by rw [ByteArray.size_append, ByteArray.size_append, hqs]; rfl
              have HQD := Lib.hid hqd
              have hwl : wh.data.toList.length = wh.size := rfl
              have hcat : (wh ++ (q ++ ⟨#[46]⟩)).data.toList = wh.data.toList ++ tk l (k + 1) z.toNat ++ [46] := by rw [← hqd]; simp
              have htl : (wh.data.toList ++ tk l (k + 1) z.toNat ++ [46]).length = wh.size + z.toNat + 1 := by
                rw [← hcat]
                show (wh ++ (q ++ ⟨#[46]⟩)).size = _
                rw [hsz1]; omega
              by_cases hdot : 46 ∈ tk l (k + 1) z.toNat
              · have HNo := Lib.hid (HRF.out.trans (nameF_no HZ.out hz1 (show 0 < z.toNat by omega) (fun h => h.2.1 hdot)))
                rw [hqd, decide_eq_true hdot] at HLb
                clear hqd hq hcat htl hwl
                go_wp2_with (first | (go_at_call 35; refine (HN1.out _ HR.out).mono ?_; rintro e w' ⟨rfl, hR3, hK3⟩; have HR := Lib.hid hR3; have HK := Lib.hid (HK.out.trans hK3); have hd1 := hR3.c1; have hd2 := hR3.c2; have hg1 := hR3.f1; clear hR3 hK3) | (go_at_call 51; refine (HLb.out _ HR.out).mono ?_; rintro e w' ⟨rfl, hR3, hK3⟩; have HR := Lib.hid hR3; have HK := Lib.hid (HK.out.trans hK3); have hd1 := hR3.c1; have hd2 := hR3.c2; have hg1 := hR3.f1; clear hR3 hK3) | (go_at_call 36; refine (check_any _ p a n c l _ _ _ HR.out).mono ?_; rintro e w' ⟨rfl, hR3, hK3⟩; have hR4 : RD w' p a n c l _ true := (by first | exact hR3 | (have hR5 := hR3; simp only [Bool.true_or, Bool.or_true, Bool.false_or, Bool.not_true, Bool.not_false] at hR5; exact hR5)); have HR := Lib.hid hR4; have HK := Lib.hid (HK.out.trans hK3); have hd1 := hR4.c1; have hd2 := hR4.c2; have hg1 := hR4.f1; clear hR3 hK3 hR4))
                go_roundw
                case rel => exact ⟨wh ++ (q ++ ⟨#[46]⟩), be, lo, _, true, rfl, rfl, rfl, Lib.hid ⟨HR.out, HK.out, by omega, by omega, by omega, fun _ => HNo.out, fun h => by cases h⟩⟩
                case measure =>
                  simp only [RowKit.intOf, Int.toNat_natCast]
                  rw [mu_bad HR.out, mu_good HR0.out]
                  omega
              · rw [hqd, decide_eq_false hdot] at HLb
                by_cases h254 : wh.size + z.toNat + 1 ≤ 254
                · have hle : decide ((wh.size : Int) + ((z.toNat : Int) + 1) ≤ 254) = true := decide_eq_true (by omega)
                  have hle2 : (wh.size : Int) + ((z.toNat : Int) + 1) ≤ 254 := by omega
                  obtain ⟨f, rfl⟩ : ∃ g, f = g + 1 := ⟨f - 1, by have := HF.out; omega⟩
                  have HRF2 := Lib.hid (HRF.out.trans (nameF_lab HZ.out hz1 (show 0 < z.toNat by omega) ⟨by rw [HL.out]; exact hfit, hdot, by rw [htl]; exact h254⟩))
                  rw [← hcat] at HRF2
                  clear hqd hq hcat htl hwl
                  go_wp2_with (first | (go_at_call 35; refine (HN1.out _ HR.out).mono ?_; rintro e w' ⟨rfl, hR3, hK3⟩; have HR := Lib.hid hR3; have HK := Lib.hid (HK.out.trans hK3); have hd1 := hR3.c1; have hd2 := hR3.c2; have hg1 := hR3.f1; clear hR3 hK3) | (go_at_call 51; refine (HLb.out _ HR.out).mono ?_; rintro e w' ⟨rfl, hR3, hK3⟩; have HR := Lib.hid hR3; have HK := Lib.hid (HK.out.trans hK3); have hd1 := hR3.c1; have hd2 := hR3.c2; have hg1 := hR3.f1; clear hR3 hK3) | (go_at_call 36; refine (check_any _ p a n c l _ _ _ HR.out).mono ?_; rintro e w' ⟨rfl, hR3, hK3⟩; have hR4 : RD w' p a n c l _ false := (by first | exact hR3 | (have hR5 := hR3; simp only [Bool.true_or, Bool.or_true, Bool.false_or, Bool.not_true, Bool.not_false] at hR5; exact hR5)); have HR := Lib.hid hR4; have HK := Lib.hid (HK.out.trans hK3); have hd1 := hR4.c1; have hd2 := hR4.c2; have hg1 := hR4.f1; clear hR3 hK3 hR4))
                  go_roundw
                  case rel => exact ⟨wh ++ (q ++ ⟨#[46]⟩), be, lo, ((k + 1 + z.toNat : Nat) : Int), false, rfl, rfl, rfl, Lib.hid ⟨HR.out, HK.out, by omega, by omega, by omega, (fun h => by cases h), fun _ => ⟨_, rfl, by omega, hlo, by omega, hbe, f, HRF2.out, by have := HF.out; omega⟩⟩⟩
                  case measure =>
                    simp only [RowKit.intOf, Int.toNat_natCast]
                    rw [mu_good HR.out, mu_good HR0.out]
                    omega
                · have hle : decide ((wh.size : Int) + ((z.toNat : Int) + 1) ≤ 254) = false := decide_eq_false (by omega)
                  have hle2 : ¬ (wh.size : Int) + ((z.toNat : Int) + 1) ≤ 254 := by omega
                  have HNo := Lib.hid (HRF.out.trans (nameF_no HZ.out hz1 (show 0 < z.toNat by omega) (fun h => by have := h.2.2; rw [htl] at this; exact h254 this)))
                  clear hqd hq hcat htl hwl
                  go_wp2_with (first | (go_at_call 35; refine (HN1.out _ HR.out).mono ?_; rintro e w' ⟨rfl, hR3, hK3⟩; have HR := Lib.hid hR3; have HK := Lib.hid (HK.out.trans hK3); have hd1 := hR3.c1; have hd2 := hR3.c2; have hg1 := hR3.f1; clear hR3 hK3) | (go_at_call 51; refine (HLb.out _ HR.out).mono ?_; rintro e w' ⟨rfl, hR3, hK3⟩; have HR := Lib.hid hR3; have HK := Lib.hid (HK.out.trans hK3); have hd1 := hR3.c1; have hd2 := hR3.c2; have hg1 := hR3.f1; clear hR3 hK3) | (go_at_call 36; refine (check_any _ p a n c l _ _ _ HR.out).mono ?_; rintro e w' ⟨rfl, hR3, hK3⟩; have hR4 : RD w' p a n c l _ true := (by first | exact hR3 | (have hR5 := hR3; simp only [Bool.true_or, Bool.or_true, Bool.false_or, Bool.not_true, Bool.not_false] at hR5; exact hR5)); have HR := Lib.hid hR4; have HK := Lib.hid (HK.out.trans hK3); have hd1 := hR4.c1; have hd2 := hR4.c2; have hg1 := hR4.f1; clear hR3 hK3 hR4))
                  go_roundw
                  case rel => exact ⟨wh ++ (q ++ ⟨#[46]⟩), be, lo, _, true, rfl, rfl, rfl, Lib.hid ⟨HR.out, HK.out, by omega, by omega, by omega, fun _ => HNo.out, fun h => by cases h⟩⟩
                  case measure =>
                    simp only [RowKit.intOf, Int.toNat_natCast]
                    rw [mu_bad HR.out, mu_good HR0.out]
                    omega
            · have HNo := Lib.hid (HRF.out.trans (nameF_no HZ.out hz1 (show 0 < z.toNat by omega) (fun h => by have := h.1; rw [HL.out] at this; exact hfit this)))
              obtain ⟨q, hq⟩ : ∃ q : ByteArray, (⟨#[]⟩ : ByteArray) = q := ⟨_, rfl⟩
              have hqs : q.size = 0 := by rw [← hq]; rfl
              have HLb : Hid (∀ W, RD W p a n c l ((k + 1 : Nat) : Int) false → Calls Tryd.prog 51 #[.pointer (some ⟨p, 0, none⟩), .int .i64 (z.toNat : Int)] W fun e w' => e = .returned (.string q) ∧ RD w' p a n c l ((k + 1 : Nat) : Int) true ∧ Kp p W w') := Lib.hid (fun W hW => by rw [← hq]; exact label_no W p a n c l _ z.toNat false hW (.inr ⟨by omega, by omega, by omega⟩) (by omega))
              have hsz1 : (wh ++ (q ++ ⟨#[46]⟩)).size = wh.size + 1 := by rw [ByteArray.size_append, ByteArray.size_append, hqs]; rfl
              clear hq
              go_wp2_with (first | (go_at_call 35; refine (HN1.out _ HR.out).mono ?_; rintro e w' ⟨rfl, hR3, hK3⟩; have HR := Lib.hid hR3; have HK := Lib.hid (HK.out.trans hK3); have hd1 := hR3.c1; have hd2 := hR3.c2; have hg1 := hR3.f1; clear hR3 hK3) | (go_at_call 51; refine (HLb.out _ HR.out).mono ?_; rintro e w' ⟨rfl, hR3, hK3⟩; have HR := Lib.hid hR3; have HK := Lib.hid (HK.out.trans hK3); have hd1 := hR3.c1; have hd2 := hR3.c2; have hg1 := hR3.f1; clear hR3 hK3) | (go_at_call 36; refine (check_any _ p a n c l _ _ _ HR.out).mono ?_; rintro e w' ⟨rfl, hR3, hK3⟩; have hR4 : RD w' p a n c l _ true := (by first | exact hR3 | (have hR5 := hR3; simp only [Bool.true_or, Bool.or_true, Bool.false_or, Bool.not_true, Bool.not_false] at hR5; exact hR5)); have HR := Lib.hid hR4; have HK := Lib.hid (HK.out.trans hK3); have hd1 := hR4.c1; have hd2 := hR4.c2; have hg1 := hR4.f1; clear hR3 hK3 hR4))
              go_roundw
              case rel => exact ⟨wh ++ (q ++ ⟨#[46]⟩), be, lo, _, true, rfl, rfl, rfl, Lib.hid ⟨HR.out, HK.out, by omega, by omega, by omega, fun _ => HNo.out, fun h => by cases h⟩⟩
              case measure =>
                simp only [RowKit.intOf, Int.toNat_natCast]
                rw [mu_bad HR.out, mu_good HR0.out]
                omega
          · skip
            have hz0 : z.toNat = 0 := by omega
            have hz0i : (z.toNat : Int) = 0 := by omega
            cases hnb : nameB (bare wh.data.toList) with
            | true =>
              obtain ⟨f, rfl⟩ : ∃ g, f = g + 1 := ⟨f - 1, by have := HF.out; omega⟩
              have HRF2 := Lib.hid (HRF.out.trans (nameF_fin HZ.out hz0 hnb))
              have HNO : Hid ((bare wh.data.toList).map low = nameOf wh.data.toList) := Lib.hid (by unfold nameOf; rw [if_pos hnb])
              have HNB := Lib.hid hnb
              clear hnb
              by_cases hb0 : 0 < be
              · have hbp : (0 : Int) < (be : Int) := by omega
                have HB0 := Lib.hid hb0
                clear hb0
                go_wp2_with (first | (go_at_call 35; refine (HN1.out _ HR.out).mono ?_; rintro e w' ⟨rfl, hR3, hK3⟩; have HR := Lib.hid hR3; have HK := Lib.hid (HK.out.trans hK3); have hd1 := hR3.c1; have hd2 := hR3.c2; have hg1 := hR3.f1; clear hR3 hK3) | (go_at_call 52; refine (rclean_is _ p a n c l _ _ wh (by first | exact HR.out | exact HR.out.setAt _) (by omega) (HMx.out _ (by first | exact HK.out | exact HK.out.trans Kp.set))).mono ?_; rintro e w' ⟨rfl, hR3, hK3⟩; have HR3 := Lib.hid hR3; have HK3 := Lib.hid hK3; clear hR3 hK3))
                go_ret
                unfold NameR
                rw [HRF2.out, if_pos HB0.out]
                refine ⟨(HK.out.trans (Kp.set.trans HK3.out)), by rw [HNO.out]; rfl, ?_, by omega⟩
                have := HR3.out
                rw [HNB.out] at this
                exact this
              · have hbp : ¬ (0 : Int) < (be : Int) := by omega
                have HB0 := Lib.hid hb0
                clear hb0
                go_wp2_with (first | (go_at_call 35; refine (HN1.out _ HR.out).mono ?_; rintro e w' ⟨rfl, hR3, hK3⟩; have HR := Lib.hid hR3; have HK := Lib.hid (HK.out.trans hK3); have hd1 := hR3.c1; have hd2 := hR3.c2; have hg1 := hR3.f1; clear hR3 hK3) | (go_at_call 52; refine (rclean_is _ p a n c l _ _ wh (by first | exact HR.out | exact HR.out.setAt _) (by omega) (HMx.out _ (by first | exact HK.out | exact HK.out.trans Kp.set))).mono ?_; rintro e w' ⟨rfl, hR3, hK3⟩; have HR3 := Lib.hid hR3; have HK3 := Lib.hid hK3; clear hR3 hK3))
                go_ret
                unfold NameR
                rw [HRF2.out, if_neg HB0.out]
                refine ⟨(HK.out.trans HK3.out), by rw [HNO.out]; rfl, ?_, by omega⟩
                have := HR3.out
                rw [HNB.out] at this
                exact this
            | false =>
              have HNo := Lib.hid (HRF.out.trans (nameF_bad HZ.out hz0 hnb))
              have HNB := Lib.hid hnb
              clear hnb
              by_cases hb0 : 0 < be
              · have hbp : (0 : Int) < (be : Int) := by omega
                have HB0 := Lib.hid hb0
                clear hb0
                go_wp2_with (first | (go_at_call 35; refine (HN1.out _ HR.out).mono ?_; rintro e w' ⟨rfl, hR3, hK3⟩; have HR := Lib.hid hR3; have HK := Lib.hid (HK.out.trans hK3); have hd1 := hR3.c1; have hd2 := hR3.c2; have hg1 := hR3.f1; clear hR3 hK3) | (go_at_call 52; refine (rclean_is _ p a n c l _ _ wh (by first | exact HR.out | exact HR.out.setAt _) (by omega) (HMx.out _ (by first | exact HK.out | exact HK.out.trans Kp.set))).mono ?_; rintro e w' ⟨rfl, hR3, hK3⟩; have HR3 := Lib.hid hR3; have HK3 := Lib.hid hK3; clear hR3 hK3))
                go_ret
                unfold NameR
                rw [HNo.out]
                exact ⟨(HK.out.trans (Kp.set.trans HK3.out)), ⟨_, by have := HWS.out; show (nameOf wh.data.toList).toArray.size ≤ 1000; simp; omega, rfl⟩, _, (by have := HR3.out; rw [HNB.out] at this; exact this)⟩
              · have hbp : ¬ (0 : Int) < (be : Int) := by omega
                have HB0 := Lib.hid hb0
                clear hb0
                go_wp2_with (first | (go_at_call 35; refine (HN1.out _ HR.out).mono ?_; rintro e w' ⟨rfl, hR3, hK3⟩; have HR := Lib.hid hR3; have HK := Lib.hid (HK.out.trans hK3); have hd1 := hR3.c1; have hd2 := hR3.c2; have hg1 := hR3.f1; clear hR3 hK3) | (go_at_call 52; refine (rclean_is _ p a n c l _ _ wh (by first | exact HR.out | exact HR.out.setAt _) (by omega) (HMx.out _ (by first | exact HK.out | exact HK.out.trans Kp.set))).mono ?_; rintro e w' ⟨rfl, hR3, hK3⟩; have HR3 := Lib.hid hR3; have HK3 := Lib.hid hK3; clear hR3 hK3))
                go_ret
                unfold NameR
                rw [HNo.out]
                exact ⟨(HK.out.trans HK3.out), ⟨_, by have := HWS.out; show (nameOf wh.data.toList).toArray.size ≤ 1000; simp; omega, rfl⟩, _, (by have := HR3.out; rw [HNB.out] at this; exact this)⟩
      · skip
        have HNo := Lib.hid (HRF.out.trans (nameF_end (List.getElem?_eq_none (by rw [HL.out]; omega))))
        have HN1 : Hid (∀ W, RD W p a n c l (k : Int) false → Calls Tryd.prog 35 #[.pointer (some ⟨p, 0, none⟩), .int .i64 1] W fun e w' => e = .returned (.int .i64 0) ∧ RD w' p a n c l (k : Int) true ∧ Kp p W w') := Lib.hid (fun W hW => number_no W p a n c l _ 1 false hW (.inr ⟨by omega, by omega, by omega⟩) (by omega))
        by_cases hb0 : 0 < be
        · have hbp : (0 : Int) < (be : Int) := by omega
          have HB0 := Lib.hid hb0
          clear hb0
          go_wp2_with (first | (go_at_call 35; refine (HN1.out _ HR.out).mono ?_; rintro e w' ⟨rfl, hR3, hK3⟩; have HR := Lib.hid hR3; have HK := Lib.hid (HK.out.trans hK3); have hd1 := hR3.c1; have hd2 := hR3.c2; have hg1 := hR3.f1; clear hR3 hK3) | (go_at_call 52; refine (rclean_is _ p a n c l _ _ wh (by first | exact HR.out | exact HR.out.setAt _) (by omega) (HMx.out _ (by first | exact HK.out | exact HK.out.trans Kp.set))).mono ?_; rintro e w' ⟨rfl, hR3, hK3⟩; have HR3 := Lib.hid hR3; have HK3 := Lib.hid hK3; clear hR3 hK3))
          go_ret
          unfold NameR
          rw [HNo.out]
          exact ⟨(HK.out.trans (Kp.set.trans HK3.out)), ⟨_, by have := HWS.out; show (nameOf wh.data.toList).toArray.size ≤ 1000; simp; omega, rfl⟩, _, (by have := HR3.out; rw [Bool.true_or] at this; exact this)⟩
        · have hbp : ¬ (0 : Int) < (be : Int) := by omega
          have HB0 := Lib.hid hb0
          clear hb0
          go_wp2_with (first | (go_at_call 35; refine (HN1.out _ HR.out).mono ?_; rintro e w' ⟨rfl, hR3, hK3⟩; have HR := Lib.hid hR3; have HK := Lib.hid (HK.out.trans hK3); have hd1 := hR3.c1; have hd2 := hR3.c2; have hg1 := hR3.f1; clear hR3 hK3) | (go_at_call 52; refine (rclean_is _ p a n c l _ _ wh (by first | exact HR.out | exact HR.out.setAt _) (by omega) (HMx.out _ (by first | exact HK.out | exact HK.out.trans Kp.set))).mono ?_; rintro e w' ⟨rfl, hR3, hK3⟩; have HR3 := Lib.hid hR3; have HK3 := Lib.hid hK3; clear hR3 hK3))
          go_ret
          unfold NameR
          rw [HNo.out]
          exact ⟨(HK.out.trans HK3.out), ⟨_, by have := HWS.out; show (nameOf wh.data.toList).toArray.size ≤ 1000; simp; omega, rfl⟩, _, (by have := HR3.out; rw [Bool.true_or] at this; exact this)⟩
end Go.Proofs.YtepfeekfglpjoaaDoor

namespace Go.Wi
/-- What is read where the reader is, or that nothing is: the state behind. -/
def StB (w' : World) (p : Nat) (a : Option Addr) (n c : Nat) (l : List UInt8) : Prop := ∃ i', RD w' p a n c l i' true
/-- A name, a type, a class. -/
def subjW (l : List UInt8) (i : Nat) : Option (List UInt8 × Nat × Nat) :=
  match nameW l i with
  | none => none
  | some (m, j) => if j + 4 ≤ l.length ∧ numV (tk l j 2) ≠ 0 ∧ numV (tk l (j + 2) 2) = 1 then some (m, numV (tk l j 2), j + 4) else none
end Go.Wi
namespace Go.Proofs.YtepfeekfglpjoaaDoor
open Go.RowKit Go.Lib Go.Wi Go.Tx
/-- number at a reader, whatever its state. -/
theorem number_any (w : World) (p : Nat) (a : Option Addr) (n c : Nat) (l : List UInt8) (i : Int) (s : Nat) (bad : Bool) (h : RD w p a n c l i bad) (hg : bad = false → ∃ k : Nat, i = k ∧ k ≤ n) (hs : s ≤ 4) :
    Calls Tryd.prog 35 #[.pointer (some ⟨p, 0, none⟩), .int .i64 (s : Int)] w fun e w' => Kp p w w' ∧ ∃ v : Nat, v < 256 ^ 4 ∧ e = .returned (.int .i64 (v : Int)) ∧ ((bad = false ∧ ∃ k : Nat, i = k ∧ k + s ≤ n ∧ v = numV (tk l k s) ∧ RD w' p a n c l ((k + s : Nat) : Int) false) ∨ ((bad = true ∨ ∃ k : Nat, i = k ∧ n < k + s) ∧ StB w' p a n c l)) := by
  cases bad with
  | true =>
    refine (number_no w p a n c l i s true h (.inl rfl) hs).mono ?_
    rintro e w' ⟨rfl, hR, hK⟩
    exact ⟨hK, 0, by decide, rfl, .inr ⟨.inl rfl, _, hR⟩⟩
  | false =>
    obtain ⟨k, rfl, hk⟩ := hg rfl
    by_cases hks : k + s ≤ n
    · refine (number_ok w p a n c l k s h hks hs).mono ?_
      rintro e w' ⟨rfl, hR, hK⟩
      have h1 := numV_lt (tk l k s)
      have h2 : 256 ^ (tk l k s).length ≤ 256 ^ 4 := Nat.pow_le_pow_right (by omega) (by unfold tk; rw [List.length_take]; omega)
      exact ⟨hK, _, by omega, rfl, .inl ⟨rfl, k, rfl, hks, rfl, hR⟩⟩
    · refine (number_no w p a n c l k s false h (.inr ⟨by omega, by omega, by omega⟩) hs).mono ?_
      rintro e w' ⟨rfl, hR, hK⟩
      exact ⟨hK, 0, by decide, rfl, .inr ⟨.inr ⟨k, rfl, by omega⟩, _, hR⟩⟩
def SubjR (w : World) (p : Nat) (a : Option Addr) (n c : Nat) (l : List UInt8) (R : Option (List UInt8 × Nat × Nat)) (e : Ending) (w' : World) : Prop :=
  Kp p w w' ∧ match R with
    | some (m, t, j) => e = .returned (.tuple #[.string ⟨m.toArray⟩, .int .i64 (t : Int)]) ∧ RD w' p a n c l (j : Int) false ∧ j ≤ n ∧ t < 65536
    | none => (∃ (m : ByteArray) (t : Nat), m.size ≤ 1000 ∧ t < 65536 ∧ e = .returned (.tuple #[.string m, .int .i64 (t : Int)])) ∧ StB w' p a n c l
theorem numV_two (l : List UInt8) (i : Nat) : numV (tk l i 2) < 65536 := by
  have h1 := numV_lt (tk l i 2)
  have h2 : 256 ^ (tk l i 2).length ≤ 256 ^ 2 := Nat.pow_le_pow_right (by omega) (by unfold tk; rw [List.length_take]; omega)
  omega
theorem nameF_len (l : List UInt8) : ∀ (f lo i : Nat) (wh : List UInt8) (be : Nat) (m : List UInt8) (j : Nat), nameF l f lo i wh be = some (m, j) → wh.length ≤ 254 → m.length ≤ 254
  | 0, _, _, _, _, _, _, h, _ => by cases h
  | f + 1, lo, i, wh, be, m, j, h, hw => by
    unfold nameF at h
    split at h
    · cases h
    · split at h
      · split at h
        · cases h
        · split at h
          · exact nameF_len l f _ _ _ _ _ _ h hw
          · cases h
      · split at h
        · split at h
          · rename_i hc
            exact nameF_len l f _ _ _ _ _ _ h hc.2.2
          · cases h
        · split at h
          · cases h
            rw [List.length_map]
            exact Nat.le_trans (bare_len _) hw
          · cases h
theorem nameF_le (l : List UInt8) : ∀ (f lo i : Nat) (wh : List UInt8) (be : Nat) (m : List UInt8) (j : Nat), nameF l f lo i wh be = some (m, j) → be ≤ l.length → j ≤ l.length
  | 0, _, _, _, _, _, _, h, _ => by cases h
  | f + 1, lo, i, wh, be, m, j, h, hb => by
    unfold nameF at h
    split at h
    · cases h
    · rename_i z hz
      have hi := (List.getElem?_eq_some_iff.1 hz).1
      split at h
      · split at h
        · cases h
        · rename_i y hy
          have hi2 := (List.getElem?_eq_some_iff.1 hy).1
          split at h
          · refine nameF_le l f _ _ _ _ _ _ h ?_
            split <;> omega
          · cases h
      · split at h
        · split at h
          · exact nameF_le l f _ _ _ _ _ _ h hb
          · cases h
        · split at h
          · cases h
            split <;> omega
          · cases h
set_option maxHeartbeats 2000000 in
set_option maxRecDepth 100000 in
theorem subject_any (w : World) (p : Nat) (a : Option Addr) (n c : Nat) (l : List UInt8) (i : Int) (bad : Bool) (R : Option (List UInt8 × Nat × Nat)) (h : RD w p a n c l i bad) (hn : n ≤ 4096) (hR : bad = true → R = none) (hgo : bad = false → ∃ k : Nat, i = k ∧ k ≤ n ∧ R = subjW l k) (hm : MaxAt w) (hp0 : p ≠ 0) :
    Calls Tryd.prog 38 #[.pointer (some ⟨p, 0, none⟩)] w (SubjR w p a n c l R) := by
  have hl : l.length = n := h.ba.len
  have hnum : ∀ (W : World) (i : Int), RD W p a n c l i true → Calls Tryd.prog 35 #[.pointer (some ⟨p, 0, none⟩), .int .i64 2] W fun e w' => e = .returned (.int .i64 0) ∧ RD w' p a n c l i true ∧ Kp p W w' := fun W i hW => number_no W p a n c l i 2 true hW (.inl rfl) (by omega)
  have HNB := Lib.hid hnum
  clear hnum
  obtain ⟨Q, hQ⟩ : ∃ Q : Option (List UInt8 × Nat), (bad = true → Q = none) ∧ (bad = false → ∃ k : Nat, i = k ∧ k ≤ n ∧ Q = nameW l k) ∧ R = (match Q with
      | none => none
      | some (m, j) => if j + 4 ≤ n ∧ numV (tk l j 2) ≠ 0 ∧ numV (tk l (j + 2) 2) = 1 then some (m, numV (tk l j 2), j + 4) else none) := by
    cases bad with
    | true => exact ⟨none, fun _ => rfl, fun h => by (cases h), hR rfl⟩
    | false =>
      obtain ⟨k, e1, e2, e3⟩ := hgo rfl
      refine ⟨nameW l k, fun h => by (cases h), fun _ => ⟨k, e1, e2, rfl⟩, ?_⟩
      rw [e3]
      unfold subjW
      rw [hl]
  obtain ⟨hQ1, hQ2, hRQ⟩ := hQ
  have HNm := Lib.hid (name_any w p a n c l i bad Q h hn hQ1 hQ2 hm hp0)
  have hml : ∀ m j, Q = some (m, j) → m.length ≤ 254 := fun m j hq => by
    cases bad with
    | true => rw [hQ1 rfl] at hq; cases hq
    | false =>
      obtain ⟨k, _, _, e3⟩ := hQ2 rfl
      rw [e3] at hq
      exact nameF_len l _ _ _ _ _ _ _ hq (Nat.zero_le _)
  have hjl : ∀ m j, Q = some (m, j) → j ≤ n := fun m j hq => by
    cases bad with
    | true => rw [hQ1 rfl] at hq; cases hq
    | false =>
      obtain ⟨k, _, _, e3⟩ := hQ2 rfl
      rw [e3] at hq
      have := nameF_le l _ _ _ _ _ _ _ hq (Nat.zero_le _)
      omega
  clear h hR hgo hm hQ1 hQ2
  cases Q with
  | none =>
    have HRN : Hid (R = none) := Lib.hid hRQ
    clear hRQ hml hjl
    go_enter Tryd.func38, Tryd.ntmps38
    go_wp2_with (first | (go_at_call 46; refine HNm.out.mono ?_; rintro e w' ⟨hK3, ⟨m, hm1, rfl⟩, i3, hR3⟩; have HK := Lib.hid hK3; have HR := Lib.hid hR3; clear hK3 hR3) | (go_at_call 35; refine (HNB.out _ _ HR.out).mono ?_; rintro e w' ⟨rfl, hR3, hK3⟩; have HR := Lib.hid hR3; have HK := Lib.hid (HK.out.trans hK3); clear hR3 hK3) | (go_at_call 36; refine (check_any _ p a n c l _ _ _ HR.out).mono ?_; rintro e w' ⟨rfl, hR3, hK3⟩; have hR4 : RD w' p a n c l _ true := (by first | exact hR3 | (have hR5 := hR3; simp only [Bool.true_or, Bool.or_true, Bool.false_or, Bool.not_true, Bool.not_false] at hR5; exact hR5)); have HR := Lib.hid hR4; have HK := Lib.hid (HK.out.trans hK3); clear hR3 hK3 hR4))
    go_ret2
    unfold SubjR
    rw [HRN.out]
    exact ⟨HK.out, ⟨_, 0, by first | exact hm1 | exact Nat.le_trans hqs (by decide), by first | decide | exact ht2, rfl⟩, _, HR.out⟩
  | some q =>
    obtain ⟨m0, j⟩ := q
    have hm1 := hml m0 j rfl
    simp only at hRQ
    unfold NameR at HNm
    obtain ⟨q, hq⟩ : ∃ q : ByteArray, (⟨m0.toArray⟩ : ByteArray) = q := ⟨_, rfl⟩
    have hqs : q.size ≤ 254 := by rw [← hq]; show m0.toArray.size ≤ 254; simpa using hm1

    have HQ := Lib.hid hq
    simp only [hq] at HNm
    have ht2 := numV_two l j
    clear hml hm1 hq
    have HJN : Hid (j ≤ n) := Lib.hid (hjl m0 j rfl)
    clear hjl
    by_cases hj2 : j + 2 ≤ n
    · obtain ⟨t, ht⟩ : ∃ t, numV (tk l j 2) = t := ⟨_, rfl⟩
      have hN1 : ∀ W, RD W p a n c l (j : Int) false → Calls Tryd.prog 35 #[.pointer (some ⟨p, 0, none⟩), .int .i64 2] W fun e w' => e = .returned (.int .i64 (t : Int)) ∧ RD w' p a n c l ((j + 2 : Nat) : Int) false ∧ Kp p W w' := fun W hW => by rw [← ht]; exact number_ok W p a n c l j 2 hW hj2 (by omega)
      have HN1 := Lib.hid hN1
      rw [ht] at hRQ ht2
      clear hN1 ht
      by_cases ht0 : t = 0
      · have e0 : ((t : Int) != 0) = false := by rw [ht0]; rfl
        have HRN : Hid (R = none) := Lib.hid (by rw [hRQ, if_neg (fun h => h.2.1 ht0)])
        clear hRQ ht0
        go_enter Tryd.func38, Tryd.ntmps38
        go_wp2_with (first | (go_at_call 46; refine HNm.out.mono ?_; rintro e w' ⟨hK3, rfl, hR3, hj⟩; have HK := Lib.hid hK3; have HR := Lib.hid hR3; clear hK3 hR3 hj) | (go_at_call 35; refine (HN1.out _ HR.out).mono ?_; rintro e w' ⟨rfl, hR3, hK3⟩; have HR := Lib.hid hR3; have HK := Lib.hid (HK.out.trans hK3); clear hR3 hK3) | (go_at_call 35; refine (HNB.out _ _ HR.out).mono ?_; rintro e w' ⟨rfl, hR3, hK3⟩; have HR := Lib.hid hR3; have HK := Lib.hid (HK.out.trans hK3); clear hR3 hK3) | (go_at_call 36; refine (check_any _ p a n c l _ _ _ HR.out).mono ?_; rintro e w' ⟨rfl, hR3, hK3⟩; have hR4 : RD w' p a n c l _ true := (by first | exact hR3 | (have hR5 := hR3; simp only [Bool.true_or, Bool.or_true, Bool.false_or, Bool.not_true, Bool.not_false] at hR5; exact hR5)); have HR := Lib.hid hR4; have HK := Lib.hid (HK.out.trans hK3); clear hR3 hK3 hR4))
        go_ret2
        unfold SubjR
        rw [HRN.out]
        exact ⟨HK.out, ⟨_, t, by first | exact hm1 | exact Nat.le_trans hqs (by decide), by first | decide | exact ht2, rfl⟩, _, HR.out⟩
      · have e0 : ((t : Int) != 0) = true := by rw [bne_iff_ne]; omega
        by_cases hj4 : j + 4 ≤ n
        · obtain ⟨v, hv⟩ : ∃ v, numV (tk l (j + 2) 2) = v := ⟨_, rfl⟩
          have hN2 : ∀ W, RD W p a n c l ((j + 2 : Nat) : Int) false → Calls Tryd.prog 35 #[.pointer (some ⟨p, 0, none⟩), .int .i64 2] W fun e w' => e = .returned (.int .i64 (v : Int)) ∧ RD w' p a n c l ((j + 4 : Nat) : Int) false ∧ Kp p W w' := fun W hW => by rw [← hv]; exact number_ok W p a n c l (j + 2) 2 hW (by omega) (by omega)
          have HN2 := Lib.hid hN2
          rw [hv] at hRQ
          clear hN2 hv
          by_cases hv1 : v = 1
          · have e1 : ((v : Int) == 1) = true := by rw [hv1]; rfl
            have HRS : Hid (R = some (m0, t, j + 4)) := Lib.hid (by rw [hRQ, if_pos ⟨hj4, ht0, hv1⟩])
            clear hRQ ht0 hv1
            go_enter Tryd.func38, Tryd.ntmps38
            go_wp2_with (first | (go_at_call 46; refine HNm.out.mono ?_; rintro e w' ⟨hK3, rfl, hR3, hj⟩; have HK := Lib.hid hK3; have HR := Lib.hid hR3; clear hK3 hR3 hj) | (go_at_call 35; refine (HN1.out _ HR.out).mono ?_; rintro e w' ⟨rfl, hR3, hK3⟩; have HR := Lib.hid hR3; have HK := Lib.hid (HK.out.trans hK3); clear hR3 hK3) | (go_at_call 35; refine (HN2.out _ HR.out).mono ?_; rintro e w' ⟨rfl, hR3, hK3⟩; have HR := Lib.hid hR3; have HK := Lib.hid (HK.out.trans hK3); clear hR3 hK3) | (go_at_call 36; refine (check_any _ p a n c l _ _ _ HR.out).mono ?_; rintro e w' ⟨rfl, hR3, hK3⟩; have hR4 : RD w' p a n c l _ false := (by first | exact hR3 | (have hR5 := hR3; simp only [Bool.true_or, Bool.or_true, Bool.false_or, Bool.not_true, Bool.not_false] at hR5; exact hR5)); have HR := Lib.hid hR4; have HK := Lib.hid (HK.out.trans hK3); clear hR3 hK3 hR4))
            go_ret2
            unfold SubjR
            rw [HRS.out]
            exact ⟨HK.out, by rw [← HQ.out]; rfl, HR.out, hj4, ht2⟩
          · have e1 : ((v : Int) == 1) = false := by rw [beq_eq_false_iff_ne]; omega
            have HRN : Hid (R = none) := Lib.hid (by rw [hRQ, if_neg (fun h => hv1 h.2.2)])
            clear hRQ ht0 hv1
            go_enter Tryd.func38, Tryd.ntmps38
            go_wp2_with (first | (go_at_call 46; refine HNm.out.mono ?_; rintro e w' ⟨hK3, rfl, hR3, hj⟩; have HK := Lib.hid hK3; have HR := Lib.hid hR3; clear hK3 hR3 hj) | (go_at_call 35; refine (HN1.out _ HR.out).mono ?_; rintro e w' ⟨rfl, hR3, hK3⟩; have HR := Lib.hid hR3; have HK := Lib.hid (HK.out.trans hK3); clear hR3 hK3) | (go_at_call 35; refine (HN2.out _ HR.out).mono ?_; rintro e w' ⟨rfl, hR3, hK3⟩; have HR := Lib.hid hR3; have HK := Lib.hid (HK.out.trans hK3); clear hR3 hK3) | (go_at_call 36; refine (check_any _ p a n c l _ _ _ HR.out).mono ?_; rintro e w' ⟨rfl, hR3, hK3⟩; have hR4 : RD w' p a n c l _ false := (by first | exact hR3 | (have hR5 := hR3; simp only [Bool.or_true, Bool.not_false] at hR5; exact hR5)); have HR := Lib.hid hR4; have HK := Lib.hid (HK.out.trans hK3); clear hR3 hK3 hR4) | (go_at_call 36; refine (check_any _ p a n c l _ _ _ HR.out).mono ?_; rintro e w' ⟨rfl, hR3, hK3⟩; have hR4 : RD w' p a n c l _ true := (by first | exact hR3 | (have hR5 := hR3; simp only [Bool.true_or, Bool.or_true, Bool.false_or, Bool.not_true, Bool.not_false] at hR5; exact hR5)); have HR := Lib.hid hR4; have HK := Lib.hid (HK.out.trans hK3); clear hR3 hK3 hR4))
            go_ret2
            unfold SubjR
            rw [HRN.out]
            exact ⟨HK.out, ⟨_, t, by first | exact hm1 | exact Nat.le_trans hqs (by decide), by first | decide | exact ht2, rfl⟩, _, HR.out⟩
        · have hN2 : ∀ W, RD W p a n c l ((j + 2 : Nat) : Int) false → Calls Tryd.prog 35 #[.pointer (some ⟨p, 0, none⟩), .int .i64 2] W fun e w' => e = .returned (.int .i64 0) ∧ RD w' p a n c l ((j + 2 : Nat) : Int) true ∧ Kp p W w' := fun W hW => number_no W p a n c l _ 2 false hW (.inr ⟨by omega, by omega, by omega⟩) (by omega)
          have HN2 := Lib.hid hN2
          have HRN : Hid (R = none) := Lib.hid (by rw [hRQ, if_neg (fun h => hj4 h.1)])
          clear hRQ ht0 hN2
          go_enter Tryd.func38, Tryd.ntmps38
          go_wp2_with (first | (go_at_call 46; refine HNm.out.mono ?_; rintro e w' ⟨hK3, rfl, hR3, hj⟩; have HK := Lib.hid hK3; have HR := Lib.hid hR3; clear hK3 hR3 hj) | (go_at_call 35; refine (HN1.out _ HR.out).mono ?_; rintro e w' ⟨rfl, hR3, hK3⟩; have HR := Lib.hid hR3; have HK := Lib.hid (HK.out.trans hK3); clear hR3 hK3) | (go_at_call 35; refine (HN2.out _ HR.out).mono ?_; rintro e w' ⟨rfl, hR3, hK3⟩; have HR := Lib.hid hR3; have HK := Lib.hid (HK.out.trans hK3); clear hR3 hK3) | (go_at_call 36; refine (check_any _ p a n c l _ _ _ HR.out).mono ?_; rintro e w' ⟨rfl, hR3, hK3⟩; have hR4 : RD w' p a n c l _ false := (by first | exact hR3 | (have hR5 := hR3; simp only [Bool.or_true, Bool.not_false] at hR5; exact hR5)); have HR := Lib.hid hR4; have HK := Lib.hid (HK.out.trans hK3); clear hR3 hK3 hR4) | (go_at_call 36; refine (check_any _ p a n c l _ _ _ HR.out).mono ?_; rintro e w' ⟨rfl, hR3, hK3⟩; have hR4 : RD w' p a n c l _ true := (by first | exact hR3 | (have hR5 := hR3; simp only [Bool.true_or, Bool.or_true, Bool.false_or, Bool.not_true, Bool.not_false] at hR5; exact hR5)); have HR := Lib.hid hR4; have HK := Lib.hid (HK.out.trans hK3); clear hR3 hK3 hR4))
          go_ret2
          unfold SubjR
          rw [HRN.out]
          exact ⟨HK.out, ⟨_, t, by first | exact hm1 | exact Nat.le_trans hqs (by decide), by first | decide | exact ht2, rfl⟩, _, HR.out⟩
    · have HRN : Hid (R = none) := Lib.hid (by rw [hRQ, if_neg (fun h => hj2 (by omega))])
      have hN1 : ∀ W, RD W p a n c l (j : Int) false → Calls Tryd.prog 35 #[.pointer (some ⟨p, 0, none⟩), .int .i64 2] W fun e w' => e = .returned (.int .i64 0) ∧ RD w' p a n c l (j : Int) true ∧ Kp p W w' := fun W hW => number_no W p a n c l _ 2 false hW (.inr ⟨by omega, by omega, by have := HJN.out; omega⟩) (by omega)
      have HN1 := Lib.hid hN1
      clear hRQ hN1
      go_enter Tryd.func38, Tryd.ntmps38
      go_wp2_with (first | (go_at_call 46; refine HNm.out.mono ?_; rintro e w' ⟨hK3, rfl, hR3, hj⟩; have HK := Lib.hid hK3; have HR := Lib.hid hR3; clear hK3 hR3 hj) | (go_at_call 35; refine (HN1.out _ HR.out).mono ?_; rintro e w' ⟨rfl, hR3, hK3⟩; have HR := Lib.hid hR3; have HK := Lib.hid (HK.out.trans hK3); clear hR3 hK3) | (go_at_call 35; refine (HNB.out _ _ HR.out).mono ?_; rintro e w' ⟨rfl, hR3, hK3⟩; have HR := Lib.hid hR3; have HK := Lib.hid (HK.out.trans hK3); clear hR3 hK3) | (go_at_call 36; refine (check_any _ p a n c l _ _ _ HR.out).mono ?_; rintro e w' ⟨rfl, hR3, hK3⟩; have hR4 : RD w' p a n c l _ true := (by first | exact hR3 | (have hR5 := hR3; simp only [Bool.true_or, Bool.or_true, Bool.false_or, Bool.not_true, Bool.not_false] at hR5; exact hR5)); have HR := Lib.hid hR4; have HK := Lib.hid (HK.out.trans hK3); clear hR3 hK3 hR4))
      go_ret2
      unfold SubjR
      rw [HRN.out]
      exact ⟨HK.out, ⟨_, 0, by first | exact hm1 | exact Nat.le_trans hqs (by decide), by first | decide | exact ht2, rfl⟩, _, HR.out⟩

end Go.Proofs.YtepfeekfglpjoaaDoor

namespace Go.Wi
/-- The data of a record of a type. -/
def dataW (l : List UInt8) (k : Int) (i : Nat) : Option (List UInt8 × Nat) :=
  if i + 2 ≤ l.length then
    (if k = 12 then (match nameW l (i + 2) with
      | none => none
      | some (m, j) => if j = i + 2 + numV (tk l i 2) then some (m, j) else none)
    else if i + 2 + numV (tk l i 2) ≤ l.length ∧ Go.Proofs.YtepfeekfglpjoaaDoor.fitsB k (tk l (i + 2) (numV (tk l i 2))) = true then some (tk l (i + 2) (numV (tk l i 2)), i + 2 + numV (tk l i 2)) else none)
  else none
end Go.Wi
namespace Go.Proofs.YtepfeekfglpjoaaDoor
open Go.RowKit Go.Lib Go.Wi Go.Tx
def DataR (w : World) (p : Nat) (a : Option Addr) (n c : Nat) (l : List UInt8) (R : Option (List UInt8 × Nat)) (e : Ending) (w' : World) : Prop :=
  Kp p w w' ∧ match R with
    | some (m, j) => e = .returned (.string ⟨m.toArray⟩) ∧ RD w' p a n c l (j : Int) false ∧ j ≤ n
    | none => (∃ m : ByteArray, m.size ≤ 100000 ∧ e = .returned (.string m)) ∧ StB w' p a n c l
theorem conv_none : ∃ q : ByteArray, q.size = 0 ∧ ∀ W : World, (convert 29 9 (.slice none 0 0)).run Tryd.prog W = .ok (.string q) W :=
  ⟨⟨#[]⟩, rfl, fun W => by
    rw [run_convert_bytes_string W 29 9 5 none 0 0 Tryd.underlying29 Tryd.underlying5 Tryd.underlying9]
    rfl⟩
set_option maxHeartbeats 2000000 in
set_option maxRecDepth 100000 in
theorem data_any (w : World) (p : Nat) (a : Option Addr) (n c : Nat) (l : List UInt8) (k : Nat) (i : Int) (bad : Bool) (R : Option (List UInt8 × Nat)) (h : RD w p a n c l i bad) (hn : n ≤ 4096) (hR : bad = true → R = none) (hgo : bad = false → ∃ j : Nat, i = j ∧ j ≤ n ∧ R = dataW l k j) (hm : MaxAt w) (hp0 : p ≠ 0) :
    Calls Tryd.prog 47 #[.pointer (some ⟨p, 0, none⟩), .int .i64 (k : Int)] w (DataR w p a n c l R) := by
  have hl : l.length = n := h.ba.len
  have HL := Lib.hid hl
  have hmx : ∀ W, Kp p w W → MaxAt W := fun W hk => by
    obtain ⟨m, hm2⟩ := hm
    have hlt : 0 < w.heap.size := MaxAt.lt ⟨m, hm2⟩
    exact ⟨m, by rw [hk.cell (x := ⟨0, 0, none⟩) hlt (fun e => hp0 e.symm)]; exact hm2⟩
  have HMx := Lib.hid hmx
  have HP0 := Lib.hid hp0
  have HNB : Hid (∀ (W : World) (i : Int), RD W p a n c l i true → Calls Tryd.prog 35 #[.pointer (some ⟨p, 0, none⟩), .int .i64 2] W fun e w' => e = .returned (.int .i64 0) ∧ RD w' p a n c l i true ∧ Kp p W w') := Lib.hid (fun W i hW => number_no W p a n c l i 2 true hW (.inl rfl) (by omega))
  have HNmB : Hid (∀ (W : World) (i : Int), RD W p a n c l i true → Kp p w W → Calls Tryd.prog 46 #[.pointer (some ⟨p, 0, none⟩)] W (NameR W p a n c l none)) := Lib.hid (fun W i hW hk => name_any W p a n c l i true none hW hn (fun _ => rfl) (fun h => by cases h) (hmx W hk) hp0)
  have HTB : Hid (∀ (W : World) (i : Int) (s : Nat), s ≤ 65535 → RD W p a n c l i true → Calls Tryd.prog 37 #[.pointer (some ⟨p, 0, none⟩), .int .i64 (s : Int)] W fun e w' => e = .returned (.slice none 0 0) ∧ RD w' p a n c l i true ∧ Kp p W w') := Lib.hid (fun W i s hs hW => take_no W p a n c l i s true hW (.inl rfl) (by omega))
  have HR := Lib.hid h
  have HK := Lib.hid (Kp.refl p w)
  have hd1 := h.c1
  clear h hm hp0 hl hmx
  cases bad with
  | true =>
    have HRN := Lib.hid (hR rfl)
    clear hgo
    by_cases hk12 : k = 12
    · have ek : ((k : Int) == 12) = true := by rw [hk12]; rfl
      clear hk12
      go_enter Tryd.func47, Tryd.ntmps47
      go_wp2_with (first | (go_at_call 35; refine (HNB.out _ _ HR.out).mono ?_; rintro e w' ⟨rfl, hR3, hK3⟩; have HR := Lib.hid hR3; have HK := Lib.hid (HK.out.trans hK3); have hd1 := hR3.c1; clear hR3 hK3) | (go_at_call 46; refine (HNmB.out _ _ HR.out HK.out).mono ?_; rintro e w' ⟨hK3, ⟨m, hm1, rfl⟩, i3, hR3⟩; have HK := Lib.hid (HK.out.trans hK3); have hd1 := hR3.c1; have HR := Lib.hid hR3; clear hK3 hR3) | (go_at_call 36; refine (check_any _ p a n c l _ _ _ HR.out).mono ?_; rintro e w' ⟨rfl, hR3, hK3⟩; have hR4 : RD w' p a n c l _ true := (by first | exact hR3 | (have hR5 := hR3; simp only [Bool.true_or, Bool.or_true, Bool.false_or, Bool.not_true, Bool.not_false] at hR5; exact hR5)); have HR := Lib.hid hR4; have HK := Lib.hid (HK.out.trans hK3); clear hR3 hK3 hR4))
      go_ret
      unfold DataR
      rw [HRN.out]
      exact ⟨HK.out, ⟨_, by omega, rfl⟩, _, HR.out⟩
    · have ek : ((k : Int) == 12) = false := by rw [beq_eq_false_iff_ne]; omega
      clear hk12
      have HT0 : Hid (∀ (W : World) (i : Int), RD W p a n c l i true → Calls Tryd.prog 37 #[.pointer (some ⟨p, 0, none⟩), .int .i64 0] W fun e w' => e = .returned (.slice none 0 0) ∧ RD w' p a n c l i true ∧ Kp p W w') := Lib.hid (fun W i hW => HTB.out W i 0 (by omega) hW)
      obtain ⟨q, hqz, hstr⟩ := conv_none
      have HF := Lib.hid (fun W => fits_any (k : Int) q W)
      go_enter Tryd.func47, Tryd.ntmps47
      go_wp2_with (first | (go_at_call 35; refine (HNB.out _ _ HR.out).mono ?_; rintro e w' ⟨rfl, hR3, hK3⟩; have HR := Lib.hid hR3; have HK := Lib.hid (HK.out.trans hK3); have hd1 := hR3.c1; clear hR3 hK3) | (go_at_call 37; refine (HT0.out _ _ HR.out).mono ?_; rintro e w' ⟨rfl, hR3, hK3⟩; have HR := Lib.hid hR3; have HK := Lib.hid (HK.out.trans hK3); clear hR3 hK3) | (go_at_call 50; refine (HF.out _).mono ?_; rintro e w' ⟨rfl, rfl⟩) | (go_at_call 36; refine (check_any _ p a n c l _ _ _ HR.out).mono ?_; rintro e w' ⟨rfl, hR3, hK3⟩; have hR4 : RD w' p a n c l _ true := (by first | exact hR3 | (have hR5 := hR3; simp only [Bool.true_or, Bool.or_true, Bool.false_or, Bool.not_true, Bool.not_false] at hR5; exact hR5)); have HR := Lib.hid hR4; have HK := Lib.hid (HK.out.trans hK3); clear hR3 hK3 hR4))
      go_ret
      unfold DataR
      rw [HRN.out]
      exact ⟨HK.out, ⟨_, by omega, rfl⟩, _, HR.out⟩
  | false =>
    obtain ⟨j, rfl, hj, hRj⟩ := hgo rfl
    clear hR
    unfold dataW at hRj
    rw [HL.out] at hRj
    by_cases hj2 : j + 2 ≤ n
    · rw [if_pos hj2] at hRj
      have hsz := numV_two l j
      obtain ⟨s, hs⟩ : ∃ s, numV (tk l j 2) = s := ⟨_, rfl⟩
      have HN1 : Hid (∀ W, RD W p a n c l (j : Int) false → Calls Tryd.prog 35 #[.pointer (some ⟨p, 0, none⟩), .int .i64 2] W fun e w' => e = .returned (.int .i64 (s : Int)) ∧ RD w' p a n c l ((j + 2 : Nat) : Int) false ∧ Kp p W w') := Lib.hid (fun W hW => by rw [← hs]; exact number_ok W p a n c l j 2 hW hj2 (by omega))
      rw [hs] at hRj hsz
      clear hs
      by_cases hk12 : k = 12
      · have ek : ((k : Int) == 12) = true := by rw [hk12]; rfl
        rw [if_pos (show (k : Int) = 12 by omega)] at hRj
        clear hk12
        cases hq0 : nameW l (j + 2) with
        | none =>
          rw [hq0] at hRj
          have HRN : Hid (R = none) := Lib.hid hRj
          have HNm : Hid (∀ W, RD W p a n c l ((j + 2 : Nat) : Int) false → Kp p w W → Calls Tryd.prog 46 #[.pointer (some ⟨p, 0, none⟩)] W (NameR W p a n c l none)) := Lib.hid (fun W hW hk => name_any W p a n c l _ false none hW hn (fun _ => rfl) (fun _ => ⟨j + 2, rfl, hj2, hq0.symm⟩) (HMx.out W hk) HP0.out)
          clear hRj hq0
          go_enter Tryd.func47, Tryd.ntmps47
          go_wp2_with (first | (go_at_call 35; refine (HN1.out _ HR.out).mono ?_; rintro e w' ⟨rfl, hR3, hK3⟩; have HR := Lib.hid hR3; have HK := Lib.hid (HK.out.trans hK3); have hd1 := hR3.c1; clear hR3 hK3) | (go_at_call 46; refine (HNm.out _ HR.out HK.out).mono ?_; rintro e w' ⟨hK3, ⟨m, hm1, rfl⟩, i3, hR3⟩; have HK := Lib.hid (HK.out.trans hK3); have hd1 := hR3.c1; have HR := Lib.hid hR3; clear hK3 hR3) | (go_at_call 36; refine (check_any _ p a n c l _ _ _ HR.out).mono ?_; rintro e w' ⟨rfl, hR3, hK3⟩; have hR4 : RD w' p a n c l _ true := (by first | exact hR3 | (have hR5 := hR3; simp only [Bool.true_or, Bool.or_true, Bool.false_or, Bool.not_true, Bool.not_false] at hR5; exact hR5)); have HR := Lib.hid hR4; have HK := Lib.hid (HK.out.trans hK3); clear hR3 hK3 hR4))
          go_ret
          unfold DataR
          rw [HRN.out]
          exact ⟨HK.out, ⟨_, by omega, rfl⟩, _, HR.out⟩
        | some q =>
          obtain ⟨m0, j2⟩ := q
          rw [hq0] at hRj
          simp only at hRj
          have HNm : Hid (∀ W, RD W p a n c l ((j + 2 : Nat) : Int) false → Kp p w W → Calls Tryd.prog 46 #[.pointer (some ⟨p, 0, none⟩)] W (NameR W p a n c l (some (m0, j2)))) := Lib.hid (fun W hW hk => name_any W p a n c l _ false _ hW hn (fun h => by cases h) (fun _ => ⟨j + 2, rfl, hj2, hq0.symm⟩) (HMx.out W hk) HP0.out)
          have hm1 := nameF_len l _ _ _ _ _ _ _ hq0 (Nat.zero_le _)
          unfold NameR at HNm
          obtain ⟨q, hq⟩ : ∃ q : ByteArray, (⟨m0.toArray⟩ : ByteArray) = q := ⟨_, rfl⟩
          have hqs : q.size ≤ 254 := by rw [← hq]; show m0.toArray.size ≤ 254; simpa using hm1
          have HQ := Lib.hid hq
          simp only [hq] at HNm
          clear hq0 hm1 hq
          by_cases he : j2 = j + 2 + s
          · have ee : ((j2 : Int) == (j : Int) + 2 + (s : Int)) = true := by rw [he]; simp
            have ee2 : ((j2 : Int) = (j : Int) + 2 + (s : Int)) := by omega
            have HRS : Hid (R = some (m0, j2)) := Lib.hid (by rw [hRj, if_pos he])
            clear hRj he
            go_enter Tryd.func47, Tryd.ntmps47
            go_wp2_with (first | (go_at_call 35; refine (HN1.out _ HR.out).mono ?_; rintro e w' ⟨rfl, hR3, hK3⟩; have HR := Lib.hid hR3; have HK := Lib.hid (HK.out.trans hK3); have hd1 := hR3.c1; clear hR3 hK3) | (go_at_call 46; refine (HNm.out _ HR.out HK.out).mono ?_; rintro e w' ⟨hK3, rfl, hR3, hj⟩; have HK := Lib.hid (HK.out.trans hK3); have hd1 := hR3.c1; have HR := Lib.hid hR3; have HJ := Lib.hid hj; clear hK3 hR3 hj) | (go_at_call 36; refine (check_any _ p a n c l _ _ _ HR.out).mono ?_; rintro e w' ⟨rfl, hR3, hK3⟩; have hR4 : RD w' p a n c l _ false := (by first | exact hR3 | (have hR5 := hR3; simp only [Bool.true_or, Bool.or_true, Bool.false_or, Bool.not_true, Bool.not_false] at hR5; exact hR5)); have HR := Lib.hid hR4; have HK := Lib.hid (HK.out.trans hK3); clear hR3 hK3 hR4))
            go_ret
            unfold DataR
            rw [HRS.out]
            exact ⟨HK.out, by rw [← HQ.out]; rfl, HR.out, HJ.out⟩
          · have ee : ((j2 : Int) == (j : Int) + 2 + (s : Int)) = false := by rw [beq_eq_false_iff_ne]; omega
            have ee2 : ¬ ((j2 : Int) = (j : Int) + 2 + (s : Int)) := by omega
            have HRN : Hid (R = none) := Lib.hid (by rw [hRj, if_neg he])
            clear hRj he
            go_enter Tryd.func47, Tryd.ntmps47
            go_wp2_with (first | (go_at_call 35; refine (HN1.out _ HR.out).mono ?_; rintro e w' ⟨rfl, hR3, hK3⟩; have HR := Lib.hid hR3; have HK := Lib.hid (HK.out.trans hK3); have hd1 := hR3.c1; clear hR3 hK3) | (go_at_call 46; refine (HNm.out _ HR.out HK.out).mono ?_; rintro e w' ⟨hK3, rfl, hR3, hj⟩; have HK := Lib.hid (HK.out.trans hK3); have hd1 := hR3.c1; have HR := Lib.hid hR3; have HJ := Lib.hid hj; clear hK3 hR3 hj) | (go_at_call 36; refine (check_any _ p a n c l _ _ _ HR.out).mono ?_; rintro e w' ⟨rfl, hR3, hK3⟩; have hR4 : RD w' p a n c l _ true := (by first | exact hR3 | (have hR5 := hR3; simp only [Bool.true_or, Bool.or_true, Bool.false_or, Bool.not_true, Bool.not_false] at hR5; exact hR5)); have HR := Lib.hid hR4; have HK := Lib.hid (HK.out.trans hK3); clear hR3 hK3 hR4))
            go_ret
            unfold DataR
            rw [HRN.out]
            exact ⟨HK.out, ⟨_, by omega, rfl⟩, _, HR.out⟩
      · have ek : ((k : Int) == 12) = false := by rw [beq_eq_false_iff_ne]; omega
        rw [if_neg (show ¬ (k : Int) = 12 by omega)] at hRj
        clear hk12
        by_cases hts : j + 2 + s ≤ n
        · obtain ⟨q, hq⟩ : ∃ q : ByteArray, (⟨(tk l (j + 2) s).toArray⟩ : ByteArray) = q := ⟨_, rfl⟩
          have hqd : q.data.toList = tk l (j + 2) s := by rw [← hq]
          have hqs : q.size ≤ 65535 := by
            have e : q.data.toList.length = q.size := rfl
            rw [← e, hqd]
            unfold tk
            rw [List.length_take]
            omega
          have HQ := Lib.hid hq
          have HT : Hid (∀ W, RD W p a n c l ((j + 2 : Nat) : Int) false → Calls Tryd.prog 37 #[.pointer (some ⟨p, 0, none⟩), .int .i64 (s : Int)] W fun e w' => (∃ a' c', e = .returned (.slice a' s c') ∧ Go.Wi.BA w' a' s c' (tk l (j + 2) s) ∧ ∀ x, a' = some x → x.block < w'.heap.size ∧ x.block ≠ p) ∧ RD w' p a n c l ((j + 2 + s : Nat) : Int) false ∧ Kp p W w') := Lib.hid (fun W hW => take_ok W p a n c l (j + 2) s hW hts)
          cases hf : fitsB (k : Int) (tk l (j + 2) s) with
          | true =>
            have HF : Hid (∀ W, Calls Tryd.prog 50 #[.int .i64 (k : Int), .string q] W fun e w' => e = .returned (.bool true) ∧ W = w') := Lib.hid (fun W => by have := fits_any (k : Int) q W; rw [hqd, hf] at this; exact this)
            have HRS : Hid (R = some (tk l (j + 2) s, j + 2 + s)) := Lib.hid (by rw [hRj, if_pos ⟨hts, hf⟩])
            clear hRj hf hqd hq
            go_enter Tryd.func47, Tryd.ntmps47
            go_wp2_with (first | (go_at_call 35; refine (HN1.out _ HR.out).mono ?_; rintro e w' ⟨rfl, hR3, hK3⟩; have HR := Lib.hid hR3; have HK := Lib.hid (HK.out.trans hK3); have hd1 := hR3.c1; clear hR3 hK3) | (go_at_call 37; refine (HT.out _ HR.out).mono ?_; rintro e w' ⟨⟨a', c', rfl, hba, hap⟩, hR3, hK3⟩; have hstr := BA.str hba; rw [HQ.out] at hstr; have HR := Lib.hid hR3; have HK := Lib.hid (HK.out.trans hK3); clear hba hap hR3 hK3) | (go_at_call 50; refine (HF.out _).mono ?_; rintro e w' ⟨rfl, rfl⟩) | (go_at_call 36; refine (check_any _ p a n c l _ _ _ HR.out).mono ?_; rintro e w' ⟨rfl, hR3, hK3⟩; have hR4 : RD w' p a n c l _ false := (by first | exact hR3 | (have hR5 := hR3; simp only [Bool.true_or, Bool.or_true, Bool.false_or, Bool.not_true, Bool.not_false] at hR5; exact hR5)); have HR := Lib.hid hR4; have HK := Lib.hid (HK.out.trans hK3); clear hR3 hK3 hR4))
            go_ret
            unfold DataR
            rw [HRS.out]
            exact ⟨HK.out, by rw [← HQ.out]; rfl, HR.out, hts⟩
          | false =>
            have HF : Hid (∀ W, Calls Tryd.prog 50 #[.int .i64 (k : Int), .string q] W fun e w' => e = .returned (.bool false) ∧ W = w') := Lib.hid (fun W => by have := fits_any (k : Int) q W; rw [hqd, hf] at this; exact this)
            have HRN : Hid (R = none) := Lib.hid (by rw [hRj, if_neg (fun h => by have := h.2; rw [hf] at this; cases this)])
            clear hRj hf hqd hq
            go_enter Tryd.func47, Tryd.ntmps47
            go_wp2_with (first | (go_at_call 35; refine (HN1.out _ HR.out).mono ?_; rintro e w' ⟨rfl, hR3, hK3⟩; have HR := Lib.hid hR3; have HK := Lib.hid (HK.out.trans hK3); have hd1 := hR3.c1; clear hR3 hK3) | (go_at_call 37; refine (HT.out _ HR.out).mono ?_; rintro e w' ⟨⟨a', c', rfl, hba, hap⟩, hR3, hK3⟩; have hstr := BA.str hba; rw [HQ.out] at hstr; have HR := Lib.hid hR3; have HK := Lib.hid (HK.out.trans hK3); clear hba hap hR3 hK3) | (go_at_call 50; refine (HF.out _).mono ?_; rintro e w' ⟨rfl, rfl⟩) | (go_at_call 36; refine (check_any _ p a n c l _ _ _ HR.out).mono ?_; rintro e w' ⟨rfl, hR3, hK3⟩; have hR4 : RD w' p a n c l _ true := (by first | exact hR3 | (have hR5 := hR3; simp only [Bool.true_or, Bool.or_true, Bool.false_or, Bool.not_true, Bool.not_false] at hR5; exact hR5)); have HR := Lib.hid hR4; have HK := Lib.hid (HK.out.trans hK3); clear hR3 hK3 hR4))
            go_ret
            unfold DataR
            rw [HRN.out]
            exact ⟨HK.out, ⟨_, by omega, rfl⟩, _, HR.out⟩
        · have HRN : Hid (R = none) := Lib.hid (by rw [hRj, if_neg (fun h => hts h.1)])
          have HT : Hid (∀ W, RD W p a n c l ((j + 2 : Nat) : Int) false → Calls Tryd.prog 37 #[.pointer (some ⟨p, 0, none⟩), .int .i64 (s : Int)] W fun e w' => e = .returned (.slice none 0 0) ∧ RD w' p a n c l ((j + 2 : Nat) : Int) true ∧ Kp p W w') := Lib.hid (fun W hW => take_no W p a n c l _ s false hW (.inr ⟨by omega, by omega, by omega⟩) (by omega))
          obtain ⟨q, hqz, hstr⟩ := conv_none
          have HF := Lib.hid (fun W => fits_any (k : Int) q W)
          clear hRj
          go_enter Tryd.func47, Tryd.ntmps47
          go_wp2_with (first | (go_at_call 35; refine (HN1.out _ HR.out).mono ?_; rintro e w' ⟨rfl, hR3, hK3⟩; have HR := Lib.hid hR3; have HK := Lib.hid (HK.out.trans hK3); have hd1 := hR3.c1; clear hR3 hK3) | (go_at_call 37; refine (HT.out _ HR.out).mono ?_; rintro e w' ⟨rfl, hR3, hK3⟩; have HR := Lib.hid hR3; have HK := Lib.hid (HK.out.trans hK3); clear hR3 hK3) | (go_at_call 50; refine (HF.out _).mono ?_; rintro e w' ⟨rfl, rfl⟩) | (go_at_call 36; refine (check_any _ p a n c l _ _ _ HR.out).mono ?_; rintro e w' ⟨rfl, hR3, hK3⟩; have hR4 : RD w' p a n c l _ true := (by first | exact hR3 | (have hR5 := hR3; simp only [Bool.true_or, Bool.or_true, Bool.false_or, Bool.not_true, Bool.not_false] at hR5; exact hR5)); have HR := Lib.hid hR4; have HK := Lib.hid (HK.out.trans hK3); clear hR3 hK3 hR4))
          go_ret
          unfold DataR
          rw [HRN.out]
          exact ⟨HK.out, ⟨_, by omega, rfl⟩, _, HR.out⟩
    · rw [if_neg hj2] at hRj
      have HRN : Hid (R = none) := Lib.hid hRj
      have HN1 : Hid (∀ W, RD W p a n c l (j : Int) false → Calls Tryd.prog 35 #[.pointer (some ⟨p, 0, none⟩), .int .i64 2] W fun e w' => e = .returned (.int .i64 0) ∧ RD w' p a n c l (j : Int) true ∧ Kp p W w') := Lib.hid (fun W hW => number_no W p a n c l _ 2 false hW (.inr ⟨by omega, by omega, by omega⟩) (by omega))
      clear hRj
      by_cases hk12 : k = 12
      · have ek : ((k : Int) == 12) = true := by rw [hk12]; rfl
        clear hk12
        go_enter Tryd.func47, Tryd.ntmps47
        go_wp2_with (first | (go_at_call 35; refine (HN1.out _ HR.out).mono ?_; rintro e w' ⟨rfl, hR3, hK3⟩; have HR := Lib.hid hR3; have HK := Lib.hid (HK.out.trans hK3); have hd1 := hR3.c1; clear hR3 hK3) | (go_at_call 46; refine (HNmB.out _ _ HR.out HK.out).mono ?_; rintro e w' ⟨hK3, ⟨m, hm1, rfl⟩, i3, hR3⟩; have HK := Lib.hid (HK.out.trans hK3); have hd1 := hR3.c1; have HR := Lib.hid hR3; clear hK3 hR3) | (go_at_call 36; refine (check_any _ p a n c l _ _ _ HR.out).mono ?_; rintro e w' ⟨rfl, hR3, hK3⟩; have hR4 : RD w' p a n c l _ true := (by first | exact hR3 | (have hR5 := hR3; simp only [Bool.true_or, Bool.or_true, Bool.false_or, Bool.not_true, Bool.not_false] at hR5; exact hR5)); have HR := Lib.hid hR4; have HK := Lib.hid (HK.out.trans hK3); clear hR3 hK3 hR4))
        go_ret
        unfold DataR
        rw [HRN.out]
        exact ⟨HK.out, ⟨_, by omega, rfl⟩, _, HR.out⟩
      · have ek : ((k : Int) == 12) = false := by rw [beq_eq_false_iff_ne]; omega
        clear hk12
        have HT0 : Hid (∀ (W : World) (i : Int), RD W p a n c l i true → Calls Tryd.prog 37 #[.pointer (some ⟨p, 0, none⟩), .int .i64 0] W fun e w' => e = .returned (.slice none 0 0) ∧ RD w' p a n c l i true ∧ Kp p W w') := Lib.hid (fun W i hW => HTB.out W i 0 (by omega) hW)
        obtain ⟨q, hqz, hstr⟩ := conv_none
        have HF := Lib.hid (fun W => fits_any (k : Int) q W)
        go_enter Tryd.func47, Tryd.ntmps47
        go_wp2_with (first | (go_at_call 35; refine (HN1.out _ HR.out).mono ?_; rintro e w' ⟨rfl, hR3, hK3⟩; have HR := Lib.hid hR3; have HK := Lib.hid (HK.out.trans hK3); have hd1 := hR3.c1; clear hR3 hK3) | (go_at_call 37; refine (HT0.out _ _ HR.out).mono ?_; rintro e w' ⟨rfl, hR3, hK3⟩; have HR := Lib.hid hR3; have HK := Lib.hid (HK.out.trans hK3); clear hR3 hK3) | (go_at_call 50; refine (HF.out _).mono ?_; rintro e w' ⟨rfl, rfl⟩) | (go_at_call 36; refine (check_any _ p a n c l _ _ _ HR.out).mono ?_; rintro e w' ⟨rfl, hR3, hK3⟩; have hR4 : RD w' p a n c l _ true := (by first | exact hR3 | (have hR5 := hR3; simp only [Bool.true_or, Bool.or_true, Bool.false_or, Bool.not_true, Bool.not_false] at hR5; exact hR5)); have HR := Lib.hid hR4; have HK := Lib.hid (HK.out.trans hK3); clear hR3 hK3 hR4))
        go_ret
        unfold DataR
        rw [HRN.out]
        exact ⟨HK.out, ⟨_, by omega, rfl⟩, _, HR.out⟩

end Go.Proofs.YtepfeekfglpjoaaDoor

namespace Go.Wi
/-- A block of the call's own, whatever it holds. -/
structure Rm (w : World) (b n : Nat) : Prop where
  lt : b < w.heap.size
  free : ∀ j, j < n → w.frozen? ⟨b, j, none⟩ = false
  held : ∀ j, j < n → ∃ v, w.cell? ⟨b, j, none⟩ = some v
  blk : ∃ arr e fr, w.heap[b]? = some (.cells arr e fr) ∧ arr.size = n
theorem block_set {w : World} {b k : Nat} {arr : Array Value} {e : TypeId} {fr : Nat × Nat} (h : w.heap[b]? = some (.cells arr e fr)) (v : Value) : (w.setCell ⟨b, k, none⟩ v).heap[b]? = some (.cells (arr.setIfInBounds k v) e fr) := by
  show (w.heap.modify b _)[b]? = _
  rw [Array.getElem?_modify]
  simp [h]
theorem arr4 (arr : Array Value) (h : arr.size = 4) (a b c d : Value) : (((arr.setIfInBounds 0 a).setIfInBounds 1 b).setIfInBounds 2 c).setIfInBounds 3 d = #[a, b, c, d] := by
  obtain ⟨l⟩ := arr
  match l, h with
  | [x0, x1, x2, x3], _ => rfl
theorem Rm.set4 {w : World} {b : Nat} (h : Rm w b 4) (v0 v1 v2 v3 : Value) : ∃ e fr, ((((w.setCell ⟨b, 0, none⟩ v0).setCell ⟨b, 1, none⟩ v1).setCell ⟨b, 2, none⟩ v2).setCell ⟨b, 3, none⟩ v3).heap[b]? = some (.cells #[v0, v1, v2, v3] e fr) := by
  obtain ⟨arr, e, fr, h1, h2⟩ := h.blk
  refine ⟨e, fr, ?_⟩
  rw [block_set (block_set (block_set (block_set h1 v0) v1) v2) v3, arr4 arr h2]
theorem Rm.kp {w w' : World} {p b n : Nat} (h : Rm w b n) (hk : Kp p w w') (hb : b ≠ p) : Rm w' b n :=
  ⟨Nat.lt_of_lt_of_le h.lt hk.size, fun j hj => by rw [World.frozen?_of_block (w := w) (hk.block b h.lt hb)]; exact h.free j hj, fun j hj => by rw [hk.cell (x := ⟨b, j, none⟩) h.lt hb]; exact h.held j hj, by
    obtain ⟨arr, e, fr, h1, h2⟩ := h.blk
    exact ⟨arr, e, fr, by rw [hk.block b h.lt hb]; exact h1, h2⟩⟩
theorem Rm.new (w : World) (arr : Array Value) (e : TypeId) (n : Nat) (h : arr.size = n) : Rm (w.alloc (.cells arr e)) w.heap.size n :=
  ⟨by show w.heap.size < (w.heap.push _).size; simp, fun j hj => World.frozen?_alloc_at arr e _ j rfl, fun j hj => by rw [World.cell?_alloc_new]; exact ⟨arr[j], by simp [h, hj]⟩, arr, e, _, heap_alloc_new w _, h⟩
structure Rec where
  name : List UInt8
  kind : Nat
  ttl : Nat
  data : List UInt8
def Rec.val (r : Rec) : Value := .agg #[.string ⟨r.name.toArray⟩, .int .i64 (r.kind : Int), .int .i64 (r.ttl : Int), .string ⟨r.data.toArray⟩]
/-- A record. -/
def recW (l : List UInt8) (i : Nat) : Option (Rec × Nat) :=
  match subjW l i with
  | none => none
  | some (m, t, j) => if j + 4 ≤ l.length ∧ numV (tk l j 4) ≤ 2147483647 then (match dataW l t (j + 4) with
    | none => none
    | some (d, j2) => some (⟨m, t, numV (tk l j 4), d⟩, j2)) else none
end Go.Wi
namespace Go.Proofs.YtepfeekfglpjoaaDoor
open Go.RowKit Go.Lib Go.Wi Go.Tx
/-- Stores into a block that was not there at the beginning. -/
theorem _root_.Go.Wi.Kp.late {p b : Nat} {w w' : World} (h : Kp p w w') (hb : w.heap.size ≤ b) (k : Nat) (v : Value) : Kp p w (w'.setCell ⟨b, k, none⟩ v) :=
  ⟨h.os, h.tape, h.output, by simpa using h.size, fun i hi hp => by
    show (w'.heap.modify b _)[i]? = _
    rw [Array.getElem?_modify, if_neg (by omega)]
    exact h.block i hi hp⟩
theorem _root_.Go.Wi.RD.late {w : World} {p b : Nat} {a : Option Addr} {n c : Nat} {l : List UInt8} {i : Int} {bad : Bool} (h : RD w p a n c l i bad) (hb : b ≠ p) (ha : ∀ x, a = some x → x.block ≠ b) (k : Nat) (v : Value) : RD (w.setCell ⟨b, k, none⟩ v) p a n c l i bad :=
  have hne : ∀ j, (⟨b, k, none⟩ : Addr) ≠ ⟨p, j, none⟩ := fun j e => by cases e; exact hb rfl
  ⟨by simpa using h.lt, by rw [World.cell?_setCell_other w _ _ _ (hne 0)]; exact h.c0, by rw [World.cell?_setCell_other w _ _ _ (hne 1)]; exact h.c1, by rw [World.cell?_setCell_other w _ _ _ (hne 2)]; exact h.c2,
    by simpa using h.f1, by simpa using h.f2, ⟨h.ba.len, h.ba.cap, h.ba.max, h.ba.none, fun x hx j b' hj => by
      have hbk := add_block x j
      have := ha x hx
      rw [World.cell?_setCell_other w _ _ _ (fun e => by rw [← hbk, ← e] at this; exact this rfl)]
      exact h.ba.cell x hx j b' hj⟩, fun x hx => by simpa using h.apart x hx⟩
def RecR (w : World) (p : Nat) (a : Option Addr) (n c : Nat) (l : List UInt8) (R : Option (Rec × Nat)) (e : Ending) (w' : World) : Prop :=
  Kp p w w' ∧ match R with
    | some (r, j) => e = .returned r.val ∧ RD w' p a n c l (j : Int) false ∧ j ≤ n
    | none => (∃ (m d : ByteArray) (t v : Nat), m.size ≤ 1000 ∧ d.size ≤ 100000 ∧ e = .returned (.agg #[.string m, .int .i64 (t : Int), .int .i64 (v : Int), .string d])) ∧ StB w' p a n c l
set_option maxHeartbeats 2000000 in
set_option maxRecDepth 100000 in
theorem record_any (w : World) (p : Nat) (a : Option Addr) (n c : Nat) (l : List UInt8) (i : Int) (bad : Bool) (R : Option (Rec × Nat)) (h : RD w p a n c l i bad) (hn : n ≤ 4096) (hR : bad = true → R = none) (hgo : bad = false → ∃ j : Nat, i = j ∧ j ≤ n ∧ R = recW l j) (hm : MaxAt w) (hp0 : p ≠ 0) :
    Calls Tryd.prog 39 #[.pointer (some ⟨p, 0, none⟩)] w (RecR w p a n c l R) := by
  have hl : l.length = n := h.ba.len
  have HL := Lib.hid hl
  have hmx : ∀ W, Kp p w W → MaxAt W := fun W hk => by
    obtain ⟨m, hm2⟩ := hm
    have hlt : 0 < w.heap.size := MaxAt.lt ⟨m, hm2⟩
    exact ⟨m, by rw [hk.cell (x := ⟨0, 0, none⟩) hlt (fun e => hp0 e.symm)]; exact hm2⟩
  have HMx := Lib.hid hmx
  have HP0 := Lib.hid hp0
  have hbp : w.heap.size ≠ p := fun e => by have := h.lt; omega
  have HNB : Hid (∀ (W : World) (i : Int), RD W p a n c l i true → Calls Tryd.prog 35 #[.pointer (some ⟨p, 0, none⟩), .int .i64 4] W fun e w' => e = .returned (.int .i64 0) ∧ RD w' p a n c l i true ∧ Kp p W w') := Lib.hid (fun W i hW => number_no W p a n c l i 4 true hW (.inl rfl) (by omega))
  have HDB : Hid (∀ (W : World) (t : Nat) (i : Int), t < 65536 → RD W p a n c l i true → Kp p w W → Calls Tryd.prog 47 #[.pointer (some ⟨p, 0, none⟩), .int .i64 (t : Int)] W (DataR W p a n c l none)) := Lib.hid (fun W t i ht hW hk => data_any W p a n c l t i true none hW hn (fun _ => rfl) (fun h => by cases h) (hmx W hk) hp0)
  obtain ⟨Q, hQ1, hQ2, hRQ⟩ : ∃ Q : Option (List UInt8 × Nat × Nat), (bad = true → Q = none) ∧ (bad = false → ∃ k : Nat, i = k ∧ k ≤ n ∧ Q = subjW l k) ∧ R = (match Q with
      | none => none
      | some (m, t, j) => if j + 4 ≤ n ∧ numV (tk l j 4) ≤ 2147483647 then (match dataW l t (j + 4) with
        | none => none
        | some (d, j2) => some (⟨m, t, numV (tk l j 4), d⟩, j2)) else none) := by
    cases bad with
    | true => exact ⟨none, fun _ => rfl, fun h => by (cases h), hR rfl⟩
    | false =>
      obtain ⟨k, e1, e2, e3⟩ := hgo rfl
      refine ⟨subjW l k, fun h => by (cases h), fun _ => ⟨k, e1, e2, rfl⟩, ?_⟩
      rw [e3]
      unfold recW
      rw [hl]
  have HS : Hid (∀ W, RD W p a n c l i bad → Kp p w W → Calls Tryd.prog 38 #[.pointer (some ⟨p, 0, none⟩)] W (SubjR W p a n c l Q)) := Lib.hid (fun W hW hk => subject_any W p a n c l i bad Q hW hn hQ1 hQ2 (hmx W hk) hp0)
  have HR0 := Lib.hid h
  have hml : ∀ m t j, Q = some (m, t, j) → m.length ≤ 254 := fun m t j hq => by
    cases bad with
    | true => rw [hQ1 rfl] at hq; cases hq
    | false =>
      obtain ⟨k, _, _, e3⟩ := hQ2 rfl
      rw [e3] at hq
      unfold subjW at hq
      split at hq
      · cases hq
      · rename_i m' j' hm'
        split at hq
        · cases hq
          exact nameF_len l _ _ _ _ _ _ _ hm' (Nat.zero_le _)
        · cases hq
  clear h hm hp0 hl hmx hR hgo hQ1 hQ2
  go_enter Tryd.func39, Tryd.ntmps39
  go_upto_region 1 with (fail)
  have HM : Hid (Rm (w.alloc (.cells #[.string ⟨#[]⟩, .int .i64 0, .int .i64 0, .string ⟨#[]⟩] 48)) w.heap.size 4) := Lib.hid (Rm.new w _ _ 4 rfl)
  have hbl : Below w.heap.size w (w.alloc (.cells #[.string ⟨#[]⟩, .int .i64 0, .int .i64 0, .string ⟨#[]⟩] 48)) := (Below.refl _ _).alloc (Nat.le_refl _) _
  have HAP : Hid (∀ x, a = some x → x.block ≠ w.heap.size) := Lib.hid (fun x hx e => by have := (HR0.out.apart x hx).1; omega)
  have HR := Lib.hid (HR0.out.below hbl)
  have HK := Lib.hid (Kp.of (p := p) hbl)
  clear hbl HR0
  generalize (w.alloc (.cells #[.string ⟨#[]⟩, .int .i64 0, .int .i64 0, .string ⟨#[]⟩] 48)) = W1 at *
  cases Q with
  | none =>
    have HRN : Hid (R = none) := Lib.hid hRQ
    clear hRQ hml
    go_wp2_with (first | (go_at_call 38; refine (HS.out _ HR.out HK.out).mono ?_; rintro e w' ⟨hK3, ⟨m, t, hm1, ht1, rfl⟩, i3, hR3⟩; have HR := Lib.hid hR3; have HK := Lib.hid (HK.out.trans hK3); have HM := Lib.hid (HM.out.kp hK3 hbp); clear hR3 hK3) | (go_at_call 35; refine (HNB.out _ _ HR.out).mono ?_; rintro e w' ⟨rfl, hR3, hK3⟩; have HR := Lib.hid hR3; have HK := Lib.hid (HK.out.trans hK3); have HM := Lib.hid (HM.out.kp hK3 hbp); clear hR3 hK3) | (go_at_call 36; refine (check_any _ p a n c l _ _ _ HR.out).mono ?_; rintro e w' ⟨rfl, hR3, hK3⟩; have hR4 : RD w' p a n c l _ true := (by first | exact hR3 | (have hR5 := hR3; simp only [Bool.true_or, Bool.or_true, Bool.false_or, Bool.not_true, Bool.not_false] at hR5; exact hR5)); have HR := Lib.hid hR4; have HK := Lib.hid (HK.out.trans hK3); have HM := Lib.hid (HM.out.kp hK3 hbp); clear hR3 hK3 hR4) | (go_at_call 47; refine (HDB.out _ _ _ (by first | exact ht1 | decide | assumption) HR.out HK.out).mono ?_; rintro e w' ⟨hK3, ⟨d, hd1, rfl⟩, i4, hR3⟩; have HR := Lib.hid hR3; have HK := Lib.hid (HK.out.trans hK3); have HM := Lib.hid (HM.out.kp hK3 hbp); clear hR3 hK3; obtain ⟨u0, hu0⟩ := HM.out.held 0 (by decide); obtain ⟨u1, hu1⟩ := HM.out.held 1 (by decide); obtain ⟨u2, hu2⟩ := HM.out.held 2 (by decide); obtain ⟨u3, hu3⟩ := HM.out.held 3 (by decide); have hv0 := HM.out.free 0 (by decide); have hv1 := HM.out.free 1 (by decide); have hv2 := HM.out.free 2 (by decide); have hv3 := HM.out.free 3 (by decide)))
    obtain ⟨eT, fr, hg⟩ := HM.out.set4 (.string m) (.int .i64 t) (.int .i64 0) (.string d)
    refine bodyPost_ret (results_cell_row rfl _ _ _ _ _ _ _ rfl hg Tryd.underlying48 rfl (by kernel_rfl)) rfl ?_
    have hKe := (((HK.out.late (Nat.le_refl _) 0 (.string m)).late (Nat.le_refl _) 1 (.int .i64 t)).late (Nat.le_refl _) 2 (.int .i64 0)).late (Nat.le_refl _) 3 (.string d)
    have hRe := (((HR.out.late hbp HAP.out 0 (.string m)).late hbp HAP.out 1 (.int .i64 t)).late hbp HAP.out 2 (.int .i64 0)).late hbp HAP.out 3 (.string d)
    unfold RecR
    rw [HRN.out]
    exact ⟨hKe, ⟨_, _, _, _, hm1, hd1, rfl⟩, _, hRe⟩

  | some q =>
    obtain ⟨m0, t, j⟩ := q
    simp only at hRQ
    unfold SubjR at HS
    obtain ⟨q, hq⟩ : ∃ q : ByteArray, (⟨m0.toArray⟩ : ByteArray) = q := ⟨_, rfl⟩
    have HQ := Lib.hid hq
    simp only [hq] at HS
    have hqz : q.size ≤ 1000 := by
      have := hml m0 t j rfl
      rw [← hq]
      show m0.toArray.size ≤ 1000
      simp
      omega
    clear hq hml
    by_cases hj4 : j + 4 ≤ n
    · have hvb := numV_lt (tk l j 4)
      have hvb2 : 256 ^ (tk l j 4).length ≤ 256 ^ 4 := Nat.pow_le_pow_right (by omega) (by unfold tk; rw [List.length_take]; omega)
      obtain ⟨v, hv⟩ : ∃ v, numV (tk l j 4) = v := ⟨_, rfl⟩
      have HN1 : Hid (∀ W, RD W p a n c l (j : Int) false → Calls Tryd.prog 35 #[.pointer (some ⟨p, 0, none⟩), .int .i64 4] W fun e w' => e = .returned (.int .i64 (v : Int)) ∧ RD w' p a n c l ((j + 4 : Nat) : Int) false ∧ Kp p W w') := Lib.hid (fun W hW => by rw [← hv]; exact number_ok W p a n c l j 4 hW hj4 (by omega))
      rw [hv] at hRQ hvb
      have hvB : v < 4294967296 := by omega
      clear hv hvb hvb2
      by_cases hvm : v ≤ 2147483647
      · have hvi : (v : Int) ≤ 2147483647 := by omega
        rw [if_pos ⟨hj4, hvm⟩] at hRQ
        cases hd0 : dataW l t (j + 4) with
        | none =>
          rw [hd0] at hRQ
          have HRN : Hid (R = none) := Lib.hid hRQ
          have HD : Hid (∀ W, RD W p a n c l ((j + 4 : Nat) : Int) false → Kp p w W → Calls Tryd.prog 47 #[.pointer (some ⟨p, 0, none⟩), .int .i64 (t : Int)] W (DataR W p a n c l none)) := Lib.hid (fun W hW hk => data_any W p a n c l t _ false none hW hn (fun _ => rfl) (fun _ => ⟨j + 4, rfl, hj4, hd0.symm⟩) (HMx.out W hk) HP0.out)
          clear hRQ hd0
          go_wp2_with (first | (go_at_call 38; refine (HS.out _ HR.out HK.out).mono ?_; rintro e w' ⟨hK3, rfl, hR3, hj3, ht3⟩; have HR := Lib.hid hR3; have HK := Lib.hid (HK.out.trans hK3); have HM := Lib.hid (HM.out.kp hK3 hbp); clear hR3 hK3 hj3 ht3) | (go_at_call 35; refine (HN1.out _ HR.out).mono ?_; rintro e w' ⟨rfl, hR3, hK3⟩; have HR := Lib.hid hR3; have HK := Lib.hid (HK.out.trans hK3); have HM := Lib.hid (HM.out.kp hK3 hbp); clear hR3 hK3) | (go_at_call 36; refine (check_any _ p a n c l _ _ _ HR.out).mono ?_; rintro e w' ⟨rfl, hR3, hK3⟩; have hR4 : RD w' p a n c l _ false := (by first | exact hR3 | (have hR5 := hR3; simp only [Bool.true_or, Bool.or_true, Bool.false_or, Bool.not_true, Bool.not_false] at hR5; exact hR5)); have HR := Lib.hid hR4; have HK := Lib.hid (HK.out.trans hK3); have HM := Lib.hid (HM.out.kp hK3 hbp); clear hR3 hK3 hR4) | (go_at_call 47; refine (HD.out _ HR.out HK.out).mono ?_; rintro e w' ⟨hK3, ⟨d, hd1, rfl⟩, i4, hR3⟩; have HR := Lib.hid hR3; have HK := Lib.hid (HK.out.trans hK3); have HM := Lib.hid (HM.out.kp hK3 hbp); clear hR3 hK3; obtain ⟨u0, hu0⟩ := HM.out.held 0 (by decide); obtain ⟨u1, hu1⟩ := HM.out.held 1 (by decide); obtain ⟨u2, hu2⟩ := HM.out.held 2 (by decide); obtain ⟨u3, hu3⟩ := HM.out.held 3 (by decide); have hv0 := HM.out.free 0 (by decide); have hv1 := HM.out.free 1 (by decide); have hv2 := HM.out.free 2 (by decide); have hv3 := HM.out.free 3 (by decide)))
          obtain ⟨eT, fr, hg⟩ := HM.out.set4 (.string q) (.int .i64 t) (.int .i64 v) (.string d)
          refine bodyPost_ret (results_cell_row rfl _ _ _ _ _ _ _ rfl hg Tryd.underlying48 rfl (by kernel_rfl)) rfl ?_
          have hKe := (((HK.out.late (Nat.le_refl _) 0 (.string q)).late (Nat.le_refl _) 1 (.int .i64 t)).late (Nat.le_refl _) 2 (.int .i64 v)).late (Nat.le_refl _) 3 (.string d)
          have hRe := (((HR.out.late hbp HAP.out 0 (.string q)).late hbp HAP.out 1 (.int .i64 t)).late hbp HAP.out 2 (.int .i64 v)).late hbp HAP.out 3 (.string d)
          unfold RecR
          rw [HRN.out]
          exact ⟨hKe, ⟨_, _, _, _, hqz, hd1, rfl⟩, _, hRe⟩

        | some q2 =>
          obtain ⟨d0, j2⟩ := q2
          rw [hd0] at hRQ
          have HRS : Hid (R = some (⟨m0, t, v, d0⟩, j2)) := Lib.hid hRQ
          have HD : Hid (∀ W, RD W p a n c l ((j + 4 : Nat) : Int) false → Kp p w W → Calls Tryd.prog 47 #[.pointer (some ⟨p, 0, none⟩), .int .i64 (t : Int)] W (DataR W p a n c l (some (d0, j2)))) := Lib.hid (fun W hW hk => data_any W p a n c l t _ false _ hW hn (fun h => by cases h) (fun _ => ⟨j + 4, rfl, hj4, hd0.symm⟩) (HMx.out W hk) HP0.out)
          unfold DataR at HD
          obtain ⟨d, hd⟩ : ∃ q : ByteArray, (⟨d0.toArray⟩ : ByteArray) = q := ⟨_, rfl⟩
          have HDD := Lib.hid hd
          simp only [hd] at HD
          clear hRQ hd0 hd
          go_wp2_with (first | (go_at_call 38; refine (HS.out _ HR.out HK.out).mono ?_; rintro e w' ⟨hK3, rfl, hR3, hj3, ht3⟩; have HR := Lib.hid hR3; have HK := Lib.hid (HK.out.trans hK3); have HM := Lib.hid (HM.out.kp hK3 hbp); clear hR3 hK3 hj3 ht3) | (go_at_call 35; refine (HN1.out _ HR.out).mono ?_; rintro e w' ⟨rfl, hR3, hK3⟩; have HR := Lib.hid hR3; have HK := Lib.hid (HK.out.trans hK3); have HM := Lib.hid (HM.out.kp hK3 hbp); clear hR3 hK3) | (go_at_call 36; refine (check_any _ p a n c l _ _ _ HR.out).mono ?_; rintro e w' ⟨rfl, hR3, hK3⟩; have hR4 : RD w' p a n c l _ false := (by first | exact hR3 | (have hR5 := hR3; simp only [Bool.true_or, Bool.or_true, Bool.false_or, Bool.not_true, Bool.not_false] at hR5; exact hR5)); have HR := Lib.hid hR4; have HK := Lib.hid (HK.out.trans hK3); have HM := Lib.hid (HM.out.kp hK3 hbp); clear hR3 hK3 hR4) | (go_at_call 47; refine (HD.out _ HR.out HK.out).mono ?_; rintro e w' ⟨hK3, rfl, hR3, hj4⟩; have HR := Lib.hid hR3; have HJ := Lib.hid hj4; have HK := Lib.hid (HK.out.trans hK3); have HM := Lib.hid (HM.out.kp hK3 hbp); clear hR3 hK3 hj4; obtain ⟨u0, hu0⟩ := HM.out.held 0 (by decide); obtain ⟨u1, hu1⟩ := HM.out.held 1 (by decide); obtain ⟨u2, hu2⟩ := HM.out.held 2 (by decide); obtain ⟨u3, hu3⟩ := HM.out.held 3 (by decide); have hv0 := HM.out.free 0 (by decide); have hv1 := HM.out.free 1 (by decide); have hv2 := HM.out.free 2 (by decide); have hv3 := HM.out.free 3 (by decide)))
          obtain ⟨eT, fr, hg⟩ := HM.out.set4 (.string q) (.int .i64 t) (.int .i64 v) (.string d)
          refine bodyPost_ret (results_cell_row rfl _ _ _ _ _ _ _ rfl hg Tryd.underlying48 rfl (by kernel_rfl)) rfl ?_
          have hKe := (((HK.out.late (Nat.le_refl _) 0 (.string q)).late (Nat.le_refl _) 1 (.int .i64 t)).late (Nat.le_refl _) 2 (.int .i64 v)).late (Nat.le_refl _) 3 (.string d)
          have hRe := (((HR.out.late hbp HAP.out 0 (.string q)).late hbp HAP.out 1 (.int .i64 t)).late hbp HAP.out 2 (.int .i64 v)).late hbp HAP.out 3 (.string d)
          unfold RecR
          rw [HRS.out]
          exact ⟨hKe, by unfold Rec.val; rw [HQ.out, HDD.out], hRe, HJ.out⟩

      · have hvi : ¬ (v : Int) ≤ 2147483647 := by omega
        have hvd : decide ((v : Int) ≤ 2147483647) = false := decide_eq_false hvi
        have HRN : Hid (R = none) := Lib.hid (by rw [hRQ, if_neg (fun h => hvm h.2)])
        clear hRQ
        go_wp2_with (first | (go_at_call 38; refine (HS.out _ HR.out HK.out).mono ?_; rintro e w' ⟨hK3, rfl, hR3, hj3, ht3⟩; have HR := Lib.hid hR3; have HK := Lib.hid (HK.out.trans hK3); have HM := Lib.hid (HM.out.kp hK3 hbp); have ht1 := ht3; clear hR3 hK3 hj3 ht3) | (go_at_call 35; refine (HN1.out _ HR.out).mono ?_; rintro e w' ⟨rfl, hR3, hK3⟩; have HR := Lib.hid hR3; have HK := Lib.hid (HK.out.trans hK3); have HM := Lib.hid (HM.out.kp hK3 hbp); clear hR3 hK3) | (go_at_call 36; refine (check_any _ p a n c l _ _ _ HR.out).mono ?_; rintro e w' ⟨rfl, hR3, hK3⟩; have hR4 : RD w' p a n c l _ true := (by first | exact hR3 | (have hR5 := hR3; simp only [Bool.true_or, Bool.or_true, Bool.false_or, Bool.not_true, Bool.not_false] at hR5; exact hR5)); have HR := Lib.hid hR4; have HK := Lib.hid (HK.out.trans hK3); have HM := Lib.hid (HM.out.kp hK3 hbp); clear hR3 hK3 hR4) | (go_at_call 47; refine (HDB.out _ _ _ (by first | exact ht1 | decide | assumption) HR.out HK.out).mono ?_; rintro e w' ⟨hK3, ⟨d, hd1, rfl⟩, i4, hR3⟩; have HR := Lib.hid hR3; have HK := Lib.hid (HK.out.trans hK3); have HM := Lib.hid (HM.out.kp hK3 hbp); clear hR3 hK3; obtain ⟨u0, hu0⟩ := HM.out.held 0 (by decide); obtain ⟨u1, hu1⟩ := HM.out.held 1 (by decide); obtain ⟨u2, hu2⟩ := HM.out.held 2 (by decide); obtain ⟨u3, hu3⟩ := HM.out.held 3 (by decide); have hv0 := HM.out.free 0 (by decide); have hv1 := HM.out.free 1 (by decide); have hv2 := HM.out.free 2 (by decide); have hv3 := HM.out.free 3 (by decide)))
        obtain ⟨eT, fr, hg⟩ := HM.out.set4 (.string q) (.int .i64 t) (.int .i64 v) (.string d)
        refine bodyPost_ret (results_cell_row rfl _ _ _ _ _ _ _ rfl hg Tryd.underlying48 rfl (by kernel_rfl)) rfl ?_
        have hKe := (((HK.out.late (Nat.le_refl _) 0 (.string q)).late (Nat.le_refl _) 1 (.int .i64 t)).late (Nat.le_refl _) 2 (.int .i64 v)).late (Nat.le_refl _) 3 (.string d)
        have hRe := (((HR.out.late hbp HAP.out 0 (.string q)).late hbp HAP.out 1 (.int .i64 t)).late hbp HAP.out 2 (.int .i64 v)).late hbp HAP.out 3 (.string d)
        unfold RecR
        rw [HRN.out]
        exact ⟨hKe, ⟨_, _, _, _, hqz, hd1, rfl⟩, _, hRe⟩

    · have HRN : Hid (R = none) := Lib.hid (by rw [hRQ, if_neg (fun h => hj4 h.1)])
      have HN1 : Hid (j ≤ n → ∀ W, RD W p a n c l (j : Int) false → Calls Tryd.prog 35 #[.pointer (some ⟨p, 0, none⟩), .int .i64 4] W fun e w' => e = .returned (.int .i64 0) ∧ RD w' p a n c l (j : Int) true ∧ Kp p W w') := Lib.hid (fun hjn W hW => number_no W p a n c l _ 4 false hW (.inr ⟨by omega, by omega, by omega⟩) (by omega))
      clear hRQ
      go_wp2_with (first | (go_at_call 38; refine (HS.out _ HR.out HK.out).mono ?_; rintro e w' ⟨hK3, rfl, hR3, hj3, ht3⟩; have HR := Lib.hid hR3; have HK := Lib.hid (HK.out.trans hK3); have HM := Lib.hid (HM.out.kp hK3 hbp); have ht1 := ht3; have HJN := Lib.hid hj3; clear hR3 hK3 hj3 ht3) | (go_at_call 35; refine (HN1.out HJN.out _ HR.out).mono ?_; rintro e w' ⟨rfl, hR3, hK3⟩; have HR := Lib.hid hR3; have HK := Lib.hid (HK.out.trans hK3); have HM := Lib.hid (HM.out.kp hK3 hbp); clear hR3 hK3) | (go_at_call 36; refine (check_any _ p a n c l _ _ _ HR.out).mono ?_; rintro e w' ⟨rfl, hR3, hK3⟩; have hR4 : RD w' p a n c l _ true := (by first | exact hR3 | (have hR5 := hR3; simp only [Bool.true_or, Bool.or_true, Bool.false_or, Bool.not_true, Bool.not_false] at hR5; exact hR5)); have HR := Lib.hid hR4; have HK := Lib.hid (HK.out.trans hK3); have HM := Lib.hid (HM.out.kp hK3 hbp); clear hR3 hK3 hR4) | (go_at_call 47; refine (HDB.out _ _ _ (by first | exact ht1 | decide | assumption) HR.out HK.out).mono ?_; rintro e w' ⟨hK3, ⟨d, hd1, rfl⟩, i4, hR3⟩; have HR := Lib.hid hR3; have HK := Lib.hid (HK.out.trans hK3); have HM := Lib.hid (HM.out.kp hK3 hbp); clear hR3 hK3; obtain ⟨u0, hu0⟩ := HM.out.held 0 (by decide); obtain ⟨u1, hu1⟩ := HM.out.held 1 (by decide); obtain ⟨u2, hu2⟩ := HM.out.held 2 (by decide); obtain ⟨u3, hu3⟩ := HM.out.held 3 (by decide); have hv0 := HM.out.free 0 (by decide); have hv1 := HM.out.free 1 (by decide); have hv2 := HM.out.free 2 (by decide); have hv3 := HM.out.free 3 (by decide)))
      obtain ⟨eT, fr, hg⟩ := HM.out.set4 (.string q) (.int .i64 t) (.int .i64 0) (.string d)
      refine bodyPost_ret (results_cell_row rfl _ _ _ _ _ _ _ rfl hg Tryd.underlying48 rfl (by kernel_rfl)) rfl ?_
      have hKe := (((HK.out.late (Nat.le_refl _) 0 (.string q)).late (Nat.le_refl _) 1 (.int .i64 t)).late (Nat.le_refl _) 2 (.int .i64 0)).late (Nat.le_refl _) 3 (.string d)
      have hRe := (((HR.out.late hbp HAP.out 0 (.string q)).late hbp HAP.out 1 (.int .i64 t)).late hbp HAP.out 2 (.int .i64 0)).late hbp HAP.out 3 (.string d)
      unfold RecR
      rw [HRN.out]
      exact ⟨hKe, ⟨_, _, _, _, hqz, hd1, rfl⟩, _, hRe⟩


end Go.Proofs.YtepfeekfglpjoaaDoor

namespace Go.Wi
/-- The next s bytes as a number. -/
def numSt (l : List UInt8) (st : Option Nat) (s : Nat) : Nat × Option Nat :=
  match st with
  | some i => if i + s ≤ l.length then (numV (tk l i s), some (i + s)) else (0, none)
  | none => (0, none)
def chk (st : Option Nat) (b : Bool) : Option Nat := if b = true then st else none
def subjSt (l : List UInt8) (st : Option Nat) : Option (List UInt8 × Nat × Nat) := st.bind (subjW l)
def recSt (l : List UInt8) (st : Option Nat) : Option (Rec × Nat) := st.bind (recW l)
/-- A reader in that state. -/
def RDS (w : World) (p : Nat) (a : Option Addr) (n c : Nat) (l : List UInt8) (st : Option Nat) : Prop :=
  match st with
  | some i => RD w p a n c l (i : Int) false ∧ i ≤ n
  | none => ∃ i, RD w p a n c l i true
theorem RDS.len {w : World} {p : Nat} {a : Option Addr} {n c : Nat} {l : List UInt8} {st : Option Nat} (h : RDS w p a n c l st) : l.length = n := by
  cases st with
  | some i => exact h.1.ba.len
  | none => obtain ⟨i, h⟩ := h; exact h.ba.len
/-- Whatever keeps a reader keeps it in its state. -/
theorem RDS.map {w w' : World} {p : Nat} {a : Option Addr} {n c : Nat} {l : List UInt8} {st : Option Nat} (h : RDS w p a n c l st) (f : ∀ i b, RD w p a n c l i b → RD w' p a n c l i b) : RDS w' p a n c l st := by
  cases st with
  | some i => exact ⟨f _ _ h.1, h.2⟩
  | none => obtain ⟨i, h⟩ := h; exact ⟨i, f _ _ h⟩
theorem RDS.bad {w : World} {p : Nat} {a : Option Addr} {n c : Nat} {l : List UInt8} {st : Option Nat} (h : RDS w p a n c l st) : ∃ i, RD w p a n c l i st.isNone := by
  cases st with
  | some i => exact ⟨_, h.1⟩
  | none => exact h
end Go.Wi
namespace Go.Proofs.YtepfeekfglpjoaaDoor
open Go.RowKit Go.Lib Go.Wi Go.Tx
theorem number_st (w : World) (p : Nat) (a : Option Addr) (n c : Nat) (l : List UInt8) (st : Option Nat) (s : Nat) (h : RDS w p a n c l st) (hs : s ≤ 4) :
    Calls Tryd.prog 35 #[.pointer (some ⟨p, 0, none⟩), .int .i64 (s : Int)] w fun e w' => e = .returned (.int .i64 ((numSt l st s).1 : Int)) ∧ RDS w' p a n c l (numSt l st s).2 ∧ Kp p w w' := by
  have hl := h.len
  cases st with
  | none =>
    obtain ⟨i, h⟩ := h
    refine (number_no w p a n c l i s true h (.inl rfl) hs).mono ?_
    rintro e w' ⟨rfl, h1, h2⟩
    exact ⟨rfl, ⟨_, h1⟩, h2⟩
  | some i =>
    obtain ⟨h, hi⟩ := h
    by_cases h4 : i + s ≤ l.length
    · rw [show numSt l (some i) s = (numV (tk l i s), some (i + s)) by simp [numSt, h4]]
      refine (number_ok w p a n c l i s h (by omega) hs).mono ?_
      rintro e w' ⟨rfl, h1, h2⟩
      exact ⟨rfl, ⟨h1, by omega⟩, h2⟩
    · rw [show numSt l (some i) s = (0, none) by simp [numSt, h4]]
      refine (number_no w p a n c l i s false h (.inr ⟨by omega, by omega, by omega⟩) hs).mono ?_
      rintro e w' ⟨rfl, h1, h2⟩
      exact ⟨rfl, ⟨_, h1⟩, h2⟩
theorem check_st (w : World) (p : Nat) (a : Option Addr) (n c : Nat) (l : List UInt8) (st : Option Nat) (b : Bool) (h : RDS w p a n c l st) :
    Calls Tryd.prog 36 #[.pointer (some ⟨p, 0, none⟩), .bool b] w fun e w' => e = .returned (.tuple #[]) ∧ RDS w' p a n c l (chk st b) ∧ Kp p w w' := by
  cases st with
  | none =>
    obtain ⟨i, h⟩ := h
    refine (check_any w p a n c l i true b h).mono ?_
    rintro e w' ⟨rfl, h1, h2⟩
    refine ⟨rfl, ?_, h2⟩
    have : chk none b = none := by unfold chk; split <;> rfl
    rw [this]
    exact ⟨_, h1⟩
  | some i =>
    obtain ⟨h, hi⟩ := h
    refine (check_any w p a n c l i false b h).mono ?_
    rintro e w' ⟨rfl, h1, h2⟩
    refine ⟨rfl, ?_, h2⟩
    cases b with
    | true => exact ⟨h1, hi⟩
    | false => exact ⟨_, h1⟩
theorem take_st (w : World) (p : Nat) (a : Option Addr) (n c : Nat) (l : List UInt8) (st : Option Nat) (s : Nat) (h : RDS w p a n c l st) (hs : s ≤ 4) :
    Calls Tryd.prog 37 #[.pointer (some ⟨p, 0, none⟩), .int .i64 (s : Int)] w fun e w' => (∃ q m c', e = .returned (.slice q m c')) ∧ RDS w' p a n c l (numSt l st s).2 ∧ Kp p w w' := by
  have hl := h.len
  cases st with
  | none =>
    obtain ⟨i, h⟩ := h
    refine (take_no w p a n c l i s true h (.inl rfl) (by omega)).mono ?_
    rintro e w' ⟨rfl, h1, h2⟩
    exact ⟨⟨_, _, _, rfl⟩, ⟨_, h1⟩, h2⟩
  | some i =>
    obtain ⟨h, hi⟩ := h
    by_cases h4 : i + s ≤ l.length
    · rw [show numSt l (some i) s = (numV (tk l i s), some (i + s)) by simp [numSt, h4]]
      refine (take_ok w p a n c l i s h (by omega)).mono ?_
      rintro e w' ⟨⟨q, c', rfl, _, _⟩, h1, h2⟩
      exact ⟨⟨_, _, _, rfl⟩, ⟨h1, by omega⟩, h2⟩
    · rw [show numSt l (some i) s = (0, none) by simp [numSt, h4]]
      refine (take_no w p a n c l i s false h (.inr ⟨by omega, by omega, by omega⟩) (by omega)).mono ?_
      rintro e w' ⟨rfl, h1, h2⟩
      exact ⟨⟨_, _, _, rfl⟩, ⟨_, h1⟩, h2⟩
/-- What a subject gives, whatever the state: the text counts only where the reader is not bad. -/
theorem subject_st (w : World) (p : Nat) (a : Option Addr) (n c : Nat) (l : List UInt8) (st : Option Nat) (h : RDS w p a n c l st) (hn : n ≤ 4096) (hm : MaxAt w) (hp0 : p ≠ 0) :
    Calls Tryd.prog 38 #[.pointer (some ⟨p, 0, none⟩)] w fun e w' => (∃ (m : ByteArray) (t : Nat), e = .returned (.tuple #[.string m, .int .i64 (t : Int)]) ∧ ∀ m0 t0 j0, subjSt l st = some (m0, t0, j0) → m = ⟨m0.toArray⟩ ∧ t = t0) ∧ RDS w' p a n c l ((subjSt l st).map (·.2.2)) ∧ Kp p w w' := by
  obtain ⟨i, hi⟩ := h.bad
  have key := subject_any w p a n c l i st.isNone (subjSt l st) hi hn (fun hb => by cases st with | none => rfl | some k => cases hb) (fun hb => by
    cases st with
    | none => cases hb
    | some k =>
      obtain ⟨h1, h2⟩ := h
      have e1 := hi.c1
      rw [h1.c1] at e1
      exact ⟨k, by cases e1; rfl, h2, rfl⟩) hm hp0
  refine key.mono ?_
  rintro e w' ⟨hk, hR⟩
  cases hs : subjSt l st with
  | none =>
    rw [hs] at hR
    obtain ⟨⟨m, t, _, _, rfl⟩, h2⟩ := hR
    exact ⟨⟨m, t, rfl, fun m0 t0 j0 hh => by cases hh⟩, h2, hk⟩
  | some q =>
    obtain ⟨m0, t0, j0⟩ := q
    rw [hs] at hR
    obtain ⟨rfl, h2, h3, _⟩ := hR
    exact ⟨⟨_, _, rfl, fun m1 t1 j1 hh => by cases hh; exact ⟨rfl, rfl⟩⟩, ⟨h2, h3⟩, hk⟩
theorem record_st (w : World) (p : Nat) (a : Option Addr) (n c : Nat) (l : List UInt8) (st : Option Nat) (h : RDS w p a n c l st) (hn : n ≤ 4096) (hm : MaxAt w) (hp0 : p ≠ 0) :
    Calls Tryd.prog 39 #[.pointer (some ⟨p, 0, none⟩)] w fun e w' => (∃ (m d : ByteArray) (t v : Nat), e = .returned (.agg #[.string m, .int .i64 (t : Int), .int .i64 (v : Int), .string d]) ∧ ∀ r j0, recSt l st = some (r, j0) → m = ⟨r.name.toArray⟩ ∧ t = r.kind ∧ v = r.ttl ∧ d = ⟨r.data.toArray⟩) ∧ RDS w' p a n c l ((recSt l st).map (·.2)) ∧ Kp p w w' := by
  obtain ⟨i, hi⟩ := h.bad
  have key := record_any w p a n c l i st.isNone (recSt l st) hi hn (fun hb => by cases st with | none => rfl | some k => cases hb) (fun hb => by
    cases st with
    | none => cases hb
    | some k =>
      obtain ⟨h1, h2⟩ := h
      have e1 := hi.c1
      rw [h1.c1] at e1
      exact ⟨k, by cases e1; rfl, h2, rfl⟩) hm hp0
  refine key.mono ?_
  rintro e w' ⟨hk, hR⟩
  cases hs : recSt l st with
  | none =>
    rw [hs] at hR
    obtain ⟨⟨m, d, t, v, _, _, rfl⟩, h2⟩ := hR
    exact ⟨⟨m, d, t, v, rfl, fun r j0 hh => by cases hh⟩, h2, hk⟩
  | some q =>
    obtain ⟨r, j0⟩ := q
    rw [hs] at hR
    obtain ⟨rfl, h2, h3⟩ := hR
    exact ⟨⟨_, _, _, _, rfl, fun r1 j1 hh => by cases hh; exact ⟨rfl, rfl, rfl, rfl⟩⟩, ⟨h2, h3⟩, hk⟩
end Go.Proofs.YtepfeekfglpjoaaDoor

namespace Go.Wi
open Go.RowKit
/-- So many records, one behind the other. -/
def recsW (l : List UInt8) (st : Option Nat) : Nat → Option (List Rec × Nat)
  | 0 => st.map fun j => ([], j)
  | k + 1 => (recsW l st k).bind fun q => (recW l q.2).map fun x => (q.1 ++ [x.1], x.2)
theorem recsW_none {l : List UInt8} {st : Option Nat} : ∀ {k m : Nat}, k ≤ m → recsW l st k = none → recsW l st m = none
  | k, 0, h, hn => by obtain rfl : k = 0 := by omega
                      exact hn
  | k, m + 1, h, hn => by
    by_cases e : k = m + 1
    · rw [← e]; exact hn
    · unfold recsW; rw [recsW_none (by omega) hn]; rfl
structure Msg where
  id : Nat
  reply : Bool
  cut : Bool
  want : Bool
  code : Nat
  name : List UInt8
  kind : Nat
  recs : List Rec
def Msg.val (M : Msg) (v : Value) : Value := .agg #[.int .i64 (M.id : Int), .bool M.reply, .bool M.cut, .bool M.want, .int .i64 (M.code : Int), .string ⟨M.name.toArray⟩, .int .i64 (M.kind : Int), v]
/-- A whole message, as the program reads it. -/
def msgW (l : List UInt8) : Option Msg :=
  let x1 := numSt l (some 0) 2
  let x2 := numSt l x1.2 2
  let x4 := numSt l (chk x2.2 (decide (x2.1 &&& 30720 = 0))) 2
  let x6 := numSt l (chk x4.2 ((x4.1 : Int) == 1)) 2
  let s8 := (numSt l (chk x6.2 (decide ((x6.1 : Int) ≤ 32))) 4).2
  (subjSt l s8).bind fun q => (recsW l (some q.2.2) x6.1).map fun r =>
    ⟨x1.1, decide (x2.1 &&& 32768 ≠ 0), decide (x2.1 &&& 512 ≠ 0), decide (x2.1 &&& 256 ≠ 0), x2.1 &&& 15, q.1, q.2.1, r.1⟩
def recCells (r : Rec) : List Value := [.string ⟨r.name.toArray⟩, .int .i64 (r.kind : Int), .int .i64 (r.ttl : Int), .string ⟨r.data.toArray⟩]
end Go.Wi
namespace Go.Proofs.YtepfeekfglpjoaaDoor
open Go.RowKit Go.Lib Go.Wi Go.Tx
theorem _root_.Go.Wi.RDS.below {w w' : World} {p : Nat} {a : Option Addr} {n c : Nat} {l : List UInt8} {st : Option Nat} (h : RDS w p a n c l st) (hb : Below w.heap.size w w') : RDS w' p a n c l st := h.map fun _ _ h => h.below hb
theorem _root_.Go.Wi.RDS.alloc {w : World} {p : Nat} {a : Option Addr} {n c : Nat} {l : List UInt8} {st : Option Nat} (h : RDS w p a n c l st) (o : Obj) : RDS (w.alloc o) p a n c l st := h.below ((Below.refl _ _).alloc (Nat.le_refl _) _)
/-- A message in the making: block b holds these cells. -/
def At8 (w : World) (b : Nat) (arr : Array Value) : Prop := w.heap[b]? = some (.cells arr 26 (0, 0))
theorem At8.lt {w : World} {b : Nat} {arr : Array Value} (h : At8 w b arr) : b < w.heap.size := (Array.getElem?_eq_some_iff.1 h).1
theorem At8.kp {w w' : World} {p b : Nat} {arr : Array Value} (h : At8 w b arr) (hk : Kp p w w') (hb : b ≠ p) : At8 w' b arr := by
  unfold At8; rw [hk.block b h.lt hb]; exact h
theorem At8.alloc {w : World} {b : Nat} {arr : Array Value} (h : At8 w b arr) (o : Obj) : At8 (w.alloc o) b arr := by
  unfold At8
  show (w.heap.push o)[b]? = _
  rw [Array.getElem?_push, if_neg (by have := h.lt; omega)]
  exact h
theorem At8.cell {w : World} {b : Nat} {arr : Array Value} (h : At8 w b arr) {j : Nat} {v : Value} (hj : arr[j]? = some v) : w.cell? ⟨b, j, none⟩ = some v := by unfold At8 at h; simp [World.cell?, h, hj]
theorem At8.free {w : World} {b : Nat} {arr : Array Value} (h : At8 w b arr) (j : Nat) : w.frozen? ⟨b, j, none⟩ = false := by unfold At8 at h; simp [World.frozen?, h]
/-- A slice of records that reads as rs. -/
def RecC (B : Nat) (w : World) (v : Value) (rs : List Rec) : Prop := w.ownsRow B 48 4 v rs.length (rs.flatMap recCells)
theorem At8.late {w : World} {b b' : Nat} {arr : Array Value} (h : At8 w b arr) (hb : b ≠ b') (k : Nat) (v : Value) : At8 (w.setCell ⟨b', k, none⟩ v) b arr := by
  unfold At8
  show (w.heap.modify b' _)[b]? = _
  rw [Array.getElem?_modify, if_neg (fun e => hb e.symm)]
  exact h
theorem At8.set {w : World} {b : Nat} {arr : Array Value} (h : At8 w b arr) (k : Nat) (v : Value) : At8 (w.setCell ⟨b, k, none⟩ v) b (arr.setIfInBounds k v) := block_set h v
theorem _root_.Go.Wi.RDS.late {w : World} {p b : Nat} {a : Option Addr} {n c : Nat} {l : List UInt8} {st : Option Nat} (h : RDS w p a n c l st) (hb : b ≠ p) (ha : ∀ x, a = some x → x.block ≠ b) (k : Nat) (v : Value) : RDS (w.setCell ⟨b, k, none⟩ v) p a n c l st := h.map fun _ _ h => h.late hb ha k v
theorem _root_.Go.Wi.Kp.alloc {p : Nat} {w w' : World} (h : Kp p w w') (o : Obj) : Kp p w (w'.alloc o) := h.trans (Kp.of ((Below.refl _ _).alloc (Nat.le_refl _) _))
theorem numSt_lt (l : List UInt8) (st : Option Nat) : (numSt l st 2).1 < 65536 := by
  cases st with
  | none => show (0 : Nat) < 65536; decide
  | some i =>
    by_cases h : i + 2 ≤ l.length
    · rw [show numSt l (some i) 2 = (numV (tk l i 2), some (i + 2)) by simp [numSt, h]]; exact numV_two l i
    · rw [show numSt l (some i) 2 = (0, none) by simp [numSt, h]]; show (0 : Nat) < 65536; decide
theorem andI (v k : Nat) (hv : v < 65536) (hk : k < 65536) : bits .and .i64 (v : Int) (k : Int) = ((v &&& k : Nat) : Int) :=
  (bits_nat .i64 62 (by decide) (fun n h0 h1 => by rw [IntKind.wrap_i64]; omega) v k (by omega) (by omega)).1
theorem and_eq0 (v k : Nat) (hv : v < 65536) (hk : k < 65536) : (bits .and .i64 (v : Int) (k : Int) == 0) = decide (v &&& k = 0) := by
  rw [andI v k hv hk, Bool.eq_iff_iff, beq_iff_eq, decide_eq_true_iff]; omega
theorem and_ne0 (v k : Nat) (hv : v < 65536) (hk : k < 65536) : (bits .and .i64 (v : Int) (k : Int) != 0) = decide (v &&& k ≠ 0) := by
  rw [bne, and_eq0 v k hv hk]; simp
def cellOf (w : World) (a : Addr) : Value := (w.cell? a).getD undef
theorem _root_.Go.Wi.RD.same {w w' : World} {p : Nat} {a : Option Addr} {n c : Nat} {l : List UInt8} {at_ : Int} {bad : Bool} (h : RD w p a n c l at_ bad) (hp : w'.heap[p]? = w.heap[p]?) (hx : ∀ x, a = some x → w'.heap[x.block]? = w.heap[x.block]?) (hs : w.heap.size ≤ w'.heap.size) : RD w' p a n c l at_ bad :=
  ⟨Nat.lt_of_lt_of_le h.lt hs, by rw [World.cell?_of_block (w := w) (a := ⟨p, 0, none⟩) hp]; exact h.c0, by rw [World.cell?_of_block (w := w) (a := ⟨p, 1, none⟩) hp]; exact h.c1, by rw [World.cell?_of_block (w := w) (a := ⟨p, 2, none⟩) hp]; exact h.c2,
    by rw [World.frozen?_of_block (w := w) (a := ⟨p, 1, none⟩) hp]; exact h.f1, by rw [World.frozen?_of_block (w := w) (a := ⟨p, 2, none⟩) hp]; exact h.f2,
    ⟨h.ba.len, h.ba.cap, h.ba.max, h.ba.none, fun x hxa j b hj => by rw [World.cell?_of_block (w := w) (by rw [add_block]; exact hx x hxa)]; exact h.ba.cell x hxa j b hj⟩, fun x hxa => ⟨Nat.lt_of_lt_of_le (h.apart x hxa).1 hs, (h.apart x hxa).2⟩⟩
theorem bkW (k : ByteArray) : (⟨k.data.toList.toArray⟩ : ByteArray) = k := by cases k; simp
theorem some_getD {w : World} {a : Addr} {v : Value} (h : w.cell? a = some v) : w.cell? a = some (cellOf w a) := by unfold cellOf; rw [h]; rfl
theorem own_kp {B p : Nat} {e : TypeId} {size n : Nat} {v : Value} {xs : List Value} {w w' : World} (h : w.ownsRow B e size v n xs) (hk : Kp p w w') (hp : p < B) : w'.ownsRow B e size v n xs := by
  refine ⟨h.1, ?_⟩
  rcases h.2 with h | ⟨g, cap, cur, h1, h2, h3, h4⟩
  · exact .inl h
  · exact .inr ⟨g, cap, cur, h1, h2, by rw [hk.block g (Array.getElem?_eq_some_iff.1 h3).1 (by omega)]; exact h3, h4⟩
theorem own_lower {B B' : Nat} {e : TypeId} {size n : Nat} {v : Value} {xs : List Value} {w : World} (h : w.ownsRow B e size v n xs) (hB : B' ≤ B) : w.ownsRow B' e size v n xs := by
  refine ⟨h.1, ?_⟩
  rcases h.2 with h | ⟨g, cap, cur, h1, h2, h4⟩
  · exact .inl h
  · exact .inr ⟨g, cap, cur, h1, Nat.le_trans hB h2, h4⟩
theorem own_same {B : Nat} {e : TypeId} {size n : Nat} {v : Value} {xs : List Value} {w w' : World} (h : w.ownsRow B e size v n xs) (hb : ∀ j, B ≤ j → w'.heap[j]? = w.heap[j]?) : w'.ownsRow B e size v n xs := by
  refine ⟨h.1, ?_⟩
  rcases h.2 with h | ⟨g, cap, cur, h1, h2, h3, h4⟩
  · exact .inl h
  · exact .inr ⟨g, cap, cur, h1, h2, by rw [hb g h2]; exact h3, h4⟩
theorem new_cells4 (w : World) (x y z u : Value) (e : TypeId) : ∀ j q, [x, y, z, u][j]? = some q → (w.alloc (.cells #[x, y, z, u] e)).cell? ((⟨w.heap.size, 0, none⟩ : Addr).add j) = some q := by
  intro j q hj
  have ha : (⟨w.heap.size, 0, none⟩ : Addr).add j = ⟨w.heap.size, j, none⟩ := by unfold Addr.add; split <;> simp_all
  rw [ha, World.cell?_alloc_new]
  simpa using hj
theorem infoRec : (Tryd.prog.info? 48).map (fun i => (i.zero, i.size, i.bytes)) = some (some (.agg #[.string ⟨#[]⟩, .int .i64 0, .int .i64 0, .string ⟨#[]⟩]), 4, 48) := by kernel_rfl
def MsgR (w : World) (p : Nat) (a : Option Addr) (n c : Nat) (l : List UInt8) (e : Ending) (w' : World) : Prop :=
  Kp p w w' ∧ match msgW l with
    | some M => (∃ v, e = .returned (M.val v) ∧ RecC (w.heap.size + 1) w' v M.recs) ∧ ∃ i, RD w' p a n c l i false
    | none => (∃ (i : Nat) (q1 q2 q3 : Bool) (k : Nat) (m : ByteArray) (t : Nat) (v : Value) (rs : List Rec), e = .returned (.agg #[.int .i64 (i : Int), .bool q1, .bool q2, .bool q3, .int .i64 (k : Int), .string m, .int .i64 (t : Int), v]) ∧ RecC (w.heap.size + 1) w' v rs) ∧ ∃ i, RD w' p a n c l i true
set_option maxHeartbeats 2000000 in
set_option maxRecDepth 100000 in
theorem message_any (w : World) (p : Nat) (a : Option Addr) (n c : Nat) (l : List UInt8) (h : RD w p a n c l 0 false) (hn : n ≤ 4096) (hm : MaxAt w) (hp0 : p ≠ 0) :
    Calls Tryd.prog 23 #[.pointer (some ⟨p, 0, none⟩)] w (MsgR w p a n c l) := by
  have hs0 : RDS w p a n c l (some 0) := ⟨h, Nat.zero_le _⟩
  have hpl := h.lt
  have hax : ∀ x, a = some x → x.block < w.heap.size := fun x hx => (h.apart x hx).1
  have hbp : w.heap.size ≠ p := fun e => by omega
  have HN2 : Hid (∀ W st, RDS W p a n c l st → Calls Tryd.prog 35 #[.pointer (some ⟨p, 0, none⟩), .int .i64 2] W fun e w' => ∃ v s', numSt l st 2 = (v, s') ∧ v < 65536 ∧ e = .returned (.int .i64 (v : Int)) ∧ RDS w' p a n c l s' ∧ Kp p W w') := Lib.hid (fun W st hW => (number_st W p a n c l st 2 hW (by decide)).mono (by
    rintro e w' ⟨rfl, h1, h2⟩
    refine ⟨_, _, rfl, ?_, rfl, h1, h2⟩
    exact numSt_lt l st))
  have HC : Hid (∀ W st b, RDS W p a n c l st → Calls Tryd.prog 36 #[.pointer (some ⟨p, 0, none⟩), .bool b] W fun e w' => e = .returned (.tuple #[]) ∧ RDS w' p a n c l (chk st b) ∧ Kp p W w') := Lib.hid (fun W st b hW => check_st W p a n c l st b hW)
  have HR := Lib.hid hs0
  clear h hs0
  go_enter Tryd.func23, Tryd.ntmps23
  go_upto_region 1 with (fail)
  have HA2 : Hid (At8 (w.alloc (.cells #[.int .i64 0, .bool false, .bool false, .bool false, .int .i64 0, .string ⟨#[]⟩, .int .i64 0, .slice none 0 0] 26)) w.heap.size #[.int .i64 0, .bool false, .bool false, .bool false, .int .i64 0, .string ⟨#[]⟩, .int .i64 0, .slice none 0 0]) := Lib.hid (heap_alloc_new w _)
  have HK := Lib.hid ((Kp.refl p w).alloc (.cells #[.int .i64 0, .bool false, .bool false, .bool false, .int .i64 0, .string ⟨#[]⟩, .int .i64 0, .slice none 0 0] 26))
  have HR := Lib.hid (HR.out.alloc (.cells #[.int .i64 0, .bool false, .bool false, .bool false, .int .i64 0, .string ⟨#[]⟩, .int .i64 0, .slice none 0 0] 26))
  generalize (w.alloc (.cells #[.int .i64 0, .bool false, .bool false, .bool false, .int .i64 0, .string ⟨#[]⟩, .int .i64 0, .slice none 0 0] 26)) = W1 at *
  go_upto_region 2 with (go_at_call 35; refine (HN2.out _ _ HR.out).mono ?_; rintro e w2 ⟨v1, s1, hn1, hv1, rfl, hr2, hk2⟩; have HR := Lib.hid hr2; have HA2 := Lib.hid (HA2.out.kp hk2 hbp); have HK := Lib.hid (HK.out.trans hk2); have HN1 := Lib.hid hn1; clear hr2 hk2 hn1)
  have hb23 : w.heap.size < w2.heap.size := HA2.out.lt
  have hb3p : w2.heap.size ≠ p := fun e => by omega
  have HA3 : Hid (At8 (w2.alloc (.cells #[.int .i64 (v1 : Int), .bool false, .bool false, .bool false, .int .i64 0, .string ⟨#[]⟩, .int .i64 0, .slice none 0 0] 26)) w2.heap.size #[.int .i64 (v1 : Int), .bool false, .bool false, .bool false, .int .i64 0, .string ⟨#[]⟩, .int .i64 0, .slice none 0 0]) := Lib.hid (heap_alloc_new w2 _)
  have HK := Lib.hid (HK.out.alloc (.cells #[.int .i64 (v1 : Int), .bool false, .bool false, .bool false, .int .i64 0, .string ⟨#[]⟩, .int .i64 0, .slice none 0 0] 26))
  have HR := Lib.hid (HR.out.alloc (.cells #[.int .i64 (v1 : Int), .bool false, .bool false, .bool false, .int .i64 0, .string ⟨#[]⟩, .int .i64 0, .slice none 0 0] 26))
  have HA2 := Lib.hid (HA2.out.alloc (.cells #[.int .i64 (v1 : Int), .bool false, .bool false, .bool false, .int .i64 0, .string ⟨#[]⟩, .int .i64 0, .slice none 0 0] 26))
  generalize (w2.alloc (.cells #[.int .i64 (v1 : Int), .bool false, .bool false, .bool false, .int .i64 0, .string ⟨#[]⟩, .int .i64 0, .slice none 0 0] 26)) = W3 at *
  obtain ⟨b3, hb3⟩ : ∃ b, w2.heap.size = b := ⟨_, rfl⟩
  rw [hb3] at HA3 hb3p hb23 ⊢
  go_upto_region 3 with (go_at_call 35; refine (HN2.out _ _ HR.out).mono ?_; rintro e w4 ⟨v2, s2, hn2, hv2, rfl, hr2, hk2⟩; have HR := Lib.hid hr2; have HA2 := Lib.hid (HA2.out.kp hk2 hbp); have HA3 := Lib.hid (HA3.out.kp hk2 hb3p); have HK := Lib.hid (HK.out.trans hk2); have HN2a := Lib.hid hn2; clear hr2 hk2 hn2)
  go_upto_region 4 with (go_at_call 36; refine (HC.out _ _ _ HR.out).mono ?_; rintro e w5 ⟨rfl, hr2, hk2⟩; have HR := Lib.hid hr2; have HA2 := Lib.hid (HA2.out.kp hk2 hbp); have HA3 := Lib.hid (HA3.out.kp hk2 hb3p); have HK := Lib.hid (HK.out.trans hk2); clear hr2 hk2)
  have HR : Hid (RDS w5 p a n c l (chk s2 (decide (v2 &&& 30720 = 0)))) := Lib.hid (by rw [← and_eq0 v2 30720 hv2 (by decide)]; exact HR.out)
  have k1 := HA3.out.cell (j := 1) rfl
  have k2 := HA3.out.cell (j := 2) rfl
  have k3 := HA3.out.cell (j := 3) rfl
  have k4 := HA3.out.cell (j := 4) rfl
  have f1 := HA3.out.free 1
  have f2 := HA3.out.free 2
  have f3 := HA3.out.free 3
  have f4 := HA3.out.free 4
  go_upto_region 8 with (fail)
  rw [show (bits .and .i64 (v2 : Int) 32768 != 0) = _ from and_ne0 v2 32768 hv2 (by decide), show (bits .and .i64 (v2 : Int) 512 != 0) = _ from and_ne0 v2 512 hv2 (by decide), show (bits .and .i64 (v2 : Int) 256 != 0) = _ from and_ne0 v2 256 hv2 (by decide), show bits .and .i64 (v2 : Int) 15 = _ from andI v2 15 hv2 (by decide)]
  have hab : ∀ x, a = some x → x.block ≠ b3 := fun x hx e => by have := hax x hx; omega
  have HA3 : Hid (At8 ((((w5.setCell ⟨b3, 1, none⟩ (.bool (decide (v2 &&& 32768 ≠ 0)))).setCell ⟨b3, 2, none⟩ (.bool (decide (v2 &&& 512 ≠ 0)))).setCell ⟨b3, 3, none⟩ (.bool (decide (v2 &&& 256 ≠ 0)))).setCell ⟨b3, 4, none⟩ (.int .i64 ((v2 &&& 15 : Nat) : Int))) b3 #[.int .i64 (v1 : Int), .bool (decide (v2 &&& 32768 ≠ 0)), .bool (decide (v2 &&& 512 ≠ 0)), .bool (decide (v2 &&& 256 ≠ 0)), .int .i64 ((v2 &&& 15 : Nat) : Int), .string ⟨#[]⟩, .int .i64 0, .slice none 0 0]) := Lib.hid ((((HA3.out.set 1 _).set 2 _).set 3 _).set 4 _)
  have HA2 := Lib.hid ((((HA2.out.late (b' := b3) (by omega) 1 (.bool (decide (v2 &&& 32768 ≠ 0)))).late (b' := b3) (by omega) 2 (.bool (decide (v2 &&& 512 ≠ 0)))).late (b' := b3) (by omega) 3 (.bool (decide (v2 &&& 256 ≠ 0)))).late (b' := b3) (by omega) 4 (.int .i64 ((v2 &&& 15 : Nat) : Int)))
  have HR := Lib.hid ((((HR.out.late hb3p hab 1 (.bool (decide (v2 &&& 32768 ≠ 0)))).late hb3p hab 2 (.bool (decide (v2 &&& 512 ≠ 0)))).late hb3p hab 3 (.bool (decide (v2 &&& 256 ≠ 0)))).late hb3p hab 4 (.int .i64 ((v2 &&& 15 : Nat) : Int)))
  have HK := Lib.hid ((((HK.out.late (Nat.le_of_lt hb23) 1 (.bool (decide (v2 &&& 32768 ≠ 0)))).late (Nat.le_of_lt hb23) 2 (.bool (decide (v2 &&& 512 ≠ 0)))).late (Nat.le_of_lt hb23) 3 (.bool (decide (v2 &&& 256 ≠ 0)))).late (Nat.le_of_lt hb23) 4 (.int .i64 ((v2 &&& 15 : Nat) : Int)))
  generalize ((((w5.setCell ⟨b3, 1, none⟩ (.bool (decide (v2 &&& 32768 ≠ 0)))).setCell ⟨b3, 2, none⟩ (.bool (decide (v2 &&& 512 ≠ 0)))).setCell ⟨b3, 3, none⟩ (.bool (decide (v2 &&& 256 ≠ 0)))).setCell ⟨b3, 4, none⟩ (.int .i64 ((v2 &&& 15 : Nat) : Int))) = W8 at *
  obtain ⟨q1, hq1⟩ : ∃ q, decide (v2 &&& 32768 ≠ 0) = q := ⟨_, rfl⟩
  obtain ⟨q2, hq2⟩ : ∃ q, decide (v2 &&& 512 ≠ 0) = q := ⟨_, rfl⟩
  obtain ⟨q3, hq3⟩ : ∃ q, decide (v2 &&& 256 ≠ 0) = q := ⟨_, rfl⟩
  obtain ⟨q4, hq4⟩ : ∃ q, v2 &&& 15 = q := ⟨_, rfl⟩
  rw [hq1, hq2, hq3, hq4] at HA3 ⊢
  have HQ1 := Lib.hid hq1
  have HQ2 := Lib.hid hq2
  have HQ3 := Lib.hid hq3
  have HQ4 := Lib.hid hq4
  clear k1 k2 k3 k4 f1 f2 f3 f4 hq1 hq2 hq3 hq4
  go_upto_region 9 with (first | (go_at_call 35; refine (HN2.out _ _ HR.out).mono ?_; rintro e w9 ⟨v4, s4, hn2, hv4, rfl, hr2, hk2⟩; have HR := Lib.hid hr2; have HA2 := Lib.hid (HA2.out.kp hk2 hbp); have HA3 := Lib.hid (HA3.out.kp hk2 hb3p); have HK := Lib.hid (HK.out.trans hk2); have HN4 := Lib.hid hn2; clear hr2 hk2 hn2) | (go_at_call 36; refine (HC.out _ _ _ HR.out).mono ?_; rintro e w10 ⟨rfl, hr2, hk2⟩; have HR := Lib.hid hr2; have HA2 := Lib.hid (HA2.out.kp hk2 hbp); have HA3 := Lib.hid (HA3.out.kp hk2 hb3p); have HK := Lib.hid (HK.out.trans hk2); clear hr2 hk2))
  go_upto_region 10 with (go_at_call 35; refine (HN2.out _ _ HR.out).mono ?_; rintro e w11 ⟨v6, s6, hn2, hv6, rfl, hr2, hk2⟩; have HR := Lib.hid hr2; have HA2 := Lib.hid (HA2.out.kp hk2 hbp); have HA3 := Lib.hid (HA3.out.kp hk2 hb3p); have HK := Lib.hid (HK.out.trans hk2); have HN6 := Lib.hid hn2; clear hr2 hk2 hn2)
  go_upto_region 11 with (go_at_call 36; refine (HC.out _ _ _ HR.out).mono ?_; rintro e w12 ⟨rfl, hr2, hk2⟩; have HR := Lib.hid hr2; have HA2 := Lib.hid (HA2.out.kp hk2 hbp); have HA3 := Lib.hid (HA3.out.kp hk2 hb3p); have HK := Lib.hid (HK.out.trans hk2); clear hr2 hk2)
  have HT4 : Hid (∀ W st, RDS W p a n c l st → Calls Tryd.prog 37 #[.pointer (some ⟨p, 0, none⟩), .int .i64 4] W fun e w' => (∃ q m c', e = .returned (.slice q m c')) ∧ RDS w' p a n c l (numSt l st 4).2 ∧ Kp p W w') := Lib.hid (fun W st hW => take_st W p a n c l st 4 hW (by decide))
  go_upto_region 12 with (go_at_call 37; refine (HT4.out _ _ HR.out).mono ?_; rintro e w13 ⟨⟨z1, z2, z3, rfl⟩, hr2, hk2⟩; have HR := Lib.hid hr2; have HA2 := Lib.hid (HA2.out.kp hk2 hbp); have HA3 := Lib.hid (HA3.out.kp hk2 hb3p); have HK := Lib.hid (HK.out.trans hk2); clear hr2 hk2)
  obtain ⟨s8, hs8⟩ : ∃ s, (numSt l (chk s6 (decide ((v6 : Int) ≤ 32))) 4).2 = s := ⟨_, rfl⟩
  rw [hs8] at HR
  have HS8 := Lib.hid hs8
  have hmx : ∀ W, Kp p w W → MaxAt W := fun W hk => by
    obtain ⟨m, hm2⟩ := hm
    have hlt : 0 < w.heap.size := MaxAt.lt ⟨m, hm2⟩
    exact ⟨m, by rw [hk.cell (x := ⟨0, 0, none⟩) hlt (fun e => hp0 e.symm)]; exact hm2⟩
  have HMx := Lib.hid hmx
  clear hs8 hmx
  go_upto_region 13 with (go_at_call 38; refine (subject_st _ p a n c l _ HR.out hn (HMx.out _ HK.out) hp0).mono ?_; rintro e w14 ⟨⟨m, t, rfl, hmt⟩, hr2, hk2⟩; have HR := Lib.hid hr2; have HA2 := Lib.hid (HA2.out.kp hk2 hbp); have HA3 := Lib.hid (HA3.out.kp hk2 hb3p); have HK := Lib.hid (HK.out.trans hk2); have HMt := Lib.hid hmt; have k5 := HA3.out.cell (j := 5) rfl; have k6 := HA3.out.cell (j := 6) rfl; have f5 := HA3.out.free 5; have f6 := HA3.out.free 6; clear hr2 hk2 hmt)
  have HA3 : Hid (At8 ((w14.setCell ⟨b3, 5, none⟩ (.string m)).setCell ⟨b3, 6, none⟩ (.int .i64 (t : Int))) b3 #[.int .i64 (v1 : Int), .bool q1, .bool q2, .bool q3, .int .i64 (q4 : Int), .string m, .int .i64 (t : Int), .slice none 0 0]) := Lib.hid ((HA3.out.set 5 _).set 6 _)
  have HA2 := Lib.hid ((HA2.out.late (b' := b3) (by omega) 5 (.string m)).late (b' := b3) (by omega) 6 (.int .i64 (t : Int)))
  have HR := Lib.hid ((HR.out.late hb3p hab 5 (.string m)).late hb3p hab 6 (.int .i64 (t : Int)))
  have HK := Lib.hid ((HK.out.late (Nat.le_of_lt hb23) 5 (.string m)).late (Nat.le_of_lt hb23) 6 (.int .i64 (t : Int)))
  generalize ((w14.setCell ⟨b3, 5, none⟩ (.string m)).setCell ⟨b3, 6, none⟩ (.int .i64 (t : Int))) = W15 at *
  obtain ⟨s9, hs9⟩ : ∃ s, (subjSt l s8).map (·.2.2) = s := ⟨_, rfl⟩
  rw [hs9] at HR
  have HS9 := Lib.hid hs9
  obtain ⟨i4, hi, hz0, hz1, hz2⟩ := info_parts infoRec
  clear k5 k6 f5 f6 hs9
  go_wp2
  go_loopw [6] (fun iv wr => ∃ (k : Nat) (v : Value) (rs : List Rec) (st : Option Nat), k ≤ v6 ∧ iv = .int .i64 k ∧ At8 wr b3 #[.int .i64 (v1 : Int), .bool q1, .bool q2, .bool q3, .int .i64 (q4 : Int), .string m, .int .i64 (t : Int), v] ∧ RecC (b3 + 1) wr v rs ∧ rs.length = k ∧ (recsW l s9 k).map (·.2) = st ∧ (∀ rs' j, recsW l s9 k = some (rs', j) → rs = rs') ∧ At8 wr w.heap.size #[.int .i64 0, .bool false, .bool false, .bool false, .int .i64 0, .string ⟨#[]⟩, .int .i64 0, .slice none 0 0] ∧ RDS wr p a n c l st ∧ Kp p w wr) (fun iv _ => v6 - (intOf iv).toNat)
  case atStart => exact ⟨0, _, [], s9, Nat.zero_le _, rfl, HA3.out, World.ownsRow_nil _ _ _ _, rfl, by show (s9.map fun j => (([] : List Rec), j)).map (·.2) = s9; cases s9 <;> rfl, fun rs' j hh => by
      cases s9 with
      | none => cases hh
      | some q => cases hh; rfl, HA2.out, HR.out, HK.out⟩
  case round =>
    obtain ⟨k, v, rs, st, hk, rfl, ha3, hrc, hrl, hst, hrs, ha2, hr, hkp⟩ := hrel
    obtain ⟨i0, hbad⟩ := hr.bad
    have hcb := hbad.c2
    have HA3 := Lib.hid ha3
    have HA2 := Lib.hid ha2
    have HR := Lib.hid hr
    have HK := Lib.hid hkp
    have HRc := Lib.hid hrc
    have HSt := Lib.hid hst
    have HRs := Lib.hid hrs
    clear ha3 ha2 hr hkp hrc hst hrs hbad
    by_cases hgo : k < v6 ∧ st ≠ none
    · obtain ⟨hlt, hstn⟩ := hgo
      obtain ⟨j0, rfl⟩ : ∃ j, st = some j := by cases st with | none => exact absurd rfl hstn | some j => exact ⟨j, rfl⟩
      obtain ⟨vp, vc, rfl⟩ : ∃ q c, v = .slice q rs.length c := by
        rcases HRc.out.2 with ⟨e1, e2⟩ | ⟨g, cap, cur, e1, _⟩
        · exact ⟨none, 0, by rw [e1, e2]⟩
        · exact ⟨_, _, e1⟩
      have HRd : Hid (RDS wr.drew p a n c l (some j0)) := Lib.hid (HR.out.map fun _ _ h => h.drawn 1)
      have HKd : Hid (Kp p w wr.drew) := Lib.hid (HK.out.trans (Kp.drawn p wr 1))
      have HA3d : Hid (At8 wr.drew b3 _) := Lib.hid HA3.out
      have HA2d : Hid (At8 wr.drew w.heap.size _) := Lib.hid HA2.out
      have HRcd : Hid (RecC (b3 + 1) wr.drew (.slice vp rs.length vc) rs) := Lib.hid (own_same HRc.out (fun _ _ => rfl))
      have HC7 : Hid (wr.drew.cell? ⟨b3, 7, none⟩ = some (.slice vp rs.length vc)) := Lib.hid (HA3d.out.cell (j := 7) rfl)
      have hk7 := HC7.out
      have hcv : cellOf wr.drew ⟨b3, 7, none⟩ = .slice vp rs.length vc := by unfold cellOf; rw [HC7.out]; rfl
      have hcv2 : cellOf wr ⟨b3, 7, none⟩ = .slice vp rs.length vc := hcv
      have hrl2 : rs.length ≤ 65536 := by omega
      have HRl := Lib.hid hrl
      clear hstn hrl
      go_wp2
      go_region_law (first | (refine step_append_lies _ (by rfl) _ _ _ (by rfl) (b3 + 1) 48 i4 (.agg #[.string ⟨#[]⟩, .int .i64 0, .int .i64 0, .string ⟨#[]⟩]) 4 48 Tryd.underlying24 hi hz0 hz1 hz2 rfl (by decide) (.slice vp rs.length vc) rs.length (rs.flatMap recCells) (by rfl) (World.ownsRow.alloc HRc16.out _) ⟨w16.heap.size, 0, none⟩ 1 1 [.string rm, .int .i64 (rt : Int), .int .i64 (rv : Int), .string rd] (by rfl) rfl (new_cells4 _ _ _ _ _ _) (by simp [Value.oneCell']) (by decide) (by unfold maxLen; omega) (by omega) (by have := HA316.out.lt; show b3 + 1 ≤ (w16.heap.push _).size; simp; omega) (w16.heap.size + 1) (by show (w16.heap.push _).size = _; simp) ?_; intro g17 cap17 w17 hown17 hg17 hat17 hlt17; have hb17 : w17.heap[b3]? = (w16.alloc (.cells #[.string rm, .int .i64 (rt : Int), .int .i64 (rv : Int), .string rd] 48)).heap[b3]? := hg17.block b3 (HA316.out.alloc _).lt (fun e => by have := (World.ownsRow.lt HRc16.out b3 e.symm).1; omega); have HA317 : Hid (At8 w17 b3 _) := Lib.hid (hb17.trans (HA316.out.alloc _)); have HC7 : Hid (w17.cell? ⟨b3, 7, none⟩ = some (.slice vp rs.length vc)) := Lib.hid (HA317.out.cell (j := 7) rfl); have hf17 := HA317.out.free 7; have hc17 := HC7.out) | (go_simp; refine (record_st _ p a n c l (some j0) HRd.out hn (HMx.out _ HKd.out) hp0).mono ?_; rintro e w16 ⟨⟨rm, rd, rt, rv, rfl, hrec⟩, hr2, hk2⟩; have HR16 := Lib.hid hr2; have HK16 := Lib.hid (HKd.out.trans hk2); have HA316 := Lib.hid (HA3d.out.kp hk2 hb3p); have HA216 := Lib.hid (HA2d.out.kp hk2 hbp); have HRc16 := Lib.hid (own_kp HRcd.out hk2 (by omega)); have HRec := Lib.hid hrec; have HC7 : Hid (w16.cell? ⟨b3, 7, none⟩ = some (.slice vp rs.length vc)) := Lib.hid (HA316.out.cell (j := 7) rfl); have hk716 := HC7.out; have HC7A := Lib.hid ((HA316.out.alloc (.cells #[.string rm, .int .i64 (rt : Int), .int .i64 (rv : Int), .string rd] 48)).cell (j := 7) rfl); have hk7A := HC7A.out; clear hr2 hk2 hrec))
      all_goals
        go_wp2
        go_roundw
        case rel =>
          have hszA : (w16.alloc (.cells #[.string rm, .int .i64 (rt : Int), .int .i64 (rv : Int), .string rd] 48)).heap.size = w16.heap.size + 1 := by show (w16.heap.push _).size = _; simp
          have hblk : ∀ j, j ≤ b3 → j < w16.heap.size → w17.heap[j]? = w16.heap[j]? := fun j hj hj2 => by
            rw [hg17.block j (by omega) (fun e => by have := (World.ownsRow.lt HRc16.out j e.symm).1; omega)]
            show (w16.heap.push _)[j]? = _
            rw [Array.getElem?_push, if_neg (by omega)]
          have hs17 : w16.heap.size ≤ w17.heap.size := by have := hg17.size; omega
          have hb16 := HA316.out.lt
          have hp16 : p < w16.heap.size := by omega
          have hw16 : w.heap.size < w16.heap.size := HA216.out.lt
          have hkp17 : Kp p w w17 := ⟨hg17.os.trans HK16.out.os, hg17.tape.trans HK16.out.tape, hg17.output.trans HK16.out.output, Nat.le_trans HK16.out.size hs17, fun j hj hjp => (hblk j (by omega) (by omega)).trans (HK16.out.block j hj hjp)⟩
          obtain ⟨rs0, hrs0⟩ : ∃ rs0, recsW l s9 k = some (rs0, j0) := by
            have := HSt.out
            cases hq : recsW l s9 k with
            | none => rw [hq] at this; cases this
            | some q => obtain ⟨q1, q2⟩ := q; rw [hq] at this; cases this; exact ⟨q1, rfl⟩
          obtain rfl : rs = rs0 := HRs.out rs0 j0 hrs0
          have hstep : recsW l s9 (k + 1) = (recW l j0).map fun x => (rs ++ [x.1], x.2) := by rw [recsW, hrs0]; rfl
          refine ⟨k + 1, _, rs ++ [⟨rm.data.toList, rt, rv, rd.data.toList⟩], (recSt l (some j0)).map (·.2), hlt, by go_num, HA317.out.set 7 _, ?_, by rw [List.length_append, HRl.out]; rfl, ?_, ?_, At8.late (b := w.heap.size) ((hblk w.heap.size (by omega) hw16).trans HA216.out) (by omega) 7 _, (HR16.out.map fun _ _ h => h.same (hblk p (by omega) (by omega)) (fun x hx => hblk x.block (by have := hax x hx; omega) (by have := hax x hx; omega)) hs17).late hb3p hab 7 _, hkp17.late (by omega) 7 _⟩
          · unfold RecC
            rw [List.flatMap_append, List.length_append]
            have e : ([⟨rm.data.toList, rt, rv, rd.data.toList⟩] : List Rec).flatMap recCells = [.string rm, .int .i64 (rt : Int), .int .i64 (rv : Int), .string rd] := by simp [recCells]
            rw [e]
            exact own_same hown17 (fun j hj => by
              show (w17.heap.modify b3 _)[j]? = _
              rw [Array.getElem?_modify, if_neg (by omega)])
          · rw [hstep, Option.map_map]; rfl
          · intro rs' j hh
            rw [hstep] at hh
            obtain ⟨x, hx, e⟩ := Option.map_eq_some_iff.1 hh
            obtain ⟨h1, h2, h3, h4⟩ := HRec.out x.1 x.2 hx
            cases e
            rw [h1, h2, h3, h4]
        case measure => simp [intOf]; omega
    · have g0 := HA3.out.cell (j := 0) rfl
      have g1 := HA3.out.cell (j := 1) rfl
      have g2 := HA3.out.cell (j := 2) rfl
      have g3 := HA3.out.cell (j := 3) rfl
      have g4 := HA3.out.cell (j := 4) rfl
      have g5 := HA3.out.cell (j := 5) rfl
      have g6 := HA3.out.cell (j := 6) rfl
      have g7 := HA3.out.cell (j := 7) rfl
      have d0 := HA2.out.cell (j := 0) rfl
      have d1 := HA2.out.cell (j := 1) rfl
      have d2 := HA2.out.cell (j := 2) rfl
      have d3 := HA2.out.cell (j := 3) rfl
      have d4 := HA2.out.cell (j := 4) rfl
      have d5 := HA2.out.cell (j := 5) rfl
      have d6 := HA2.out.cell (j := 6) rfl
      have d7 := HA2.out.cell (j := 7) rfl
      have e0 := HA2.out.free 0
      have e1 := HA2.out.free 1
      have e2 := HA2.out.free 2
      have e3 := HA2.out.free 3
      have e4 := HA2.out.free 4
      have e5 := HA2.out.free 5
      have e6 := HA2.out.free 6
      have e7 := HA2.out.free 7
      obtain ⟨vp, vc, rfl⟩ : ∃ q c, v = .slice q rs.length c := by
        rcases HRc.out.2 with ⟨e1, e2⟩ | ⟨g, cap, cur, e1, _⟩
        · exact ⟨none, 0, by rw [e1, e2]⟩
        · exact ⟨_, _, e1⟩
      have HRl := Lib.hid hrl
      clear hrl
      have hfin : ∀ W, W = ((((((((wr.setCell ⟨w.heap.size, 0, none⟩ (.int .i64 (v1 : Int))).setCell ⟨w.heap.size, 1, none⟩ (.bool q1)).setCell ⟨w.heap.size, 2, none⟩ (.bool q2)).setCell ⟨w.heap.size, 3, none⟩ (.bool q3)).setCell ⟨w.heap.size, 4, none⟩ (.int .i64 (q4 : Int))).setCell ⟨w.heap.size, 5, none⟩ (.string m)).setCell ⟨w.heap.size, 6, none⟩ (.int .i64 (t : Int))).setCell ⟨w.heap.size, 7, none⟩ (.slice vp rs.length vc)) →
          At8 W w.heap.size #[.int .i64 (v1 : Int), .bool q1, .bool q2, .bool q3, .int .i64 (q4 : Int), .string m, .int .i64 (t : Int), .slice vp rs.length vc] ∧ Kp p w W ∧ RDS W p a n c l st ∧ RecC (w.heap.size + 1) W (.slice vp rs.length vc) rs := fun W hW => by
        subst hW
        have hba : ∀ x, a = some x → x.block ≠ w.heap.size := fun x hx e => by have := hax x hx; omega
        refine ⟨(((((((HA2.out.set 0 _).set 1 _).set 2 _).set 3 _).set 4 _).set 5 _).set 6 _).set 7 _, (((((((HK.out.late (Nat.le_refl _) 0 _).late (Nat.le_refl _) 1 _).late (Nat.le_refl _) 2 _).late (Nat.le_refl _) 3 _).late (Nat.le_refl _) 4 _).late (Nat.le_refl _) 5 _).late (Nat.le_refl _) 6 _).late (Nat.le_refl _) 7 _, (((((((HR.out.late hbp hba 0 _).late hbp hba 1 _).late hbp hba 2 _).late hbp hba 3 _).late hbp hba 4 _).late hbp hba 5 _).late hbp hba 6 _).late hbp hba 7 _, ?_⟩
        have hb : ∀ (W : World) (k : Nat) (x : Value), RecC (w.heap.size + 1) W (.slice vp rs.length vc) rs → RecC (w.heap.size + 1) (W.setCell ⟨w.heap.size, k, none⟩ x) (.slice vp rs.length vc) rs := fun W k x h => own_same h (fun j hj => by
          show (W.heap.modify w.heap.size _)[j]? = _
          rw [Array.getElem?_modify, if_neg (by omega)])
        have h0 : RecC (w.heap.size + 1) wr (.slice vp rs.length vc) rs := own_lower HRc.out (by omega)
        exact hb _ _ _ (hb _ _ _ (hb _ _ _ (hb _ _ _ (hb _ _ _ (hb _ _ _ (hb _ _ _ (hb _ _ _ h0)))))))
      have HFin := Lib.hid hfin
      clear hfin
      have hmsg : (k = v6 ∨ st = none) → match msgW l with
          | some M => st ≠ none ∧ M = ⟨v1, q1, q2, q3, q4, m.data.toList, t, rs⟩
          | none => st = none := fun hex => by
        have hmW : msgW l = (subjSt l s8).bind fun q => (recsW l (some q.2.2) v6).map fun r => ⟨v1, q1, q2, q3, q4, q.1, q.2.1, r.1⟩ := by
          unfold msgW
          simp only [HN1.out, HN2a.out, HN4.out, HN6.out, HS8.out, HQ1.out, HQ2.out, HQ3.out, HQ4.out]
        have hSt := HSt.out
        have hRs := HRs.out
        rw [hmW]
        cases hsub : subjSt l s8 with
        | none =>
          have hs9 : s9 = none := by have := HS9.out; rw [hsub] at this; exact this.symm
          rw [hs9, recsW_none (Nat.zero_le k) rfl] at hSt
          exact hSt.symm
        | some q =>
          obtain ⟨m0, t0, j⟩ := q
          have hs9 : s9 = some j := by have := HS9.out; rw [hsub] at this; exact this.symm
          obtain ⟨hm0, ht0⟩ := HMt.out m0 t0 j hsub
          rw [hs9] at hSt hRs
          simp only [Option.bind_some]
          cases hr : recsW l (some j) v6 with
          | none =>
            simp only [Option.map_none]
            rcases hex with h | h
            · rw [h, hr] at hSt; exact hSt.symm
            · exact h
          | some r =>
            obtain ⟨rs', j2⟩ := r
            simp only [Option.map_some]
            have hne : st ≠ none := fun hn => by
              rw [hn] at hSt
              have h0 : recsW l (some j) k = none := by
                cases hq : recsW l (some j) k with
                | none => rfl
                | some q => rw [hq] at hSt; cases hSt
              rw [recsW_none hk h0] at hr
              cases hr
            refine ⟨hne, ?_⟩
            have hkv : k = v6 := by rcases hex with h | h; exact h; exact absurd h hne
            rw [hkv] at hRs
            rw [hRs rs' j2 hr, hm0, ht0]
      have HMsg := Lib.hid hmsg
      clear hmsg
      by_cases hlt : k < v6
      · obtain rfl : st = none := by cases st with | none => rfl | some j => exact absurd ⟨hlt, by simp⟩ hgo
        go_wp2
        obtain ⟨z1, z2, z3, z4⟩ := HFin.out _ rfl
        refine bodyPost_ret (results_cell_row rfl _ _ _ _ _ _ _ rfl z1 Tryd.underlying26 rfl (by kernel_rfl)) rfl ?_
        have hM := HMsg.out (.inr (by first | trivial | rfl))
        refine ⟨z2, ?_⟩
        cases hw : msgW l with
        | some M => rw [hw] at hM; exact absurd rfl hM.1
        | none => exact ⟨⟨v1, q1, q2, q3, q4, m, t, _, rs, rfl, z4⟩, z3⟩
      · have hki : ¬ (k : Int) < (v6 : Int) := by omega
        go_wp2
        obtain ⟨z1, z2, z3, z4⟩ := HFin.out _ rfl
        refine bodyPost_ret (results_cell_row rfl _ _ _ _ _ _ _ rfl z1 Tryd.underlying26 rfl (by kernel_rfl)) rfl ?_
        have hM := HMsg.out (.inl (by omega))
        refine ⟨z2, ?_⟩
        cases hw : msgW l with
        | some M =>
          rw [hw] at hM
          obtain ⟨hne, rfl⟩ := hM
          refine ⟨⟨_, ?_, z4⟩, ?_⟩
          · unfold Msg.val; rw [bkW]
          · cases st with
            | none => exact absurd rfl hne
            | some j => exact ⟨_, z3.1⟩
        | none =>
          rw [hw] at hM
          simp only at hM
          subst hM
          exact ⟨⟨v1, q1, q2, q3, q4, m, t, _, rs, rfl, z4⟩, z3⟩
end Go.Proofs.YtepfeekfglpjoaaDoor

