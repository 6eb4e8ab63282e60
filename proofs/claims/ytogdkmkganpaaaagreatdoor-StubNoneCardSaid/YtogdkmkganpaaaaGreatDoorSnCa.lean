/- Contracts and plain facts that the law leans on. -/
import Derived.Test.YtogdkmkganpaaaaGreatDoorEvC
import Derived.HandedShaped
import Derived.Lib.LaidU8
import Derived.Stop.LaidErr
import Derived.Shelf.Vars
import Derived.Lay
import Derived.SevenTiedAt
import Derived.ProofKit
import Derived.OpenShut
import Derived.Test.YtogdkmkganpaaaaGreatDoorRows
import Derived.Test.YtogdkmkganpaaaaGreatDoorShelf
import Derived.SliceStrings
import Derived.WideShapes
import Derived.Carry
import Derived.Test.YtogdkmkganpaaaaGreatDoorProg
import Derived.WalkKit
import Derived.Below
import Derived.Laws.IdiomStrings
import Derived.Laws.OwnMore
import Derived.Lib.Hide
import Derived.Test.YtogdkmkganpaaaaGreatDoorEvB
import Derived.Lib.SlBytesConst
import Derived.OwnWalk
import Derived.Maps.RangeWalk
import Derived.Deep.AppendLies
import Derived.Deep.RegionLaw
import Derived.Maps.OwnOps
import Derived.Lib.Strings
import Derived.LoopTactic
import Derived.StillTailTactics
import Derived.Deep.QuietTactic
import Derived.BigQuiet
import Derived.Laws.Cover3
import Derived.Deep.CutRange
import Derived.Maps.OwnSet
import Derived.Maps.StringElems
import Derived.StringKeys
import Derived.Deep.RegionHeld3
import Derived.Deep.RegionWith
import Derived.ChangeAlike
import Derived.Laws.BitsAllLaws
import Derived.Lib.Bytes
import Derived.KernelRfl
import Derived.Lib.SplitLaws
import Derived.Laws.RangeAny
import Derived.Shelf.GgClosure.StringsIndexFunc
import Derived.Test.YtogdkmkganpaaaaGreatDoorChecked
import Derived.Lib.FieldsP
import Derived.Laws.RangeString
import Derived.Lib.BytesEntry
namespace Go.Fr
open Go Go.Ev Go.RowKit Go.Lib
variable {H : Type} {enc : TypeId × Value → H}
theorem wrap {a : Assume} {C : Checked} {os : Os} {f : FuncId} {fn : Func} {s : ChangeSpec} {conds : List PathCond} {apart fresh handsOn again : Bool} {X : World → Array Value → Prop}
    (hX : ∀ (w w' : World) (args : Array Value), w.heap = w'.heap → X w args → X w' args)
    (own : ownKnob C.prog.godebug = none) (started : os.Started) (noInit : C.prog.inits.idxOf? f = none) (hfn : C.prog.funcs[f]? = some fn)
    (witness : ∃ (w : World) (tape : Tape) (i : Input), w.os = os ∧ (w.forCall tape i).Shaped C.prog ∧ i.vars = [] ∧ Input.okWide C.prog (w.forCall tape i) .any w.heap.size f i ∧
      ((s.pre enc C.prog fn conds apart (w.forCall tape i).memory i.args ∧ X (w.forCall tape i).memory i.args) ∧ sizedMet enc C.prog fn (OpenSpec.ofChange s) apart (w.forCall tape i).memory i.args) ∧ a.holds C.prog (lone (Frame.enter C.prog f i.args .normal) [] (w.forCall tape i)))
    (contract : ∀ (W : World) (base : Nat) (args : Array Value) (ds gs : List (DataW H)) (before : List MemPlace),
      (∀ (j : Nat) t v, fn.params[j]? = some t → args[j]? = some v → Value.okWide C.prog W .any base t v) →
      DataW.Whole enc C.prog fn.params.toList s.vars apart W args.toList ds gs before →
      conds.all (PathCond.test C.prog ⟨fn.params.toList, ds, s.plain.varTypes C.prog, gs⟩) = true →
      (DataW.weightsEach C.prog (fn.params.toList ++ s.plain.varTypes C.prog) (ds ++ gs)).all (· ≤ reachBytes) = true → X W args → W.ShapedOpen C.prog →
      Calls C.prog f args W fun e W' => ∃ v, e = .returned v ∧ s.post enc C.prog fn apart fresh handsOn again W args v W') :
    ReturnsInHanded a C os f .any (fun w args => (s.pre enc C.prog fn conds apart w args ∧ X w args) ∧ sizedMet enc C.prog fn (OpenSpec.ofChange s) apart w args) (s.post enc C.prog fn apart fresh handsOn again) := by
  refine returnsInHanded_of_calls own started noInit witness ?_
  intro w tape i _ hsh _ hok hpre hholds
  obtain ⟨_, _, _, fn', hfn', _, _, _, _, hval⟩ := hok
  have e : fn' = fn := Option.some.inj (hfn'.symm.trans hfn)
  subst e
  obtain ⟨⟨⟨ds, gs, before, hw, hc⟩, hx⟩, hz⟩ := hpre
  have hw' := DataW.Whole.of_heap (w' := w.forCall tape i) (by rfl) hw
  refine (contract (w.forCall tape i) w.heap.size i.args ds gs before hval hw' hc (hz.weights hw) (hX _ _ _ (by rfl) hx) hsh).mono fun e W' ⟨v, he, hp⟩ => ?_
  subst he
  exact ChangeSpec.post_blind hp
/-! ### What is known of package variables -/
def gL (l : List (Nat × List AV)) (b : Nat) : Option (List AV) :=
  match l with
  | [] => none
  | e :: l => match Nat.beq b e.1 with
    | true => some e.2
    | false => gL l b
/-- A variable holds these values. -/
def Has (W : World) (g : Nat) (l : List AV) : Prop :=
  ∃ arr elem fr, W.heap[g]? = some (.cells arr elem fr) ∧ ∃ vs, VRL (fun _ => none) l vs ∧ ∀ (i : Nat) v, vs[i]? = some v → arr[i]? = some v
theorem glo_nil {W : World} : GloOK (Bas.of W) (gL []) := fun b l e => by cases e
theorem glo_cons {W : World} {g : Nat} {x : List AV} {l : List (Nat × List AV)} (h : Has W g x) (hl : GloOK (Bas.of W) (gL l)) : GloOK (Bas.of W) (gL ((g, x) :: l)) := by
  intro b y e
  unfold gL at e
  split at e
  · rename_i hb
    have hb : b = g := Nat.eq_of_beq_eq_true hb
    cases e
    subst hb
    obtain ⟨arr, elem, fr, h1, h2⟩ := h
    exact ⟨(Array.getElem?_eq_some_iff.1 h1).1, arr, elem, fr, h1, h2⟩
  · exact hl b y e
theorem has_of_var {P : Program} {W : World} {n : String} {g : Nat} {cs : Array Value} {l : List AV} (hg : P.globalNamed n = some g) (hv : W.var? P n = some cs) (h : VRL (fun _ => none) l cs.toList) : Has W g l := by
  unfold World.var? at hv
  rw [hg] at hv
  simp only [Option.bind_some] at hv
  split at hv
  · rename_i arr elem fr hh
    cases hv
    exact ⟨_, _, _, hh, _, h, fun i v e => by simpa using e⟩
  · cases hv
theorem vrl_ints {k : IntKind} : ∀ (zs : List Int), VRL (fun _ => none) (zs.map fun z => AV.int k z) (zs.map fun z => Value.int k z)
  | [] => VRL.nil
  | _ :: zs => VRL.cons rfl (vrl_ints zs)
/-- A table of integers. -/
theorem has_tab {P : Program} {W : World} {n : String} {g t e m : Nat} {k : IntKind} {zs : List Int} (h : VarReads P W n (tabData k zs)) (hg : P.globalNamed n = some g) (hty : (P.globals[g]?).map (·.type) = some t)
    (ht : P.underlying t = some (.array m e)) (he : P.underlying e = some (.int k)) (hce : P.cellsOf e = 1) (hct : P.cellsOf t = m) : Has W g (zs.map fun z => AV.int k z) := by
  obtain ⟨g', t', cs, fuel, p, h1, h2, h3, h4⟩ := h
  obtain rfl := Option.some.inj (hg.symm.trans h1)
  obtain rfl := Option.some.inj (hty.symm.trans h2)
  refine has_of_var hg h3 ?_
  rw [cells_of_tab ht he hce hct h4]
  exact vrl_ints zs
/-- A sentinel error. -/
theorem has_sent {P : Program} {n nm : String} {text : List UInt8} {r : List (String × DataW Unit)} {W : World} {g : Nat} {ti tp te ts : TypeId} {ms : Array (String × TypeId)} {f : Field}
    (h : laidMet P ((n, .iface nm (.ptr (.agg [.lit (.string text)]))) :: r) W)
    (hg : P.globalNamed n = some g) (ht : (P.globals[g]?).map (·.type) = some ti) (hi : P.underlying ti = some (.interface ms)) (hrow : ∀ u, P.typeName? 3 u = some nm → u = tp)
    (hp : P.underlying tp = some (.pointer te)) (he : P.underlying te = some (.struct #[f])) (hft : f.type = ts) (hfo : f.offset = 0) (hs : P.underlying ts = some .string) (hc : P.cellsOf te = 1) (hcs : P.cellsOf ts = 1) :
    ∃ b o : Nat, Has W g [.iface tp (.glob b o)] := by
  obtain ⟨a, s, h1, h2, _, _⟩ := laid_sentinel h hg ht hi hrow hp he hft hfo hs hc hcs
  obtain ⟨b, o, sp⟩ := a
  have : sp = none := by
    unfold World.cell? at h2
    split at h2
    · split at h2
      · cases h2
      · rename_i hn; simpa using hn
    · cases h2
  subst this
  exact ⟨b, o, has_of_var hg h1 (VRL.cons ⟨_, rfl, rfl⟩ VRL.nil)⟩
end Go.Fr

namespace Go.Proofs.YtogdkmkganpaaaaGreatDoor
open Go.RowKit Go.Ev Go.Fr Go.Lib Go.ChangeShapes
theorem fol : Tryz.prog.follows .mixedOrders = true := by kernel_rfl
theorem own : ownKnob Tryz.prog.godebug = none := by kernel_rfl
abbrev laidL : List (String × DataW Unit) := Rows.stubBoundRow.laid
noncomputable def exts : List (Nat × ExtK) := [(137, .fn joinF)]
def tab6 : List Int := [0, 1, 28, 2, 29, 14, 24, 3, 30, 22, 20, 15, 25, 17, 4, 8, 31, 27, 13, 23, 21, 19, 16, 7, 26, 12, 18, 6, 11, 5, 10, 9]
def tab7 : List Int := [0, 1, 56, 2, 57, 49, 28, 3, 61, 58, 42, 50, 38, 29, 17, 4, 62, 47, 59, 36, 45, 43, 51, 22, 53, 39, 33, 30, 24, 18, 12, 5, 63, 55, 48, 27, 60, 41, 37, 16, 46, 35, 44, 21, 52, 32, 23, 11, 54, 26, 40, 15, 34, 20, 31, 10, 25, 14, 19, 9, 13, 8, 7, 6]
def tab3 : List Int := [1, 10, 100, 1000, 10000, 100000, 1000000, 10000000, 100000000, 1000000000, 10000000000, 100000000000, 1000000000000, 10000000000000, 100000000000000, 1000000000000000, 10000000000000000, 100000000000000000, 1000000000000000000, 10000000000000000000]
def glos (b1 o1 b2 o2 : Nat) : List (Nat × List AV) :=
  [(2, [.iface 300 (.glob b1 o1)]), (1, [.iface 300 (.glob b2 o2)]), (6, tab6.map fun z => .int .u8 z), (7, tab7.map fun z => .int .u8 z), (3, tab3.map fun z => .int .u64 z)]
/-- The reckoner's surroundings. -/
noncomputable def E0 (b1 o1 b2 o2 : Nat) : Env := { P := Tryz.prog, ext := extL exts, G := gL (glos b1 o1 b2 o2) }
theorem star : "*" ++ "errors.errorString" = "*errors.errorString" := by decide
theorem rowSent (u : TypeId) (h : Tryz.prog.typeName? 3 u = some "*errors.errorString") : u = 300 :=
  typeName_ptr_named (nm := "errors.errorString") (by rw [star]; kernel_rfl) (by kernel_rfl) (by decide) u (by rw [star]; exact h)
theorem fns (B : Bas) (W : World) (hB : B = Bas.of W) (hsh : W.ShapedOpen Tryz.prog) : FnsOK Tryz.prog B (extL exts) := by
  refine FnsOK.cons (FnOK.join fun bk o c xs sep w h1 h2 h3 h4 h5 => Tryz.strings_Join bk o c xs sep w h1 h2 h3 h4 h5) ?_
  exact FnsOK.nil
theorem eok (W : World) (hL : laidMetH Tryz.prog laidL W) (hsh : W.ShapedOpen Tryz.prog) : ∃ b1 o1, ∃ b2 o2, EOK (E0 b1 o1 b2 o2) (Bas.of W) := by
  rw [MakeChecks.laidMetH_plain _ _ _ (by kernel_rfl)] at hL
  -- sentinels: types of variables looked up by hand if this fails
  have c_s : Tryz.prog.cellsOf 9 = 1 := by kernel_rfl
  have c_e : Tryz.prog.cellsOf 302 = 1 := by kernel_rfl
  obtain ⟨b1, o1, h2⟩ := has_sent (g := 2) hL.tail.tail.tail.tail (by kernel_rfl) (by kernel_rfl) Tryz.underlying75 rowSent Tryz.underlying300 Tryz.underlying302 rfl rfl Tryz.underlying9 c_e c_s
  obtain ⟨b2, o2, h1⟩ := has_sent (g := 1) hL.tail.tail.tail.tail.tail (by kernel_rfl) (by kernel_rfl) Tryz.underlying75 rowSent Tryz.underlying300 Tryz.underlying302 rfl rfl Tryz.underlying9 c_e c_s
  have h6 : Has W 6 (tab6.map fun z => .int .u8 z) := has_tab (Lib.laidMet.reads hL (n := "math/bits.deBruijn32tab") (d := tabData .u8 tab6) (.head _)) (by kernel_rfl) (by kernel_rfl) Tryz.underlying308 Tryz.underlying5 (by kernel_rfl) (by kernel_rfl)
  have h7 : Has W 7 (tab7.map fun z => .int .u8 z) := has_tab (Lib.laidMet.reads hL (n := "math/bits.deBruijn64tab") (d := tabData .u8 tab7) (.tail _ (.head _))) (by kernel_rfl) (by kernel_rfl) Tryz.underlying309 Tryz.underlying5 (by kernel_rfl) (by kernel_rfl)
  have h3 : Has W 3 (tab3.map fun z => .int .u64 z) := has_tab (Lib.laidMet.reads hL (n := "internal/strconv.uint64pow10") (d := tabData .u64 tab3) (.tail _ (.tail _ (.head _)))) (by kernel_rfl) (by kernel_rfl) Tryz.underlying297 Tryz.underlying235 (by kernel_rfl) (by kernel_rfl)
  exact ⟨b1, o1, b2, o2, (extOK_fn extOK_nil), fns _ W rfl hsh, (glo_cons h2 (glo_cons h1 (glo_cons h6 (glo_cons h7 (glo_cons h3 glo_nil)))))⟩
end Go.Proofs.YtogdkmkganpaaaaGreatDoor

namespace Go.Sl
open Go Go.RowKit Go.ChangeShapes Go.ChangeMaps Go.WideShapes
/-- A slice of texts that came in: all texts up to its capacity. -/
def IsStrs (w : World) (a : Option Addr) (n c : Nat) (ss : List ByteArray) : Prop :=
  (a = none ∧ n = 0 ∧ c = 0 ∧ ss = []) ∨ ∃ x, a = some x ∧ n ≤ c ∧ c ≤ maxLen ∧ ss.length = c ∧ (∀ i, i < ss.length → w.cell? (x.add i) = some (.string (ss.getD i ByteArray.empty))) ∧ ∀ s ∈ ss, s.size ≤ maxLen
/-- A slice of numbers that came in: all numbers up to its capacity. -/
def IsInts (k : IntKind) (w : World) (a : Option Addr) (n c : Nat) (zs : List Int) : Prop :=
  (a = none ∧ n = 0 ∧ c = 0 ∧ zs = []) ∨ ∃ x, a = some x ∧ n ≤ c ∧ c ≤ maxLen ∧ zs.length = c ∧ (∀ i, i < zs.length → w.cell? (x.add i) = some (.int k (zs.getD i 0))) ∧ ∀ z ∈ zs, (Lit.int k z).wf = true
theorem isStrs_of {H : Type} {enc : TypeId × Value → H} {P : Program} {w : World} {t e : TypeId} {a : Option Addr} {n c : Nat} {d : DataW H} {ps : List MemPlace} (ht : P.underlying t = some (.slice e)) (he : P.underlying e = some .string) (hc : P.cellsOf e = 1)
    (h : DataW.Trod enc P w 0 (fun _ => true) true t (.slice a n c) d ps) : ∃ ss, IsStrs w a n c ss := by
  obtain ⟨fuel, hf⟩ := h
  rcases open_strings ht he hc hf with ⟨hcs, _⟩ | ⟨x, l, c', ss, hcs, _, hl, hm, hz, _, hcell, hws⟩
  · simp [Value.cells] at hcs
    obtain ⟨rfl, rfl, rfl⟩ := hcs
    exact ⟨[], .inl ⟨rfl, rfl, rfl, rfl⟩⟩
  · simp [Value.cells] at hcs
    obtain ⟨rfl, rfl, rfl⟩ := hcs
    exact ⟨ss, .inr ⟨_, rfl, hl, hm, by simpa using hz, hcell, hws⟩⟩
theorem isInts_of {H : Type} {enc : TypeId × Value → H} {P : Program} {w : World} {t e : TypeId} {k : IntKind} {a : Option Addr} {n c : Nat} {d : DataW H} {ps : List MemPlace} (ht : P.underlying t = some (.slice e)) (he : P.underlying e = some (.int k)) (hc : P.cellsOf e = 1)
    (h : DataW.Trod enc P w 0 (fun _ => true) true t (.slice a n c) d ps) : ∃ zs, IsInts k w a n c zs := by
  obtain ⟨fuel, hf⟩ := h
  rcases open_ints ht he hc hf with ⟨hcs, _⟩ | ⟨x, l, c', ss, hcs, _, hl, hm, hz, _, hcell, hws⟩
  · simp [Value.cells] at hcs
    obtain ⟨rfl, rfl, rfl⟩ := hcs
    exact ⟨[], .inl ⟨rfl, rfl, rfl, rfl⟩⟩
  · simp [Value.cells] at hcs
    obtain ⟨rfl, rfl, rfl⟩ := hcs
    exact ⟨ss, .inr ⟨_, rfl, hl, hm, by simpa using hz, hcell, hws⟩⟩
end Go.Sl

namespace Go.Rb
open Go.RowKit
/-- Block b is a row of bytes of some capacity, of which the first are l. -/
def RowB (e : TypeId) (w : World) (b cap : Nat) (l : List UInt8) : Prop :=
  ∃ arr lo hi, w.heap[b]? = some (.cells arr e (lo, hi)) ∧ (cap ≤ lo ∨ hi = 0) ∧ arr.size = cap ∧ l.length ≤ cap ∧ ∀ (j : Nat) (c : UInt8), l[j]? = some c → arr[j]? = some (Value.int .u8 (c.toNat : Int))
theorem RowB.cell {e : TypeId} {w : World} {b cap : Nat} {l : List UInt8} (h : RowB e w b cap l) {j : Nat} {c : UInt8} (hj : l[j]? = some c) : w.cell? ⟨b, j, none⟩ = some (.int .u8 (c.toNat : Int)) := by
  obtain ⟨arr, lo, hi, h1, h2, h3, h4, h5⟩ := h
  unfold World.cell?
  rw [h1]
  simp only
  exact h5 j c hj
theorem RowB.frozen {e : TypeId} {w : World} {b cap : Nat} {l : List UInt8} (h : RowB e w b cap l) {j : Nat} (hj : j < cap) : w.frozen? ⟨b, j, none⟩ = false := by
  obtain ⟨arr, lo, hi, h1, h2, h3, h4, h5⟩ := h
  unfold World.frozen?
  rw [h1]
  simp only [Bool.and_eq_false_iff, decide_eq_false_iff_not]
  omega
theorem RowB.drew {e : TypeId} {w : World} {b cap : Nat} {l : List UInt8} (h : RowB e w b cap l) : RowB e w.drew b cap l := by
  obtain ⟨arr, lo, hi, h1, h2⟩ := h
  exact ⟨arr, lo, hi, h1, h2⟩
theorem RowB.set {e : TypeId} {w : World} {b cap : Nat} {l : List UInt8} (h : RowB e w b cap l) {j : Nat} (hj : j < l.length) (c : UInt8) : RowB e (w.setCell ⟨b, j, none⟩ (.int .u8 (c.toNat : Int))) b cap (l.set j c) := by
  obtain ⟨arr, lo, hi, h1, h2, h3, h4, h5⟩ := h
  have hb : b < w.heap.size := (Array.getElem?_eq_some_iff.1 h1).1
  refine ⟨arr.setIfInBounds j (.int .u8 (c.toNat : Int)), lo, hi, ?_, h2, by simpa using h3, by simpa using h4, fun i d hi => ?_⟩
  · show (w.heap.modify b _)[b]? = _
    rw [Array.getElem?_modify]
    simp [h1]
  · rw [List.getElem?_set] at hi
    rw [Array.getElem?_setIfInBounds]
    split at hi
    · rename_i e1
      subst e1
      rw [if_pos rfl, if_pos (by omega)]
      cases hi
      rfl
    · rename_i e1
      rw [if_neg e1]
      exact h5 i d hi
theorem RowB.alloc {e : TypeId} {w : World} {b cap : Nat} {l : List UInt8} (h : RowB e w b cap l) (o : Obj) : RowB e (w.alloc o) b cap l := by
  obtain ⟨arr, lo, hi, h1, h2⟩ := h
  have hb : b < w.heap.size := (Array.getElem?_eq_some_iff.1 h1).1
  exact ⟨arr, lo, hi, by show (w.heap.push o)[b]? = _; rw [Array.getElem?_push, if_neg (by omega)]; exact h1, h2⟩
theorem RowB.below {e : TypeId} {w w' : World} {b cap B : Nat} {l : List UInt8} (h : RowB e w b cap l) (hb : Below B w w') (hlt : b < B) : RowB e w' b cap l := by
  obtain ⟨arr, lo, hi, h1, h2⟩ := h
  exact ⟨arr, lo, hi, by rw [hb.block b hlt]; exact h1, h2⟩
theorem RowB.str {e : TypeId} {w : World} {b cap : Nat} {l : List UInt8} (h : RowB e w b cap l) {P : Program} {src dst : TypeId} (c : Nat) (hs : P.underlying src = some (.slice e)) (he : P.underlying e = some (.int .u8)) (hd : P.underlying dst = some .string) :
    (convert src dst (.slice (some ⟨b, 0, none⟩) l.length c)).run P w = .ok (.string ⟨l.toArray⟩) w :=
  run_convert_bytes_back w src dst e _ c l hs he hd fun j hj => by
    have ha : (⟨b, 0, none⟩ : Addr).add j = ⟨b, j, none⟩ := by unfold Addr.add; split <;> simp_all
    rw [ha]
    exact h.cell (List.getElem?_eq_getElem hj)
theorem RowB.made {P : Program} {src dst e : TypeId} (s : ByteArray) (w : World) (hs : P.underlying src = some .string) (hd : P.underlying dst = some (.slice e)) (he : P.underlying e = some (.int .u8)) :
    ∃ (cap : Nat) (o : Obj), (convert src dst (.string s)).run P w = .ok (.slice (some ⟨w.heap.size, 0, none⟩) s.size cap) (w.drew.alloc o) ∧ s.size ≤ cap ∧ RowB e (w.alloc o) w.heap.size cap s.data.toList := by
  have hge := grownCap_ge w s.size 0 e
  have hsz : s.data.size = s.size := rfl
  have hC : (bytesRow s (grownCap w s.size 0 e)).size = grownCap w s.size 0 e := by simp [bytesRow, hsz]; omega
  refine ⟨grownCap w s.size 0 e, _, run_bytes_of_string w src dst e s hs hd he, hge, _, _, _, heap_alloc_new w _, .inl (by rw [hC]; exact Nat.le_refl _), hC, by simpa [hsz] using hge, fun j c hj => ?_⟩
  have hj' : j < s.data.size := by
    have := (List.getElem?_eq_some_iff.1 hj).1
    simpa using this
  rw [bytesRow_at s _ j hj']
  rw [Array.getElem?_toList, Array.getElem?_eq_getElem hj'] at hj
  cases hj
  rfl
end Go.Rb

namespace Go.Rb
open Go.RowKit Go.Ev
def vbytes (l : List UInt8) : List Value := l.map fun c => .int .u8 (c.toNat : Int)
/-- What append reads: a text or a slice that reads as m. -/
structure Src (P : Program) (w : World) (v : Value) (m : List UInt8) : Prop where
  len : ∀ w' : World, (Builtin.lenOf v).run P w' = .ok m.length w'
  read : ∀ w' : World, w'.heap = w.heap → (Builtin.firstCells 1 m.length v).run P w' = .ok (vbytes m).toArray w'
theorem Src.str (P : Program) (w : World) (s : ByteArray) : Src P w (.string s) s.data.toList := by
  refine ⟨fun w' => by simp [Builtin.lenOf], fun w' _ => ?_⟩
  simp only [Builtin.firstCells, Sem.run_pure]
  congr 1
  apply Array.ext'
  simp [vbytes, ByteArray.extract, ByteArray.copySlice]
  exact List.take_of_length_le (by simp)
theorem Src.row {P : Program} {w : World} {b cap c : Nat} {l : List UInt8} (h : RowB 5 w b cap l) : Src P w (.slice (some ⟨b, 0, none⟩) l.length c) l := by
  refine ⟨fun w' => rfl, fun w' hw => ?_⟩
  refine run_firstCells_some w' 1 _ _ l.length c (vbytes l) (by simp [vbytes]) fun j v hj => ?_
  have ha : (⟨b, 0, none⟩ : Addr).add j = ⟨b, j, none⟩ := by unfold Addr.add; split <;> simp_all
  rw [ha]
  simp only [vbytes, List.getElem?_map, Option.map_eq_some_iff] at hj
  obtain ⟨c, hc, rfl⟩ := hj
  have := h.cell hc
  simpa [World.cell?, hw] using this
/-- Cells written over. -/
theorem run_stores' {P : Program} (b el : Nat) (fr : Nat × Nat) : ∀ (vs : List Value) (off i : Nat) (w : World) (arr : Array Value), w.heap[b]? = some (.cells arr el fr) → off + i + vs.length ≤ arr.size →
    (∀ i, i < arr.size → ¬ (fr.1 ≤ i ∧ i < fr.2)) → (∀ v ∈ vs, v.oneCell' = true) →
    ∃ w' arr', (storeCells ⟨b, off, none⟩ vs i).run P w = .ok () w' ∧ w'.heap[b]? = some (.cells arr' el fr) ∧ arr'.size = arr.size ∧ (∀ j, arr'[j]? = if off + i ≤ j ∧ j < off + i + vs.length then vs[j - (off + i)]? else arr[j]?) ∧
      (∀ k, k ≠ b → w'.heap[k]? = w.heap[k]?) ∧ w'.heap.size = w.heap.size ∧ w'.os = w.os ∧ w'.tape = w.tape ∧ w'.output = w.output
  | [], off, i, w, arr, hb, _, _, _ => ⟨w, arr, rfl, hb, rfl, fun j => by rw [if_neg (by simp <;> omega)], fun _ _ => rfl, rfl, rfl, rfl, rfl⟩
  | v :: vs, off, i, w, arr, hb, hl, hf, h1 => by
    simp only [List.length_cons] at hl
    have hcell : w.cell? ⟨b, off + i, none⟩ = some arr[off + i] := by simp [World.cell?, hb]
    have hfz : w.frozen? ⟨b, off + i, none⟩ = false := by
      simp only [World.frozen?, hb]
      have := hf (off + i) (by omega)
      cases h : decide (fr.1 ≤ off + i) && decide (off + i < fr.2)
      · rfl
      · simp at h; exact absurd h this
    have hb1 : (w.setCell ⟨b, off + i, none⟩ v).heap[b]? = some (.cells (arr.setIfInBounds (off + i) v) el fr) := by
      simp [World.setCell, Array.getElem?_modify, hb]
    obtain ⟨w', arr', e1, e2, e3, e4, e5, e6, e7, e8, e9⟩ := run_stores' b el fr vs off (i + 1) (w.setCell ⟨b, off + i, none⟩ v) (arr.setIfInBounds (off + i) v) hb1 (by simp; omega) (by simpa using hf) (fun u hu => h1 u (by simp [hu]))
    refine ⟨w', arr', ?_, e2, by simpa using e3, fun j => ?_, fun k hk => ?_, by simpa using e6, e7, e8, e9⟩
    · unfold storeCells
      simp only [Sem.run_bind]
      rw [add_off, run_store P w _ v .plain (h1 v (by simp)), hcell]
      simp only [hfz, Bool.false_eq_true, if_false, Result.andThen_ok]
      exact e1
    · rw [e4 j, Array.getElem?_setIfInBounds]
      simp only [List.length_cons]
      by_cases c1 : off + (i + 1) ≤ j ∧ j < off + (i + 1) + vs.length
      · rw [if_pos c1, if_pos (by omega), show j - (off + i) = (j - (off + (i + 1))) + 1 from by omega, List.getElem?_cons_succ]
      · rw [if_neg c1]
        by_cases c2 : off + i = j
        · rw [if_pos c2, if_pos (by omega), if_pos (by omega), show j - (off + i) = 0 from by omega]; rfl
        · rw [if_neg c2, if_neg (by omega)]
    · rw [e5 k hk]
      simp only [World.setCell, Array.getElem?_modify]
      rw [if_neg (by omega)]
theorem run_append_row {P : Program} {ts : Array TypeId} {ty t u : TypeId} {d : TypeDesc} {i : TypeInfo} {w : World} {b cap B : Nat} {l m : List UInt8} {v : Value}
    (h0 : ts[0]? = some t) (h1 : ts[1]? = some u) (ht : P.underlying t = some (.slice 5)) (hu : P.underlying u = some d) (hd : ∀ k, d ≠ .int k)
    (hi : P.info? 5 = some i) (hz0 : i.zero = some (.int .u8 0)) (hz1 : i.size = 1) (hz2 : i.bytes = 1)
    (hr : RowB 5 w b cap l) (hs : Src P w v m) (hB : B ≤ b) (hcap : cap ≤ 9223372036854775807) (hbd : l.length + m.length ≤ 1000000) :
    ∃ b' cap' w', (Builtin.append_ ts ty #[.slice (some ⟨b, 0, none⟩) l.length cap, v]).run P w = .ok (.slice (some ⟨b', 0, none⟩) (l.length + m.length) cap') w' ∧
      RowB 5 w' b' cap' (l ++ m) ∧ Below B w w' ∧ B ≤ b' ∧ cap' ≤ 9223372036854775807 ∧ l.length + m.length ≤ cap' := by
  have hr0 := hr
  obtain ⟨arr, lo, hi', hh, hmk, hsz, hle, hat⟩ := hr
  have hb : b < w.heap.size := (Array.getElem?_eq_some_iff.1 hh).1
  have hsrc := hs.read
  rw [← hz1] at hsrc
  by_cases hfit : l.length + m.length ≤ cap
  · have hrun := append_fits (P := P) (w := w) (ty := ty) (base := some ⟨b, 0, none⟩) (sLen := l.length) (sCap := cap) h0 h1 ht hu hd hi hs.len (hsrc w rfl) hfit
    have hadd : (⟨b, 0, none⟩ : Addr).add (l.length * i.size) = ⟨b, l.length, none⟩ := by
      rw [hz1]; unfold Addr.add; split <;> simp_all
    obtain ⟨w', arr', e1, e2, e3, e4, e5, e6, e7, e8, e9⟩ := run_stores' b 5 (lo, hi') (P := P) (vbytes m) l.length 0 w arr hh (by simp [vbytes]; omega) (fun j hj hc => by
        simp only at hc
        omega) (by simp [vbytes, Value.oneCell'])
    simp only [hadd, e1, Result.andThen_ok] at hrun
    refine ⟨b, cap, w', hrun, ⟨arr', lo, hi', e2, hmk, e3.trans hsz, by simpa using hfit, fun j c hj => ?_⟩, ⟨e7, e8, e9, by omega, fun k hk => e5 k (by omega)⟩, hB, hcap, hfit⟩
    rw [e4 j]
    have hjl := (List.getElem?_eq_some_iff.1 hj).1
    simp at hjl
    by_cases hlt : j < l.length
    · rw [if_neg (by omega)]
      rw [List.getElem?_append_left hlt] at hj
      exact hat j c hj
    · rw [if_pos (by simp [vbytes]; omega)]
      rw [List.getElem?_append_right (by omega)] at hj
      simp only [vbytes, List.getElem?_map, Nat.add_zero, hj, Option.map_some]
  · have hold := (Src.row (P := P) (c := cap) hr0).read
    rw [← hz1] at hold
    have hrun := append_grows (P := P) (w := w) (ty := ty) (base := some ⟨b, 0, none⟩) (sLen := l.length) (sCap := cap) (us := vbytes l) h0 h1 ht hu hd hi hz0 hs.len (hsrc w.drew rfl) (hold w.drew rfl) (by omega) (by rw [hz2]; omega) (by omega)
    have hge := grownCap_ge w (l.length + m.length) cap 5
    have hmx := grownCap_le_maxLen w (l.length + m.length) cap 5 (by unfold maxLen; omega)
    unfold maxLen at hmx
    refine ⟨w.heap.size, _, _, hrun, ⟨_, 0, 0, heap_alloc_new w.drew _, .inr rfl, ?_, by simpa using hge, fun j c hj => ?_⟩, (Below.refl _ _).drew.alloc (by show B ≤ w.heap.size; omega) _, by omega, by omega, hge⟩
    · simp [vbytes, Builtin.zeroCells, Value.cells]
      omega
    · have hjl := (List.getElem?_eq_some_iff.1 hj).1
      simp at hjl
      have e : (vbytes l).toArray ++ (vbytes m).toArray = (vbytes (l ++ m)).toArray := by simp [vbytes]
      rw [e, Array.getElem?_append_left (by simp [vbytes]; omega), List.getElem?_toArray]
      simp only [vbytes, List.getElem?_map, hj, Option.map_some]
end Go.Rb

namespace Go.Rb
open Go.RowKit Go.Ev
/-- A slice of bytes that reads as l: nil, or a row in a block from B on. -/
def RB (B : Nat) (w : World) (v : Value) (l : List UInt8) : Prop :=
  (v = .slice none 0 0 ∧ l = []) ∨ ∃ b cap, v = .slice (some ⟨b, 0, none⟩) l.length cap ∧ B ≤ b ∧ cap ≤ 9223372036854775807 ∧ RowB 5 w b cap l
theorem RB.nil (B : Nat) (w : World) : RB B w (.slice none 0 0) [] := .inl ⟨rfl, rfl⟩
theorem RB.alloc {B : Nat} {w : World} {v : Value} {l : List UInt8} (h : RB B w v l) (o : Obj) : RB B (w.alloc o) v l := by
  rcases h with h | ⟨b, cap, h1, h2, h3, h4⟩
  · exact .inl h
  · exact .inr ⟨b, cap, h1, h2, h3, h4.alloc o⟩
theorem RB.below {B : Nat} {w w' : World} {v : Value} {l : List UInt8} (h : RB B w v l) (hb : Below w.heap.size w w') : RB B w' v l := by
  rcases h with h | ⟨b, cap, h1, h2, h3, h4⟩
  · exact .inl h
  · refine .inr ⟨b, cap, h1, h2, h3, h4.below hb ?_⟩
    obtain ⟨_, _, _, hh, _⟩ := h4
    exact (Array.getElem?_eq_some_iff.1 hh).1
theorem RB.shape {B : Nat} {w : World} {v : Value} {l : List UInt8} (h : RB B w v l) : ∃ p c, v = .slice p l.length c ∧ l.length ≤ c ∧ c ≤ 9223372036854775807 := by
  rcases h with ⟨rfl, rfl⟩ | ⟨b, cap, h1, _, h3, _, _, _, _, _, _, h4, _⟩
  · exact ⟨none, 0, rfl, Nat.le_refl _, by decide⟩
  · exact ⟨_, cap, h1, h4, h3⟩
theorem RB.str {B : Nat} {w : World} {v : Value} {l : List UInt8} (h : RB B w v l) {P : Program} {src dst : TypeId} (hs : P.underlying src = some (.slice 5)) (he : P.underlying 5 = some (.int .u8)) (hd : P.underlying dst = some .string) :
    (convert src dst v).run P w = .ok (.string ⟨l.toArray⟩) w := by
  rcases h with ⟨rfl, rfl⟩ | ⟨b, cap, rfl, _, _, h4⟩
  · rw [run_convert_bytes_string w src dst 5 none 0 0 hs he hd]
    rfl
  · exact h4.str cap hs he hd
theorem run_append_rb {P : Program} {ts : Array TypeId} {ty t u : TypeId} {d : TypeDesc} {i : TypeInfo} {w : World} {B : Nat} {l m : List UInt8} {s v : Value}
    (h0 : ts[0]? = some t) (h1 : ts[1]? = some u) (ht : P.underlying t = some (.slice 5)) (hu : P.underlying u = some d) (hd : ∀ k, d ≠ .int k)
    (hi : P.info? 5 = some i) (hz0 : i.zero = some (.int .u8 0)) (hz1 : i.size = 1) (hz2 : i.bytes = 1)
    (hr : RB B w s l) (hs : Src P w v m) (hB : B ≤ w.heap.size) (hbd : l.length + m.length ≤ 1000000) :
    ∃ s' w', (Builtin.append_ ts ty #[s, v]).run P w = .ok s' w' ∧ RB B w' s' (l ++ m) ∧ Below B w w' := by
  rcases hr with ⟨rfl, rfl⟩ | ⟨b, cap, rfl, hb, hcap, hrow⟩
  · have hsrc := hs.read
    rw [← hz1] at hsrc
    by_cases hm : m = []
    · subst hm
      have hrun := append_fits (P := P) (w := w) (ty := ty) (base := none) (sLen := 0) (sCap := 0) h0 h1 ht hu hd hi hs.len (hsrc w rfl) (Nat.le_refl _)
      exact ⟨_, _, hrun, .inl ⟨rfl, rfl⟩, Below.refl _ _⟩
    · have hml : 0 < m.length := List.length_pos_iff.2 hm
      simp only [List.length_nil, Nat.zero_add] at hbd
      have hold : (Builtin.firstCells i.size 0 (.slice none 0 0)).run P w.drew = .ok ([] : List Value).toArray w.drew := run_firstCells_none w.drew i.size 0 0 0
      have hrun := append_grows (P := P) (w := w) (ty := ty) (base := none) (sLen := 0) (sCap := 0) (us := []) h0 h1 ht hu hd hi hz0 hs.len (hsrc w.drew rfl) hold (by omega) (by rw [hz2]; omega) (by omega)
      have hge := grownCap_ge w (0 + m.length) 0 5
      have hmx := grownCap_le_maxLen w (0 + m.length) 0 5 (by unfold maxLen; omega)
      unfold maxLen at hmx
      simp only [Nat.zero_add] at hrun hge hmx
      refine ⟨_, _, hrun, .inr ⟨w.heap.size, grownCap w m.length 0 5, by simp, hB, by omega, ⟨_, 0, 0, heap_alloc_new w.drew _, .inr rfl, ?_, by simpa using hge, fun j c hj => ?_⟩⟩, (Below.refl _ _).drew.alloc hB _⟩
      · simp [vbytes, Builtin.zeroCells, Value.cells]
        omega
      · have hjl := (List.getElem?_eq_some_iff.1 hj).1
        simp at hjl hj
        rw [Array.getElem?_append_left (by simp [vbytes]; omega), Array.getElem?_append_right (by simp)]
        simp [vbytes, hj]
  · obtain ⟨b', cap', w', e1, e2, e3, e4, e5, _⟩ := run_append_row (P := P) (ts := ts) (ty := ty) h0 h1 ht hu hd hi hz0 hz1 hz2 hrow hs hb hcap hbd
    exact ⟨_, w', e1, .inr ⟨b', cap', by rw [List.length_append], e4, e5, e2⟩, e3⟩
theorem wpList_append_rb {P : Program} {ops : Array Oper} {rest : List Oper} {o : Oper} {a : Act} {w : World} {Q : Exit → Act → World → Prop} (hgd : o.guard = none) (s x : Operand) (t u : TypeId)
    (ho : o.op = .call { callee := .builtin .append, args := #[s, x], argTypes := #[t, u] }) {d : TypeDesc} {i : TypeInfo}
    (ht : P.underlying t = some (.slice 5)) (hu : P.underlying u = some d) (hd : ∀ k, d ≠ .int k) (hi : P.info? 5 = some i) (hz0 : i.zero = some (.int .u8 0)) (hz1 : i.size = 1) (hz2 : i.bytes = 1)
    {B : Nat} {l m : List UInt8} {sv v : Value} (hs : a.eval s = sv) (hx : a.eval x = v) (hr : RB B w sv l) (hv : Src P w v m) (hB : B ≤ w.heap.size) (hbd : l.length + m.length ≤ 1000000)
    (h : ∀ s' w', RB B w' s' (l ++ m) → Below B w w' → wpList P ops Q rest (a.put o.dst s') w') : wpList P ops Q (o :: rest) a w :=
  wpList_plain hgd fun _ hK => by
    obtain ⟨s', w', e1, e2, e3⟩ := run_append_rb (P := P) (ts := #[t, u]) (ty := o.type) (t := t) (u := u) rfl rfl ht hu hd hi hz0 hz1 hz2 hr hv hB hbd
    unfold Oper.wp execOp
    simp only [ho, resolve, invoke, builtin, Sem.run_bind, Sem.run_pure, Result.andThen_ok, List.map_toArray, List.map_cons, List.map_nil, hs, hx, e1]
    exact hK _ _ (h s' w' e2 e3)
/-- A literal's row as a source. -/
theorem Src.lit (P : Program) (w : World) (l : List UInt8) : Src P (w.alloc (.cells (vbytes l).toArray 5)) (.slice (some ⟨w.heap.size, 0, none⟩) l.length l.length) l := by
  refine Src.row (cap := l.length) ⟨_, 0, 0, heap_alloc_new w _, .inr rfl, by simp [vbytes], Nat.le_refl _, fun j c hj => ?_⟩
  rw [List.getElem?_toArray]
  simp only [vbytes, List.getElem?_map, hj, Option.map_some]
end Go.Rb

namespace Go.Rb
open Go.RowKit Go.Ev
/-- Of what was there nothing has turned but what lies behind the first n cells of row g. -/
structure KG (g n : Nat) (w w' : World) : Prop where
  os : w'.os = w.os
  tape : w'.tape = w.tape
  output : w'.output = w.output
  size : w.heap.size ≤ w'.heap.size
  block : ∀ k, k < w.heap.size → k ≠ g → w'.heap[k]? = w.heap[k]?
  row : ∀ arr e fr, w.heap[g]? = some (.cells arr e fr) → ∃ arr', w'.heap[g]? = some (.cells arr' e fr) ∧ arr'.size = arr.size ∧ ∀ j, j < n → arr'[j]? = arr[j]?
theorem KG.of {w w' : World} (g n : Nat) (h : Below w.heap.size w w') : KG g n w w' :=
  ⟨h.os, h.tape, h.output, h.size, fun k hk _ => h.block k hk, fun arr e fr hg => ⟨arr, (h.block g (Array.getElem?_eq_some_iff.1 hg).1).trans hg, rfl, fun _ _ => rfl⟩⟩
theorem KG.below {B g n : Nat} {w w' : World} (h : KG g n w w') (hB : B ≤ g) (hs : B ≤ w.heap.size) : Below B w w' := ⟨h.os, h.tape, h.output, h.size, fun k hk => h.block k (by omega) (by omega)⟩
theorem KG.after {g n : Nat} {a b c : World} (h : Below a.heap.size a b) (k : KG g n b c) : KG g n a c :=
  ⟨k.os.trans h.os, k.tape.trans h.tape, k.output.trans h.output, Nat.le_trans h.size k.size, fun i hi hg => (k.block i (Nat.lt_of_lt_of_le hi h.size) hg).trans (h.block i hi), fun arr e fr hg => k.row arr e fr ((h.block g (Array.getElem?_eq_some_iff.1 hg).1).trans hg)⟩
theorem KG.then {g n : Nat} {a b c : World} (h : KG g n a b) (k : Below a.heap.size b c) : KG g n a c :=
  ⟨k.os.trans h.os, k.tape.trans h.tape, k.output.trans h.output, Nat.le_trans h.size k.size, fun i hi hg => (k.block i hi).trans (h.block i hi hg), fun arr e fr hg => by
    obtain ⟨arr', h1, h2⟩ := h.row arr e fr hg
    exact ⟨arr', (k.block g (Array.getElem?_eq_some_iff.1 hg).1).trans h1, h2⟩⟩
/-- A shorter look at a row. -/
theorem RowB.pre {e : TypeId} {w : World} {b cap : Nat} {l m : List UInt8} (h : RowB e w b cap (l ++ m)) : RowB e w b cap l := by
  obtain ⟨arr, lo, hi, h1, h2, h3, h4, h5⟩ := h
  refine ⟨arr, lo, hi, h1, h2, h3, by rw [List.length_append] at h4; omega, fun j c hj => h5 j c ?_⟩
  rw [List.getElem?_append_left (List.getElem?_eq_some_iff.1 hj).1]
  exact hj
/-- The block that a slice lies in. -/
def blk (v : Value) : Nat := match v with
  | .slice (some a) _ _ => a.block
  | _ => 0
/-- append of bytes to bytes of the call's own: what is made, and that all else is left. -/
theorem run_append_kg {P : Program} {ts : Array TypeId} {ty t u : TypeId} {d : TypeDesc} {i : TypeInfo} {w : World} {B : Nat} {l m : List UInt8} {s v : Value}
    (h0 : ts[0]? = some t) (h1 : ts[1]? = some u) (ht : P.underlying t = some (.slice 5)) (hu : P.underlying u = some d) (hd : ∀ k, d ≠ .int k)
    (hi : P.info? 5 = some i) (hz0 : i.zero = some (.int .u8 0)) (hz1 : i.size = 1) (hz2 : i.bytes = 1)
    (hr : RB B w s l) (hs : Src P w v m) (hB : B ≤ w.heap.size) (hbd : l.length + m.length ≤ 1000000) :
    ∃ s' w', (Builtin.append_ ts ty #[s, v]).run P w = .ok s' w' ∧ RB B w' s' (l ++ m) ∧ ((∃ a n c, s = .slice (some a) n c ∧ KG a.block l.length w w' ∧ blk s' = a.block) ∨ (Below w.heap.size w w' ∧ (s' = .slice none 0 0 ∨ blk s' = w.heap.size))) := by
  rcases hr with ⟨rfl, rfl⟩ | ⟨b, cap, rfl, hb, hcap, hrow⟩
  · have hsrc := hs.read
    rw [← hz1] at hsrc
    by_cases hm : m = []
    · subst hm
      have hrun := append_fits (P := P) (w := w) (ty := ty) (base := none) (sLen := 0) (sCap := 0) h0 h1 ht hu hd hi hs.len (hsrc w rfl) (Nat.le_refl _)
      exact ⟨_, _, hrun, .inl ⟨rfl, rfl⟩, .inr ⟨Below.refl _ _, .inl rfl⟩⟩
    · have hml : 0 < m.length := List.length_pos_iff.2 hm
      simp only [List.length_nil, Nat.zero_add] at hbd
      have hold : (Builtin.firstCells i.size 0 (.slice none 0 0)).run P w.drew = .ok ([] : List Value).toArray w.drew := run_firstCells_none w.drew i.size 0 0 0
      have hrun := append_grows (P := P) (w := w) (ty := ty) (base := none) (sLen := 0) (sCap := 0) (us := []) h0 h1 ht hu hd hi hz0 hs.len (hsrc w.drew rfl) hold (by omega) (by rw [hz2]; omega) (by omega)
      have hge := grownCap_ge w (0 + m.length) 0 5
      have hmx := grownCap_le_maxLen w (0 + m.length) 0 5 (by unfold maxLen; omega)
      unfold maxLen at hmx
      simp only [Nat.zero_add] at hrun hge hmx
      refine ⟨_, _, hrun, .inr ⟨w.heap.size, grownCap w m.length 0 5, by simp, hB, by omega, ⟨_, 0, 0, heap_alloc_new w.drew _, .inr rfl, ?_, by simpa using hge, fun j c hj => ?_⟩⟩, .inr ⟨(Below.refl _ _).drew.alloc (Nat.le_refl _) _, .inr rfl⟩⟩
      · simp [vbytes, Builtin.zeroCells, Value.cells]
        omega
      · have hjl := (List.getElem?_eq_some_iff.1 hj).1
        simp at hjl hj
        rw [Array.getElem?_append_left (by simp [vbytes]; omega), Array.getElem?_append_right (by simp)]
        simp [vbytes, hj]
  · have hr0 := hrow
    obtain ⟨arr, lo, hi', hh, hmk, hsz, hle, hat⟩ := hrow
    have hbl : b < w.heap.size := (Array.getElem?_eq_some_iff.1 hh).1
    have hsrc := hs.read
    rw [← hz1] at hsrc
    by_cases hfit : l.length + m.length ≤ cap
    · have hrun := append_fits (P := P) (w := w) (ty := ty) (base := some ⟨b, 0, none⟩) (sLen := l.length) (sCap := cap) h0 h1 ht hu hd hi hs.len (hsrc w rfl) hfit
      have hadd : (⟨b, 0, none⟩ : Addr).add (l.length * i.size) = ⟨b, l.length, none⟩ := by
        rw [hz1]; unfold Addr.add; split <;> simp_all
      obtain ⟨w', arr', e1, e2, e3, e4, e5, e6, e7, e8, e9⟩ := run_stores' b 5 (lo, hi') (P := P) (vbytes m) l.length 0 w arr hh (by simp [vbytes]; omega) (fun j hj hc => by
          simp only at hc
          omega) (by simp [vbytes, Value.oneCell'])
      simp only [hadd, e1, Result.andThen_ok] at hrun
      refine ⟨_, w', hrun, .inr ⟨b, cap, by rw [List.length_append], hb, hcap, ⟨arr', lo, hi', e2, hmk, e3.trans hsz, by simpa using hfit, fun j c hj => ?_⟩⟩, .inl ⟨_, _, _, rfl, ⟨e7, e8, e9, by omega, fun k _ hk => e5 k hk, fun arr2 e fr hg => ?_⟩, rfl⟩⟩
      · rw [e4 j]
        have hjl := (List.getElem?_eq_some_iff.1 hj).1
        simp at hjl
        by_cases hlt : j < l.length
        · rw [if_neg (by omega)]
          rw [List.getElem?_append_left hlt] at hj
          exact hat j c hj
        · rw [if_pos (by simp [vbytes]; omega)]
          rw [List.getElem?_append_right (by omega)] at hj
          simp only [vbytes, List.getElem?_map, Nat.add_zero, hj, Option.map_some]
      · have hg2 : w.heap[b]? = some (.cells arr2 e fr) := hg
        rw [hh] at hg2
        cases hg2
        exact ⟨arr', e2, e3, fun j hj => by rw [e4 j, if_neg (by omega)]⟩
    · have hold := (Src.row (P := P) (c := cap) hr0).read
      rw [← hz1] at hold
      have hrun := append_grows (P := P) (w := w) (ty := ty) (base := some ⟨b, 0, none⟩) (sLen := l.length) (sCap := cap) (us := vbytes l) h0 h1 ht hu hd hi hz0 hs.len (hsrc w.drew rfl) (hold w.drew rfl) (by omega) (by rw [hz2]; omega) (by omega)
      have hge := grownCap_ge w (l.length + m.length) cap 5
      have hmx := grownCap_le_maxLen w (l.length + m.length) cap 5 (by unfold maxLen; omega)
      unfold maxLen at hmx
      refine ⟨_, _, hrun, .inr ⟨w.heap.size, grownCap w (l.length + m.length) cap 5, by rw [List.length_append], hB, by omega, ⟨_, 0, 0, heap_alloc_new w.drew _, .inr rfl, ?_, by simpa using hge, fun j c hj => ?_⟩⟩, .inr ⟨(Below.refl _ _).drew.alloc (Nat.le_refl _) _, .inr rfl⟩⟩
      · simp [vbytes, Builtin.zeroCells, Value.cells]
        omega
      · have hjl := (List.getElem?_eq_some_iff.1 hj).1
        simp at hjl
        have e : (vbytes l).toArray ++ (vbytes m).toArray = (vbytes (l ++ m)).toArray := by simp [vbytes]
        rw [e, Array.getElem?_append_left (by simp [vbytes]; omega), List.getElem?_toArray]
        simp only [vbytes, List.getElem?_map, hj, Option.map_some]
theorem wpList_append_kg {P : Program} {ops : Array Oper} {rest : List Oper} {o : Oper} {a : Act} {w : World} {Q : Exit → Act → World → Prop} (hgd : o.guard = none) (s x : Operand) (t u : TypeId)
    (ho : o.op = .call { callee := .builtin .append, args := #[s, x], argTypes := #[t, u] }) {d : TypeDesc} {i : TypeInfo}
    (ht : P.underlying t = some (.slice 5)) (hu : P.underlying u = some d) (hd : ∀ k, d ≠ .int k) (hi : P.info? 5 = some i) (hz0 : i.zero = some (.int .u8 0)) (hz1 : i.size = 1) (hz2 : i.bytes = 1)
    {B : Nat} {l m : List UInt8} {sv v : Value} (hs : a.eval s = sv) (hx : a.eval x = v) (hr : RB B w sv l) (hv : Src P w v m) (hB : B ≤ w.heap.size) (hbd : l.length + m.length ≤ 1000000)
    (h : ∀ p c w', RB B w' (.slice p (l.length + m.length) c) (l ++ m) → ((∃ a n c', sv = .slice (some a) n c' ∧ KG a.block l.length w w' ∧ blk (.slice p (l.length + m.length) c) = a.block) ∨ (Below w.heap.size w w' ∧ (p = none ∨ blk (.slice p (l.length + m.length) c) = w.heap.size))) → wpList P ops Q rest (a.put o.dst (.slice p (l.length + m.length) c)) w') : wpList P ops Q (o :: rest) a w :=
  wpList_plain hgd fun _ hK => by
    obtain ⟨s', w', e1, e2, e4⟩ := run_append_kg (P := P) (ts := #[t, u]) (ty := o.type) (t := t) (u := u) rfl rfl ht hu hd hi hz0 hz1 hz2 hr hv hB hbd
    obtain ⟨p, c, rfl, _, _⟩ := e2.shape
    rw [List.length_append] at e1 e2 e4
    unfold Oper.wp execOp
    simp only [ho, resolve, invoke, builtin, Sem.run_bind, Sem.run_pure, Result.andThen_ok, List.map_toArray, List.map_cons, List.map_nil, hs, hx, e1]
    exact hK _ _ (h p c w' e2 (e4.imp id (fun e => ⟨e.1, e.2.imp (fun e => by injection e) id⟩)))
end Go.Rb

namespace Go.Mp
open Go.Ev Go.RowKit
def keyIs (v : Value) (k : ByteArray) : Bool :=
  match v with
  | .string s => decide (s = k)
  | _ => false
theorem keyIs_iff (v : Value) (k : ByteArray) : keyIs v k = true ↔ v = .string k := by
  unfold keyIs
  split
  · simp
  · rename_i h
    constructor
    · intro h; cases h
    · rintro rfl; exact absurd rfl (h k)
def mget (k : ByteArray) : List MapEntry → Option Value
  | [] => none
  | e :: es => if keyIs e.key k = true then some e.val else mget k es
def StrKeys (l : List MapEntry) : Prop := ∀ e ∈ l, ∃ s, e.key = .string s
/-- Block b is a map that answers F. -/
def MapAt (w : World) (b : Nat) (F : ByteArray → Option Value) : Prop := ∃ ms clock, w.heap[b]? = some (.map ms clock) ∧ StrKeys ms.toList ∧ ∀ k, mget k ms.toList = F k
theorem MapAt.lt {w : World} {b : Nat} {F : ByteArray → Option Value} (h : MapAt w b F) : b < w.heap.size := by
  obtain ⟨ms, c, h1, _⟩ := h
  exact (Array.getElem?_eq_some_iff.1 h1).1
theorem MapAt.same {w w' : World} {b : Nat} {F : ByteArray → Option Value} (h : MapAt w b F) (hw : w'.heap[b]? = w.heap[b]?) : MapAt w' b F := by
  obtain ⟨ms, c, h1, h2⟩ := h
  exact ⟨ms, c, hw.trans h1, h2⟩
theorem MapAt.made (w : World) : MapAt (w.alloc (.map #[] 0)) w.heap.size (fun _ => none) :=
  ⟨#[], 0, heap_alloc_new w _, (fun e he => by cases he), fun _ => rfl⟩
theorem beq_str (x y : ByteArray) : (x == y) = decide (x = y) := by
  rw [beq_toListBytes]
  by_cases h : x = y
  · subst h; simp
  · rw [decide_eq_false h, beq_eq_false_iff_ne]
    intro hh
    rw [Go.Lib.toList_data, Go.Lib.toList_data] at hh
    exact h (ByteArray.ext (Array.ext' hh))
theorem find_str (k : ByteArray) : ∀ (l : List MapEntry) (i : Nat), StrKeys l →
    match mget k l with
    | none => Instr.findNow .string (.string k) l i = some none
    | some v => ∃ j m, i ≤ j ∧ l[j - i]? = some m ∧ m.key = .string k ∧ m.val = v ∧ Instr.findNow .string (.string k) l i = some (some (j, v)) ∧ ∀ x, x < j - i → ∀ e, l[x]? = some e → e.key ≠ .string k
  | [], i, _ => rfl
  | e :: l, i, h => by
    obtain ⟨s, hs⟩ := h e (by simp)
    unfold mget
    by_cases he : e.key = .string k
    · rw [if_pos ((keyIs_iff _ _).2 he)]
      have hsk : s = k := by rw [hs] at he; cases he; rfl
      subst hsk
      refine ⟨i, e, Nat.le_refl _, by simp, he, rfl, ?_, fun x hx => by omega⟩
      simp [Instr.findNow, hs, Instr.sameNow, beq_str]
    · rw [if_neg (fun h => he ((keyIs_iff _ _).1 h))]
      have hsk : ¬ k = s := fun hh => he (by rw [hs, hh])
      have hq : Instr.sameNow .string (.string k) (.string s) = some false := by
        simp [Instr.sameNow, beq_str, hsk]
      have ih := find_str k l (i + 1) fun e he => h e (by simp [he])
      cases hm : mget k l with
      | none =>
        rw [hm] at ih
        simp only at ih ⊢
        simp [Instr.findNow, hs, hq, ih]
      | some v =>
        rw [hm] at ih
        simp only at ih ⊢
        obtain ⟨j, m, h1, h2, h3, h4, h5, h6⟩ := ih
        refine ⟨j, m, by omega, ?_, h3, h4, ?_, fun x hx e' hx' => ?_⟩
        · rw [show j - i = (j - (i + 1)) + 1 from by omega, List.getElem?_cons_succ]; exact h2
        · simp [Instr.findNow, hs, hq, h5]
        · cases x with
          | zero => simp at hx'; subst hx'; exact he
          | succ x => rw [List.getElem?_cons_succ] at hx'; exact h6 x (by omega) e' hx'
section
variable {P : Program} {w : World} {b t key elem : Nat} {F : ByteArray → Option Value}
theorem MapAt.lookup (h : MapAt w b F) (ht : P.underlying t = some (.map key elem)) (hk : P.underlying key = some .string) {z : Value} (hz : (zeroValue elem).run P w = .ok z w) (k : ByteArray) :
    (Instr.lookup t (.map (some b)) (.string k) false).run P w = .ok ((F k).getD z) w := by
  obtain ⟨ms, c, h1, h2, h3⟩ := h
  have hf := find_str k ms.toList 0 h2
  rw [h3 k] at hf
  cases hF : F k with
  | none =>
    rw [hF] at hf
    simp only at hf
    simp only [Instr.lookup, pure_bind, Sem.run_bind, run_und ht, Result.andThen_ok, run_getObj h1 (by simp), checkKey_run hk rfl, findKey_run hk hf, hz, Sem.run_pure]
    rfl
  | some v =>
    rw [hF] at hf
    simp only at hf
    obtain ⟨j, m, _, _, _, _, h5, _⟩ := hf
    simp only [Instr.lookup, pure_bind, Sem.run_bind, run_und ht, Result.andThen_ok, run_getObj h1 (by simp), checkKey_run hk rfl, findKey_run hk h5, Sem.run_pure]
    rfl
theorem lookup_nil (ht : P.underlying t = some (.map key elem)) (hk : P.underlying key = some .string) {z : Value} (hz : (zeroValue elem).run P w = .ok z w) (k : ByteArray) :
    (Instr.lookup t (.map none) (.string k) false).run P w = .ok z w := by
  have hf : Instr.findNow .string (.string k) [] 0 = some none := rfl
  simp only [Instr.lookup, pure_bind, Sem.run_bind, run_und ht, Result.andThen_ok, checkKey_run hk rfl, findKey_run hk hf, hz, Sem.run_pure]
  rfl
def upd (F : ByteArray → Option Value) (k : ByteArray) (v : Value) : ByteArray → Option Value := fun j => if j = k then some v else F j
theorem mget_modify (k : ByteArray) (v : Value) : ∀ (l : List MapEntry) (i : Nat) (m : MapEntry), l[i]? = some m → m.key = .string k → (∀ x, x < i → ∀ e, l[x]? = some e → e.key ≠ .string k) → ∀ j, mget j (l.modify i fun e => { e with key := .string k, val := v }) = if j = k then some v else mget j l
  | [], i, m, h, _, _, j => by simp at h
  | e :: l, 0, m, h, hm, _, j => by
    simp at h
    subst h
    rw [List.modify_zero_cons]
    unfold mget
    rw [hm]
    by_cases hj : j = k
    · subst hj; simp [keyIs]
    · have : ¬ k = j := fun h => hj h.symm
      simp [keyIs, this, hj]
  | e :: l, i + 1, m, h, hm, hn, j => by
    rw [List.getElem?_cons_succ] at h
    have he := hn 0 (by omega) e (by simp)
    rw [List.modify_succ_cons]
    unfold mget
    have ih := mget_modify k v l i m h hm (fun x hx e' hx' => hn (x + 1) (by omega) e' (by rw [List.getElem?_cons_succ]; exact hx')) j
    by_cases hj : j = k
    · subst hj
      rw [if_neg (fun h => he ((keyIs_iff _ _).1 h)), ih]
      simp
    · rw [ih, if_neg hj, if_neg hj]
theorem mget_push (k : ByteArray) (v : Value) (c : Nat) : ∀ (l : List MapEntry), mget k l = none → ∀ j, mget j (l ++ [{ key := .string k, val := v, born := c }]) = if j = k then some v else mget j l
  | [], _, j => by
    by_cases hj : j = k
    · subst hj; simp [mget, keyIs]
    · have : ¬ k = j := fun h => hj h.symm
      simp [mget, keyIs, this, hj]
  | e :: l, h, j => by
    unfold mget at h
    split at h
    · cases h
    · rename_i he
      have ih := mget_push k v c l h j
      rw [List.cons_append]
      unfold mget
      by_cases hj : j = k
      · subst hj
        rw [if_neg he, ih]
        simp
      · rw [ih, if_neg hj, if_neg hj]
theorem MapAt.update (h : MapAt w b F) (ht : P.underlying t = some (.map key elem)) (hk : P.underlying key = some .string) (k : ByteArray) (v : Value) :
    ∃ O, (Instr.mapUpdate t (.map (some b)) (.string k) v).run P w = .ok () { w with heap := w.heap.setIfInBounds b O } ∧ MapAt { w with heap := w.heap.setIfInBounds b O } b (upd F k v) := by
  have hlt := h.lt
  obtain ⟨ms, c, h1, h2, h3⟩ := h
  have hf := find_str k ms.toList 0 h2
  cases hm : mget k ms.toList with
  | none =>
    rw [hm] at hf
    simp only at hf
    refine ⟨.map (ms.push { key := .string k, val := v, born := c }) (c + 1), ?_, _, _, heap_set hlt, ?_, fun j => ?_⟩
    · simp only [Instr.mapUpdate, Sem.run_bind, run_und ht, Result.andThen_ok, run_getObj h1 (by simp), checkKey_run hk rfl, findKey_run hk hf, run_setObj h1 (by simp)]
    · intro e he
      simp only [Array.toList_push, List.mem_append, List.mem_singleton] at he
      rcases he with he | rfl
      · exact h2 e he
      · exact ⟨k, rfl⟩
    · rw [Array.toList_push, mget_push k v c _ hm, h3 j]
      rfl
  | some u =>
    rw [hm] at hf
    simp only at hf
    obtain ⟨j, m, _, h5, h6, h7, h8, h9⟩ := hf
    rw [Nat.sub_zero] at h5 h9
    have hi : ms[j]? = some m := by simpa using h5
    refine ⟨.map (ms.modify j fun e => { e with key := .string k, val := v }) c, ?_, _, _, heap_set hlt, ?_, fun x => ?_⟩
    · simp only [Instr.mapUpdate, Sem.run_bind, run_und ht, Result.andThen_ok, run_getObj h1 (by simp), checkKey_run hk rfl, findKey_run hk h8, Instr.keyThatStays]
      rw [hi]
      have hsb : Instr.sameBits 10000 m.key (.string k) = true := by rw [h6]; simp [Instr.sameBits, beq_str]
      simp only [Option.map_some, Option.getD_some, hsb, if_true, Sem.run_pure, Result.andThen_ok, run_setObj h1 (by simp)]
    · intro e he
      rw [Array.toList_modify] at he
      obtain ⟨x, hx, rfl⟩ := List.getElem_of_mem he
      rw [List.getElem_modify]
      split
      · exact ⟨k, rfl⟩
      · exact h2 _ (List.getElem_mem _)
    · rw [Array.toList_modify, mget_modify k v _ j m h5 h6 h9 x, h3 x]
      rfl
end
end Go.Mp

namespace Go.Mp
/-- A region that draws its order, of which the first n operations read alone: they are walked in the text's order. -/
theorem region_tail {P : Program} {id : Nat} {Q : Exit → Act → World → Prop} {a : Act} {w : World} {l : List Oper} (n : Nat) (hm : P.follows .mixedOrders = true) (hB : Region.lexTailB .any l.toArray n = true)
    (h : wpStill P l.toArray w.drew (fun a' => wpList P l.toArray Q (l.drop n) a' w.drew) (l.take n) a) : (Code.region id l.toArray true).wp P Q a w :=
  wp_region_still_tail n hm hB h
theorem wpList_mapUpdate_at {P : Program} {w : World} {ops : Array Oper} {rest : List Oper} {o : Oper} {a : Act} {Q : Exit → Act → World → Prop}
    (hg : o.guard = none) (m x v : Operand) (t : TypeId) (hop : o.op = Op.mapUpdate t m x v) {key elem b : Nat} {F : ByteArray → Option Value} (ht : P.underlying t = some (.map key elem)) (hk : P.underlying key = some .string)
    (hm : a.eval m = .map (some b)) (hown : Go.Mp.MapAt w b F) {k : ByteArray} {val : Value} (hx : a.eval x = .string k) (hv : a.eval v = val)
    (hK : ∀ w', Go.Mp.MapAt w' b (upd F k val) → w'.heap.size = w.heap.size → (∀ j, j ≠ b → w'.heap[j]? = w.heap[j]?) → w'.os = w.os → w'.tape = w.tape → w'.output = w.output → wpList P ops Q rest (a.put o.dst undef) w') :
    wpList P ops Q (o :: rest) a w := by
  refine wpList_plain hg fun K' hK' => ?_
  obtain ⟨O, hrun, r1⟩ := hown.update ht hk k val
  unfold Oper.wp
  simp [execOp, hop, hm, hx, hv, hrun, Result.andThen]
  refine hK' _ _ (hK _ r1 (by simp) (fun j hj => ?_) rfl rfl rfl)
  simp only [Array.getElem?_setIfInBounds]
  rw [if_neg (fun e => hj e.symm)]
end Go.Mp
namespace Go.Proofs.YtogdkmkganpaaaaGreatDoor
open Go.RowKit Go.Lib Go.Mp
theorem eql_map (t k e : Nat) (m : Option Nat) (h : Tryz.prog.underlying t = some (.map k e)) (w : World) : (binOp .eql t (.map m) (.map none)).run Tryz.prog w = .ok (.bool m.isNone) w := by
  simp only [binOp]
  simp [run_equal_map_nil w t k e m h]
theorem eql33 (a : Option Addr) (l c : Nat) (w : World) : (binOp .eql 22 (.slice a l c) (.slice none 0 0)).run Tryz.prog w = .ok (.bool a.isNone) w := by
  simp only [binOp]
  simp [run_equal_slice_nil w 22 5 a l c Tryz.underlying22]
theorem eql79_some (m : Nat) (w : World) : (binOp .eql 89 (.map (some m)) (.map none)).run Tryz.prog w = .ok (.bool false) w := eql_map 89 _ _ (some m) Tryz.underlying89 w
theorem eql79_none (w : World) : (binOp .eql 89 (.map none) (.map none)).run Tryz.prog w = .ok (.bool true) w := eql_map 89 _ _ none Tryz.underlying89 w
/-- The files of a world: its map (none: nil), which answers F. -/
def FM (w : World) (b : Nat) (mp : Option Nat) (F : ByteArray → Option Value) : Prop :=
  match mp with
  | none => ∀ k, F k = none
  | some m => m ≠ b ∧ Go.Mp.MapAt w m F
/-- Block b is a world of this stamp and these files. -/
def WS (w : World) (b : Nat) (st : Int) (mp : Option Nat) (F : ByteArray → Option Value) : Prop :=
  (∃ c0 c3 c4 c5 c6 c7 : Value, w.heap[b]? = some (.cells #[c0, .int .i64 st, .map mp, c3, c4, c5, c6, c7] 95 (0, 0))) ∧ FM w b mp F
/-- What a call may have turned: the world's block and its map; else it made memory alone. -/
structure Turned (w w' : World) (b : Nat) (mp : Option Nat) : Prop where
  os : w'.os = w.os
  tape : w'.tape = w.tape
  output : w'.output = w.output
  size : w.heap.size ≤ w'.heap.size
  same : ∀ j, j < w.heap.size → j ≠ b → some j ≠ mp → w'.heap[j]? = w.heap[j]?
theorem heap_setCell_ne (w : World) (b j off : Nat) (v : Value) (h : j ≠ b) : (w.setCell ⟨b, off, none⟩ v).heap[j]? = w.heap[j]? := by
  show (w.heap.modify b _)[j]? = _
  rw [Array.getElem?_modify, if_neg (fun e => h e.symm)]
theorem heap_setCell_eq (w : World) (b off : Nat) (v : Value) (c : Array Value) (e : TypeId) (fr : Nat × Nat) (h : w.heap[b]? = some (.cells c e fr)) : (w.setCell ⟨b, off, none⟩ v).heap[b]? = some (.cells (c.setIfInBounds off v) e fr) := by
  show (w.heap.modify b _)[b]? = _
  rw [Array.getElem?_modify, if_pos rfl, h]
  rfl
theorem heap_alloc_lt (w : World) (o : Obj) (j : Nat) (h : j < w.heap.size) : (w.alloc o).heap[j]? = w.heap[j]? := by
  show (w.heap.push o)[j]? = _
  rw [Array.getElem?_push, if_neg (by omega)]
theorem size_setCell' (w : World) (a : Addr) (v : Value) : (w.setCell a v).heap.size = w.heap.size := by
  show (w.heap.modify _ _).size = _
  simp
set_option maxRecDepth 100000 in
theorem clone_nil (w : World) : Calls Tryz.prog 31 #[.slice none 0 0] w fun e w' => e = .returned (.slice none 0 0) ∧ w = w' := by
  have k33 := eql33 none 0 0
  go_enter Tryz.func31, Tryz.ntmps31
  go_wp2
  go_ret
  exact ⟨rfl, rfl⟩
end Go.Proofs.YtogdkmkganpaaaaGreatDoor

namespace Go.Mp
theorem bel_drewN {B : Nat} {a w : World} (h : Go.RowKit.Below B a w) (q : Nat) : Go.RowKit.Below B a (w.drewN q) := ⟨h.os, h.tape, h.output, h.size, h.block⟩
end Go.Mp
namespace Go.Proofs.YtogdkmkganpaaaaGreatDoor
open Go.RowKit Go.Lib Go.Mp Go.Ev
def zFile : Value := .agg #[.slice none 0 0, .int .i64 0, .bool false]
theorem zero89 (w : World) : (zeroValue 99).run Tryz.prog w = .ok zFile w := by kernel_rfl
def zWorld : Obj := .cells #[.int .i64 0, .int .i64 0, .map none, .slice none 0 0, .slice none 0 0, .map none, .int .i64 0, .slice none 0 0] 95
theorem new_any (w : World) : Calls Tryz.prog 8 #[] w fun e w' => e = .returned (.pointer (some ⟨w.heap.size, 0, none⟩)) ∧ w' = w.alloc zWorld := by
  go_enter Tryz.func8, Tryz.ntmps8
  go_wp2
  go_ret
  exact ⟨rfl, rfl⟩
/-- The file of the k-th change, and what the law keeps of it. -/
def fileV (k : Nat) : Value := .agg #[.slice none 0 0, .int .i64 ((k : Int) + 1), .bool (decide (k % 3 ≠ 2))]
def FF (ps : List ByteArray) : Nat → ByteArray → Option Value
  | 0 => fun _ => none
  | k + 1 => upd (FF ps k) (ps.getD k ByteArray.empty) (fileV k)
def GG (ps : List ByteArray) : Nat → ByteArray → Option Value
  | 0 => fun _ => none
  | k + 1 => upd (GG ps k) (ps.getD k ByteArray.empty) (.int .i64 ((k : Int) + 1))
theorem WS.below {w w' : World} {b : Nat} {st : Int} {mp : Option Nat} {F : ByteArray → Option Value} (h : WS w b st mp F) (hb : Below w.heap.size w w') : WS w' b st mp F := by
  obtain ⟨⟨c0, c3, c4, c5, c6, c7, hh⟩, hm⟩ := h
  refine ⟨⟨c0, c3, c4, c5, c6, c7, by rw [hb.block b (Array.getElem?_eq_some_iff.1 hh).1]; exact hh⟩, ?_⟩
  cases mp with
  | none => exact hm
  | some m => exact ⟨hm.1, hm.2.same (hb.block m hm.2.lt)⟩
/-- What holds between the rounds: the world, the law's own map, nothing elder turned. -/
structure SI (W0 : World) (ps : List ByteArray) (b q k : Nat) (mp : Option Nat) (wr : World) : Prop where
  ws : WS wr b (k : Int) mp (FF ps k)
  own : Go.Mp.MapAt wr q (GG ps k)
  b0 : W0.heap.size ≤ b
  q0 : W0.heap.size ≤ q
  m0 : ∀ m, mp = some m → W0.heap.size ≤ m ∧ m ≠ q
  bq : b ≠ q
  bel : Below W0.heap.size W0 wr
theorem SI.below {W0 : World} {ps : List ByteArray} {b q k : Nat} {mp : Option Nat} {wr w' : World} (h : SI W0 ps b q k mp wr) (hb : Below wr.heap.size wr w') : SI W0 ps b q k mp w' :=
  ⟨WS.below h.ws hb, h.own.same (hb.block q h.own.lt), h.b0, h.q0, h.m0, h.bq, h.bel.trans (hb.mono h.bel.size)⟩
theorem SI.start (w : World) (ps : List ByteArray) : SI w ps w.heap.size (w.heap.size + 1) 0 none ((w.alloc zWorld).alloc (.map #[] 0)) := by
  have hs : (w.alloc zWorld).heap.size = w.heap.size + 1 := by
    show (Array.push _ _).size = _
    simp
  refine ⟨⟨⟨.int .i64 0, .slice none 0 0, .slice none 0 0, .map none, .int .i64 0, .slice none 0 0, ?_⟩, fun _ => rfl⟩, ?_, Nat.le_refl _, by omega, (fun m h => by cases h), by omega, ?_⟩
  · rw [heap_alloc_lt _ _ _ (by omega)]
    exact heap_alloc_new w _
  · have := Go.Mp.MapAt.made (w.alloc zWorld)
    rw [hs] at this
    exact this
  · exact ((Below.refl _ _).alloc (Nat.le_refl _) _).alloc (by omega) _
/-- A change, then the law's own note of it. -/
theorem SI.step {W0 : World} {ps : List ByteArray} {b q k m' : Nat} {mp : Option Nat} {wr w1 w2 : World} {p : ByteArray} (h : SI W0 ps b q k mp wr) (hp : p = ps.getD k ByteArray.empty)
    (hm : mp = some m' ∨ (mp = none ∧ wr.heap.size ≤ m')) (hws : WS w1 b ((k : Int) + 1) (some m') (upd (FF ps k) p (fileV k))) (ht : Turned wr w1 b mp)
    (hown : Go.Mp.MapAt w2 q (upd (GG ps k) p (.int .i64 ((k : Int) + 1)))) (hsz : w2.heap.size = w1.heap.size) (hsame : ∀ j, j ≠ q → w2.heap[j]? = w1.heap[j]?) (ho : w2.os = w1.os) (hta : w2.tape = w1.tape) (hou : w2.output = w1.output) :
    SI W0 ps b q (k + 1) (some m') w2 := by
  subst hp
  have hq := h.own.lt
  have hmq : m' ≠ q := by
    rcases hm with hm | ⟨_, hm⟩
    · exact (h.m0 m' hm).2
    · omega
  have hm0 : W0.heap.size ≤ m' := by
    rcases hm with hm | ⟨_, hm⟩
    · exact (h.m0 m' hm).1
    · have := h.bel.size; omega
  refine ⟨?_, hown, h.b0, h.q0, (fun m e => by cases e; exact ⟨hm0, hmq⟩), h.bq, ?_⟩
  · obtain ⟨⟨c0, c3, c4, c5, c6, c7, hh⟩, h1, h2⟩ := hws
    refine ⟨⟨c0, c3, c4, c5, c6, c7, by rw [hsame b h.bq]; rw [hh]; rfl⟩, h1, h2.same (hsame m' hmq)⟩
  · refine ⟨ho.trans (ht.os.trans h.bel.os), hta.trans (ht.tape.trans h.bel.tape), hou.trans (ht.output.trans h.bel.output), by rw [hsz]; exact Nat.le_trans h.bel.size ht.size, fun j hj => ?_⟩
    have hjs : j < wr.heap.size := Nat.lt_of_lt_of_le hj h.bel.size
    rw [hsame j (by have := h.q0; omega), ht.same j hjs (by have := h.b0; omega) (fun e => by have := h.m0 j e.symm; omega)]
    exact h.bel.block j hj
end Go.Proofs.YtogdkmkganpaaaaGreatDoor

namespace Go.Proofs.YtogdkmkganpaaaaGreatDoor
open Go.RowKit Go.Mp Go.Rb Go.Lib
theorem info_parts' {x : Option TypeInfo} {z : Option Value} {n m : Nat} (h : x.map (fun i => (i.zero, i.size, i.bytes)) = some (z, n, m)) : ∃ i, x = some i ∧ i.zero = z ∧ i.size = n ∧ i.bytes = m := by
  cases x with
  | none => cases h
  | some i => simp at h; exact ⟨i, rfl, h.1, h.2.1, h.2.2⟩
theorem new_cells2 (w : World) (x y : Value) (e : TypeId) : ∀ j q, [x, y][j]? = some q → (w.alloc (.cells #[x, y] e)).cell? ((⟨w.heap.size, 0, none⟩ : Addr).add j) = some q := by
  intro j q hj
  have ha : (⟨w.heap.size, 0, none⟩ : Addr).add j = ⟨w.heap.size, j, none⟩ := by unfold Addr.add; split <;> simp_all
  rw [ha, World.cell?_alloc_new]
  simpa using hj
theorem RB.obj {B : Nat} {w : World} {a : Addr} {n c : Nat} {l : List UInt8} (h : RB B w (.slice (some a) n c) l) : a = ⟨a.block, 0, none⟩ ∧ n = l.length ∧ B ≤ a.block ∧ c ≤ 9223372036854775807 ∧ RowB 5 w a.block c l ∧ ∃ cur fr, w.heap[a.block]? = some (.cells cur 5 fr) := by
  rcases h with ⟨e, _⟩ | ⟨g, cp, e, hB, hc, hr⟩
  · cases e
  · cases e
    obtain ⟨arr, lo, hi, h1, h2⟩ := hr
    exact ⟨rfl, rfl, hB, hc, ⟨arr, lo, hi, h1, h2⟩, arr, _, h1⟩
theorem RB.same {B : Nat} {w w' : World} {v : Value} {l : List UInt8} (h : RB B w v l) (hh : ∀ a n c, v = .slice (some a) n c → w'.heap[a.block]? = w.heap[a.block]?) : RB B w' v l := by
  rcases h with h | ⟨g, cp, rfl, hB, hc, arr, lo, hi, h1, h2⟩
  · exact .inl h
  · exact .inr ⟨g, cp, rfl, hB, hc, arr, lo, hi, (hh _ _ _ rfl).trans h1, h2⟩
theorem RB.base {B B' : Nat} {w : World} {v : Value} {l : List UInt8} (h : RB B w v l) (hb : B' ≤ B) : RB B' w v l := by
  rcases h with h | ⟨g, cp, e, hB, hc, hr⟩
  · exact .inl h
  · exact .inr ⟨g, cp, e, by omega, hc, hr⟩
theorem rowB_made (w : World) (e : TypeId) : RowB e (w.alloc (.cells #[] e)) w.heap.size 0 [] :=
  ⟨#[], 0, 0, heap_alloc_new w _, .inr rfl, rfl, Nat.le_refl _, fun j c h => by simp at h⟩
set_option maxRecDepth 100000 in
theorem clone_rb {B : Nat} {w : World} {a : Option Addr} {n c : Nat} {l : List UInt8} (h : RB B w (.slice a n c) l) (hl : l.length ≤ 1000000) :
    Calls Tryz.prog 31 #[.slice a n c] w fun e w' => ∃ p c', e = .returned (.slice p l.length c') ∧ RB w.heap.size w' (.slice p l.length c') l ∧ Below w.heap.size w w' := by
  cases a with
  | none =>
    have hl0 : n = 0 ∧ c = 0 ∧ l = [] := by
      rcases h with ⟨e, rfl⟩ | ⟨g, cp, e, _⟩
      · cases e; exact ⟨rfl, rfl, rfl⟩
      · cases e
    obtain ⟨rfl, rfl, rfl⟩ := hl0
    exact (clone_nil w).mono (fun e w' ⟨he, hw⟩ => ⟨none, 0, he, .inl ⟨rfl, rfl⟩, hw ▸ Below.refl _ _⟩)
  | some x =>
    obtain ⟨hx, hn, hB, hc, hrow, cur, fr, hcur⟩ := RB.obj h
    subst hn
    obtain ⟨g, rfl⟩ : ∃ g, x = ⟨g, 0, none⟩ := ⟨x.block, hx⟩
    clear hx
    have k33 := eql33 (some ⟨g, 0, none⟩) l.length c
    obtain ⟨i8, hi, hz0, hz1, hz2⟩ := info_parts' (show (Tryz.prog.info? 5).map (fun i => (i.zero, i.size, i.bytes)) = some (some (.int .u8 0), 1, 1) by kernel_rfl)
    have hb0 : Below w.heap.size w (w.alloc (.cells #[] 5)) := (Below.refl _ w).alloc (Nat.le_refl _) _
    have hsrc : Src Tryz.prog (w.alloc (.cells #[] 5)) (.slice (some ⟨g, 0, none⟩) l.length c) l := by
      exact Src.row (hrow.below hb0 (Array.getElem?_eq_some_iff.1 hcur).1)
    have hs0 : (w.alloc (.cells #[] 5)).heap.size = w.heap.size + 1 := by show (w.heap.push _).size = _; simp
    have HS := Lib.hid hsrc
    have HR : Hid (RB w.heap.size (w.alloc (.cells #[] 5)) (.slice (some ⟨w.heap.size, 0, none⟩) 0 0) []) := Lib.hid (.inr ⟨w.heap.size, 0, rfl, Nat.le_refl _, by omega, rowB_made w _⟩)
    have HB := Lib.hid hb0
    have HS0 := Lib.hid hs0
    have HN : Hid (([] : List UInt8).length + l.length = l.length) := Lib.hid (by simp)
    clear h hsrc hb0 hrow hcur hs0
    go_enter Tryz.func31, Tryz.ntmps31
    go_wp2_with (at_builtin; refine wpList_append_kg (l := []) (m := l) (v := .slice (some ⟨g, 0, none⟩) l.length c) (B := w.heap.size) rfl _ _ 22 22 rfl Tryz.underlying22 Tryz.underlying22 (by intro k hk; cases hk) hi hz0 hz1 hz2 rfl (by first | rfl | (simp only [Act.eval, Act.put]; rfl)) HR.out HS.out (by rw [HS0.out]; omega) (by simp; omega) ?_; intro p1 c1 w2 hr2 hk2; rw [HN.out] at hr2 hk2 ⊢; have HR2 := Lib.hid hr2; have HK2 := Lib.hid hk2; clear hr2 hk2)
    go_ret
    refine ⟨p1, c1, rfl, HR2.out, ?_⟩
    rcases HK2.out with ⟨a, n', c', e, hkg, _⟩ | ⟨hbl, _⟩
    · cases e
      exact HB.out.trans (hkg.below (Nat.le_refl _) (by rw [HS0.out]; omega))
    · exact HB.out.trans (hbl.mono (by rw [HS0.out]; omega))
/-- What lies in X is left as it was. -/
structure KX (X : Nat → Prop) (w w' : World) : Prop where
  os : w'.os = w.os
  tape : w'.tape = w.tape
  output : w'.output = w.output
  size : w.heap.size ≤ w'.heap.size
  keep : ∀ k, X k → k < w.heap.size → w'.heap[k]? = w.heap[k]?
theorem KX.refl (X : Nat → Prop) (w : World) : KX X w w := ⟨rfl, rfl, rfl, Nat.le_refl _, fun _ _ _ => rfl⟩
theorem KX.trans {X : Nat → Prop} {a b c : World} (h : KX X a b) (k : KX X b c) : KX X a c :=
  ⟨k.os.trans h.os, k.tape.trans h.tape, k.output.trans h.output, Nat.le_trans h.size k.size, fun i hx hi => (k.keep i hx (Nat.lt_of_lt_of_le hi h.size)).trans (h.keep i hx hi)⟩
theorem KX.of {X : Nat → Prop} {w w' : World} (h : Below w.heap.size w w') : KX X w w' := ⟨h.os, h.tape, h.output, h.size, fun k _ hk => h.block k hk⟩
theorem KX.sub {X Y : Nat → Prop} {w w' : World} (h : KX X w w') (hs : ∀ k, k < w.heap.size → Y k → X k) : KX Y w w' := ⟨h.os, h.tape, h.output, h.size, fun k hy hk => h.keep k (hs k hk hy) hk⟩
theorem RB.src {B : Nat} {w : World} {v : Value} {l : List UInt8} (h : RB B w v l) : Src Tryz.prog w v l := by
  rcases h with ⟨rfl, rfl⟩ | ⟨b, cap, rfl, _, _, hr⟩
  · exact ⟨fun w' => rfl, fun w' _ => run_firstCells_none w' 1 0 0 0⟩
  · exact Src.row hr
theorem RB.keepB {w w' : World} {a : Option Addr} {n ca : Nat} {l : List UInt8} (h : RB 0 w (.slice a n ca) l) (hh : ∀ (q : Addr) cs fr, a = some q → w.heap[q.block]? = some (.cells cs 5 fr) → w'.heap[q.block]? = w.heap[q.block]?) : RB 0 w' (.slice a n ca) l :=
  RB.same h (fun q n' c' e => by
    injection e with e1
    subst e1
    obtain ⟨_, _, _, _, _, cur, fr, hcur⟩ := RB.obj h
    exact hh q cur fr rfl hcur)
end Go.Proofs.YtogdkmkganpaaaaGreatDoor

namespace Go.Proofs.YtogdkmkganpaaaaGreatDoor
open Go.RowKit Go.Mp Go.Rb Go.Lib
/-- A world's block. -/
def W8 (w : World) (b : Nat) (c0 : Value) (st : Int) (mp : Option Nat) (c3 c4 c5 c6 c7 : Value) : Prop := w.heap[b]? = some (.cells #[c0, .int .i64 st, .map mp, c3, c4, c5, c6, c7] 95 (0, 0))
def ChangeX (w : World) (b : Nat) (c0 : Value) (st : Int) (mp : Option Nat) (c3 c4 c5 c6 c7 : Value) (F : ByteArray → Option Value) (e : Ending) (w' : World) : Prop :=
  e = .returned (.tuple #[]) ∧ ∃ m, (mp = some m ∨ (mp = none ∧ w.heap.size ≤ m)) ∧ W8 w' b c0 st (some m) c3 c4 c5 c6 c7 ∧ m ≠ b ∧ Go.Mp.MapAt w' m F ∧ Turned w w' b mp
set_option maxHeartbeats 1000000 in
set_option maxRecDepth 100000 in
theorem change_some_x (c0 c3 c4 c5 c6 c7 : Value) (b m : Nat) (st : Int) (F : ByteArray → Option Value) (p : ByteArray) (body : Value) (th : Bool) (w : World) (hh : W8 w b c0 st (some m) c3 c4 c5 c6 c7) (hne : m ≠ b) (hm : Go.Mp.MapAt w m F) (hst : 0 ≤ st) (hst2 : st ≤ 1000000) :
    Calls Tryz.prog 30 #[.pointer (some ⟨b, 0, none⟩), .string p, .agg #[body, .int .i64 0, .bool th]] w (ChangeX w b c0 (st + 1) (some m) c3 c4 c5 c6 c7 (upd F p (.agg #[body, .int .i64 (st + 1), .bool th]))) := by
  unfold W8 at hh
  have hb : b < w.heap.size := (Array.getElem?_eq_some_iff.1 hh).1
  have hml := hm.lt
  have k1 : w.cell? ⟨b, 1, none⟩ = some (.int .i64 st) := by simp [World.cell?, hh]
  have k2 : w.cell? ⟨b, 2, none⟩ = some (.map (some m)) := by simp [World.cell?, hh]
  have f1 : w.frozen? ⟨b, 1, none⟩ = false := by simp [World.frozen?, hh]
  have HH := Lib.hid hh
  have HM := Lib.hid hm
  clear hh hm
  have e79 := eql79_some m
  go_enter Tryz.func30, Tryz.ntmps30
  go_wp2
  refine region_tail 6 (by kernel_rfl) (by kernel_rfl) ?_
  simp only [List.take_succ_cons, List.take_zero, List.drop_succ_cons, List.drop_zero]
  repeat still_step
  refine wpStill_nil ?_
  refine wpList_mapUpdate_at rfl _ _ _ _ rfl Tryz.underlying89 Tryz.underlying9 rfl (HM.out.same (by
    show ((w.setCell _ _).alloc _).heap[m]? = _
    rw [heap_alloc_lt _ _ _ (by rw [size_setCell']; exact hml), heap_setCell_ne _ _ _ _ _ hne])) rfl rfl ?_
  intro w9 hm9 hs9 hh9 ho9 ht9 hu9
  go_wp2
  go_end0
  refine ⟨rfl, m, .inl rfl, ?_, hne, hm9, ?_⟩
  · unfold W8
    rw [hh9 b (fun e => hne e.symm)]
    show ((w.setCell _ _).alloc _).heap[b]? = _
    rw [heap_alloc_lt _ _ _ (by rw [size_setCell']; exact hb), heap_setCell_eq _ _ _ _ _ _ _ HH.out]
    rfl
  · refine ⟨ho9, ht9, hu9, ?_, fun j hj hjb hjm => ?_⟩
    · rw [hs9]
      show w.heap.size ≤ ((w.setCell _ _).heap.push _).size
      rw [Array.size_push, size_setCell']
      omega
    · rw [hh9 j (fun e => hjm (by rw [e]))]
      show ((w.setCell _ _).alloc _).heap[j]? = _
      rw [heap_alloc_lt _ _ _ (by rw [size_setCell']; exact hj), heap_setCell_ne _ _ _ _ _ hjb]
set_option maxHeartbeats 1000000 in
set_option maxRecDepth 100000 in
theorem change_none_x (c0 c3 c4 c5 c6 c7 : Value) (b : Nat) (st : Int) (F : ByteArray → Option Value) (p : ByteArray) (body : Value) (th : Bool) (w : World) (hh : W8 w b c0 st none c3 c4 c5 c6 c7) (hm : ∀ k, F k = none) (hst : 0 ≤ st) (hst2 : st ≤ 1000000) :
    Calls Tryz.prog 30 #[.pointer (some ⟨b, 0, none⟩), .string p, .agg #[body, .int .i64 0, .bool th]] w (ChangeX w b c0 (st + 1) none c3 c4 c5 c6 c7 (upd F p (.agg #[body, .int .i64 (st + 1), .bool th]))) := by
  unfold W8 at hh
  have hb : b < w.heap.size := (Array.getElem?_eq_some_iff.1 hh).1
  have k1 : w.cell? ⟨b, 1, none⟩ = some (.int .i64 st) := by simp [World.cell?, hh]
  have k2 : w.cell? ⟨b, 2, none⟩ = some (.map none) := by simp [World.cell?, hh]
  have f1 : w.frozen? ⟨b, 1, none⟩ = false := by simp [World.frozen?, hh]
  have f2 : w.frozen? ⟨b, 2, none⟩ = false := by simp [World.frozen?, hh]
  have HH := Lib.hid hh
  have HM := Lib.hid hm
  clear hh hm
  have e79 := eql79_none
  have hmm := @run_makeMap Tryz.prog
  go_enter Tryz.func30, Tryz.ntmps30
  go_wp2
  refine region_tail 6 (by kernel_rfl) (by kernel_rfl) ?_
  simp only [List.take_succ_cons, List.take_zero, List.drop_succ_cons, List.drop_zero]
  repeat still_step
  refine wpStill_nil ?_
  have hsz : (((w.setCell ⟨b, 1, none⟩ (.int .i64 (st + 1))).setCell ⟨b, 2, none⟩ (.map (some (w.heap.size + 1)))).alloc (.cells #[body, .int .i64 (st + 1), .bool th] 99)).heap.size = w.heap.size + 1 := by
    show (Array.push _ _).size = _
    rw [Array.size_push, size_setCell', size_setCell']
  have hF : F = fun _ => none := funext HM.out
  refine wpList_mapUpdate_at (b := w.heap.size + 1) (F := F) rfl _ _ _ _ rfl Tryz.underlying89 Tryz.underlying9 rfl (by
    have := Go.Mp.MapAt.made (((w.setCell ⟨b, 1, none⟩ (.int .i64 (st + 1))).setCell ⟨b, 2, none⟩ (.map (some (w.heap.size + 1)))).alloc (.cells #[body, .int .i64 (st + 1), .bool th] 99))
    rw [hsz] at this
    rw [hF]
    exact this.same rfl) rfl rfl ?_
  intro w9 hm9 hs9 hh9 ho9 ht9 hu9
  have hold : ∀ j, j < w.heap.size → (((((w.setCell ⟨b, 1, none⟩ (.int .i64 (st + 1))).setCell ⟨b, 2, none⟩ (.map (some (w.heap.size + 1)))).alloc (.cells #[body, .int .i64 (st + 1), .bool th] 99)).alloc (.map #[] 0)).drew).heap[j]? = ((w.setCell ⟨b, 1, none⟩ (.int .i64 (st + 1))).setCell ⟨b, 2, none⟩ (.map (some (w.heap.size + 1)))).heap[j]? := by
    intro j hj
    show (World.alloc _ _).heap[j]? = _
    rw [heap_alloc_lt _ _ _ (by rw [hsz]; omega), heap_alloc_lt _ _ _ (by rw [size_setCell', size_setCell']; exact hj)]
  have HOLD := Lib.hid hold
  have HSZ := Lib.hid hsz
  have HS9 := Lib.hid hs9
  clear hold hsz hs9 hF
  go_wp2
  go_end0
  refine ⟨rfl, w.heap.size + 1, .inr ⟨rfl, by omega⟩, ?_, by omega, hm9, ?_⟩
  · unfold W8
    rw [hh9 b (by omega), HOLD.out b hb, heap_setCell_eq _ _ _ _ _ _ _ (heap_setCell_eq _ _ _ _ _ _ _ HH.out)]
    rfl
  · refine ⟨ho9, ht9, hu9, ?_, fun j hj hjb hjm => ?_⟩
    · rw [HS9.out]
      show w.heap.size ≤ (Array.push _ _).size
      rw [Array.size_push, HSZ.out]
      omega
    · rw [hh9 j (by omega), HOLD.out j hj, heap_setCell_ne _ _ _ _ _ hjb, heap_setCell_ne _ _ _ _ _ hjb]
/-- What a file says: its bytes, its stamp, is it there. -/
abbrev FileT := List UInt8 × Int × Bool
/-- Files that lie in the blocks of S alone. -/
def FilesIn (S : Nat → Prop) (w : World) (b : Nat) (mp : Option Nat) (T : ByteArray → Option FileT) : Prop :=
  ∃ F : ByteArray → Option Value, (match mp with | none => ∀ k, F k = none | some m => m ≠ b ∧ S m ∧ Go.Mp.MapAt w m F) ∧
    ∀ k, match T k with
      | none => F k = none
      | some (l, st, th) => ∃ (a : Option Addr) (n c : Nat), F k = some (.agg #[.slice a n c, .int .i64 st, .bool th]) ∧ RB 0 w (.slice a n c) l ∧ ∀ q, a = some q → S q.block
theorem FilesIn.same {S S' : Nat → Prop} {w w' : World} {b : Nat} {mp : Option Nat} {T : ByteArray → Option FileT} (h : FilesIn S w b mp T) (hS : ∀ k, S k → S' k) (hh : ∀ k, S k → w'.heap[k]? = w.heap[k]?) : FilesIn S' w' b mp T := by
  obtain ⟨F, h1, h2⟩ := h
  refine ⟨F, ?_, fun k => ?_⟩
  · cases mp with
    | none => exact h1
    | some m => exact ⟨h1.1, hS _ h1.2.1, h1.2.2.same (hh m h1.2.1)⟩
  · have := h2 k
    cases hT : T k with
    | none => rw [hT] at this; exact this
    | some x =>
      obtain ⟨l, st, th⟩ := x
      rw [hT] at this
      obtain ⟨a, n, c, e, hr, hs⟩ := this
      exact ⟨a, n, c, e, RB.same hr (fun q n' c' e2 => hh _ (hs q (by injection e2))), fun q e2 => hS _ (hs q e2)⟩
def updT (T : ByteArray → Option FileT) (s : ByteArray) (x : FileT) : ByteArray → Option FileT := fun t => if t = s then some x else T t
/-- What changing a file leaves. -/
def FilesR (S : Nat → Prop) (w : World) (b : Nat) (c0 : Value) (st : Int) (mp : Option Nat) (c3 c4 c5 c6 c7 : Value) (T : ByteArray → Option FileT) (e : Ending) (w' : World) : Prop :=
  e = .returned (.tuple #[]) ∧ ∃ m, W8 w' b c0 st (some m) c3 c4 c5 c6 c7 ∧ FilesIn (fun k => S k ∨ (w.heap.size ≤ k ∧ k < w'.heap.size)) w' b (some m) T ∧ w'.os = w.os ∧ w'.tape = w.tape ∧ w'.output = w.output ∧ w.heap.size ≤ w'.heap.size ∧ ∀ k, k < w.heap.size → k ≠ b → ¬ S k → w'.heap[k]? = w.heap[k]?
section
variable {S : Nat → Prop} {c0 c3 c4 c5 c6 c7 : Value} {b : Nat} {st : Int} {mp : Option Nat} {T : ByteArray → Option FileT}
theorem change_x {w : World} (hh : W8 w b c0 st mp c3 c4 c5 c6 c7) (hf : FilesIn S w b mp T) (hSb : ¬ S b) (hSl : ∀ k, S k → k < w.heap.size) (hst : 0 ≤ st) (hst2 : st ≤ 1000000) (p : ByteArray) (a : Option Addr) (n c : Nat) (l : List UInt8) (th : Bool) (hr : RB 0 w (.slice a n c) l) (ha : ∀ q, a = some q → S q.block) :
    Calls Tryz.prog 30 #[.pointer (some ⟨b, 0, none⟩), .string p, .agg #[.slice a n c, .int .i64 0, .bool th]] w (FilesR S w b c0 (st + 1) mp c3 c4 c5 c6 c7 (updT T p (l, st + 1, th))) := by
  obtain ⟨F, h1, h2⟩ := hf
  have hch : Calls Tryz.prog 30 #[.pointer (some ⟨b, 0, none⟩), .string p, .agg #[.slice a n c, .int .i64 0, .bool th]] w (ChangeX w b c0 (st + 1) mp c3 c4 c5 c6 c7 (upd F p (.agg #[.slice a n c, .int .i64 (st + 1), .bool th]))) := by
    cases mp with
    | none => exact change_none_x c0 c3 c4 c5 c6 c7 b st F p _ th w hh h1 hst hst2
    | some m => exact change_some_x c0 c3 c4 c5 c6 c7 b m st F p _ th w hh h1.1 h1.2.2 hst hst2
  refine hch.mono fun e w' h => ?_
  obtain ⟨he, m, hm, hw8, hmb, hat, ht⟩ := h
  have hnm : ∀ k, k < w.heap.size → k ≠ b → ¬ S k → w'.heap[k]? = w.heap[k]? := fun k hk hkb hks => ht.same k hk hkb (fun e => by
    cases mp with
    | none => cases e
    | some m' => cases e; exact hks h1.2.1)
  have hml : m < w'.heap.size := hat.lt
  have keep : ∀ (a' : Option Addr) (n' c' : Nat) (l' : List UInt8), RB 0 w (.slice a' n' c') l' → (∀ q, a' = some q → S q.block) → RB 0 w' (.slice a' n' c') l' := fun a' n' c' l' hr' hs' => RB.same hr' (fun q n2 c2 e2 => by
    injection e2 with e3
    subst e3
    obtain ⟨_, _, _, _, _, cur, fr, hcur⟩ := RB.obj hr'
    refine ht.same _ (hSl _ (hs' q rfl)) (fun e => hSb (e ▸ hs' q rfl)) (fun e => ?_)
    cases mp with
    | none => cases e
    | some m' =>
      cases e
      obtain ⟨ms, clk, hmm, _⟩ := h1.2.2
      rw [hmm] at hcur
      cases hcur)
  refine ⟨he, m, hw8, ⟨_, ⟨hmb, ?_, hat⟩, fun k => ?_⟩, ht.os, ht.tape, ht.output, ht.size, hnm⟩
  · rcases hm with hm | ⟨hm, h3⟩
    · subst hm; exact .inl h1.2.1
    · exact .inr ⟨h3, hml⟩
  · by_cases hk : k = p
    · subst hk
      simp only [updT, upd, if_true]
      exact ⟨a, n, c, rfl, keep a n c l hr ha, fun q e => .inl (ha q e)⟩
    · have := h2 k
      simp only [updT, upd, if_neg hk]
      cases hT : T k with
      | none => rw [hT] at this; exact this
      | some x =>
        obtain ⟨l', st', th'⟩ := x
        rw [hT] at this
        obtain ⟨a', n', c', e, hr', hs'⟩ := this
        exact ⟨a', n', c', e, keep a' n' c' l' hr' hs', fun q e2 => .inl (hs' q e2)⟩
end
end Go.Proofs.YtogdkmkganpaaaaGreatDoor

namespace Go.Proofs.YtogdkmkganpaaaaGreatDoor
open Go.RowKit Go.Mp Go.Rb Go.Lib
theorem W8.lt {w : World} {b : Nat} {c0 : Value} {st : Int} {mp : Option Nat} {c3 c4 c5 c6 c7 : Value} (h : W8 w b c0 st mp c3 c4 c5 c6 c7) : b < w.heap.size := (Array.getElem?_eq_some_iff.1 h).1
theorem RB.blk {B : Nat} {w : World} {a : Option Addr} {n c : Nat} {l : List UInt8} (h : RB B w (.slice a n c) l) {q : Addr} (e : a = some q) : B ≤ q.block ∧ q.block < w.heap.size := by
  subst e
  obtain ⟨_, _, h1, _, _, cur, fr, hc⟩ := RB.obj h
  exact ⟨h1, (Array.getElem?_eq_some_iff.1 hc).1⟩
section
variable {S : Nat → Prop} {c0 c3 c4 c5 c6 c7 : Value} {b : Nat} {st : Int} {mp : Option Nat} {T : ByteArray → Option FileT}
set_option maxRecDepth 100000 in
theorem put_x {w : World} (hh : W8 w b c0 st mp c3 c4 c5 c6 c7) (hf : FilesIn S w b mp T) (hSb : ¬ S b) (hSl : ∀ k, S k → k < w.heap.size) (hst : 0 ≤ st) (hst2 : st ≤ 1000000) (p : ByteArray) (a : Option Addr) (n c : Nat) (l : List UInt8) (hr : RB 0 w (.slice a n c) l) (hl : l.length ≤ 1000000) :
    Calls Tryz.prog 10 #[.pointer (some ⟨b, 0, none⟩), .string p, .slice a n c] w (FilesR S w b c0 (st + 1) mp c3 c4 c5 c6 c7 (updT T p (l, st + 1, true))) := by
  have HCl := Lib.hid (clone_rb hr hl)
  have hbl := hh.lt
  have HC : Hid (∀ w1 p1 c1, RB w.heap.size w1 (.slice p1 l.length c1) l → Below w.heap.size w w1 → Calls Tryz.prog 30 #[.pointer (some ⟨b, 0, none⟩), .string p, .agg #[.slice p1 l.length c1, .int .i64 0, .bool true]] w1 (FilesR S w b c0 (st + 1) mp c3 c4 c5 c6 c7 (updT T p (l, st + 1, true)))) := Lib.hid (fun w1 p1 c1 hr1 hb1 => by
    have hs := hb1.size
    refine (change_x (S := fun k => S k ∨ (w.heap.size ≤ k ∧ k < w1.heap.size)) ((hb1.block b hbl).trans hh) (hf.same (fun k hk => .inl hk) (fun k hk => hb1.block k (hSl k hk))) (fun h => h.elim hSb (fun h => by omega)) (fun k h => h.elim (fun h => Nat.lt_of_lt_of_le (hSl k h) hs) (fun h => h.2)) hst hst2 p p1 l.length c1 l true (RB.base hr1 (Nat.zero_le _)) (fun q e => .inr (RB.blk hr1 e))).mono fun e w2 h => ?_
    obtain ⟨he, m, h1, h2, o1, o2, o3, o4, o5⟩ := h
    refine ⟨he, m, h1, h2.same (fun k hk => ?_) (fun _ _ => rfl), o1.trans hb1.os, o2.trans hb1.tape, o3.trans hb1.output, Nat.le_trans hs o4, fun k hk hkb hks => (o5 k (by omega) hkb (fun h => h.elim hks (fun h => by omega))).trans (hb1.block k hk)⟩
    rcases hk with (hk | hk) | hk
    · exact .inl hk
    · exact .inr ⟨hk.1, by omega⟩
    · exact .inr ⟨by omega, hk.2⟩)
  clear hh hf hr
  go_enter Tryz.func10, Tryz.ntmps10
  go_wp2_with (first | (go_at_call 31; refine HCl.out.mono ?_; rintro e w1 ⟨p1, c1, rfl, hr1, hb1⟩; have HR1 := Lib.hid hr1; have HB1 := Lib.hid hb1; clear hr1 hb1) | (go_at_call 30; refine (HC.out w1 p1 c1 HR1.out HB1.out).mono ?_; rintro e w' ⟨rfl, h3⟩))
  go_end0
  exact ⟨rfl, h3⟩
theorem FilesIn.look {w : World} (hf : FilesIn S w b mp T) (p : ByteArray) (l : List UInt8) (s : Int) (th : Bool) (hT : (T p).getD ([], 0, false) = (l, s, th)) : ∃ (a : Option Addr) (n c : Nat), (Instr.lookup 89 (.map mp) (.string p) false).run Tryz.prog w = .ok (.agg #[.slice a n c, .int .i64 s, .bool th]) w ∧ RB 0 w (.slice a n c) l := by
  obtain ⟨F, h1, h2⟩ := hf
  have hlk : (Instr.lookup 89 (.map mp) (.string p) false).run Tryz.prog w = .ok ((F p).getD zFile) w := by
    cases mp with
    | none =>
      have : F p = none := h1 p
      rw [this]
      exact lookup_nil Tryz.underlying89 Tryz.underlying9 (zero89 w) p
    | some m => exact Go.Mp.MapAt.lookup h1.2.2 Tryz.underlying89 Tryz.underlying9 (zero89 w) p
  have := h2 p
  cases hp : T p with
  | none =>
    rw [hp] at this hT
    cases hT
    rw [this] at hlk
    exact ⟨none, 0, 0, hlk, .inl ⟨rfl, rfl⟩⟩
  | some x =>
    obtain ⟨l', st', th'⟩ := x
    rw [hp] at this hT
    cases hT
    obtain ⟨a, n, c, e, hr, _⟩ := this
    rw [e] at hlk
    exact ⟨a, n, c, hlk, hr⟩
set_option maxRecDepth 100000 in
theorem read_x {w : World} (hh : W8 w b c0 st mp c3 c4 c5 c6 c7) (hf : FilesIn S w b mp T) (p : ByteArray) (l : List UInt8) (s : Int) (th : Bool) (hT : (T p).getD ([], 0, false) = (l, s, th)) (hl : l.length ≤ 1000000) :
    Calls Tryz.prog 34 #[.pointer (some ⟨b, 0, none⟩), .string p] w fun e w' => ∃ p1 c', e = .returned (.tuple #[.slice p1 l.length c', .int .i64 s, .bool th]) ∧ RB w.heap.size w' (.slice p1 l.length c') l ∧ Below w.heap.size w w' := by
  obtain ⟨a, n, c, hlook2, hr⟩ := hf.look p l s th hT
  have hb := hh.lt
  have k2 : w.cell? ⟨b, 2, none⟩ = some (.map mp) := by unfold W8 at hh; simp [World.cell?, hh]
  have HR0 := Lib.hid hr
  clear hh hf hr
  go_enter Tryz.func34, Tryz.ntmps34
  go_wp2
  have hbo : ∀ o, Below w.heap.size w (w.alloc o) := fun o => (Below.refl _ w).alloc (Nat.le_refl _) o
  have HS0 : Hid (∀ W, Below (w.alloc (.cells #[.slice a n c, .int .i64 s, .bool th] 99)).heap.size (w.alloc (.cells #[.slice a n c, .int .i64 s, .bool th] 99)) W → W.cell? ⟨w.heap.size, 0, none⟩ = some (.slice a n c) ∧ W.cell? ⟨w.heap.size, 1, none⟩ = some (.int .i64 s) ∧ W.cell? ⟨w.heap.size, 2, none⟩ = some (.bool th)) := Lib.hid fun W hW => by
    have hb : ∀ j y, (#[.slice a n c, .int .i64 s, .bool th] : Array Value)[j]? = some y → W.cell? ⟨w.heap.size, j, none⟩ = some y := fun j y hy => by
      rw [hW.cell (p := ⟨w.heap.size, j, none⟩) (by show w.heap.size < (w.heap.push _).size; simp), World.cell?_alloc_new]; exact hy
    exact ⟨hb 0 _ rfl, hb 1 _ rfl, hb 2 _ rfl⟩
  have HC2 : Hid (Calls Tryz.prog 31 #[.slice a n c] (w.alloc (.cells #[.slice a n c, .int .i64 s, .bool th] 99)).drew fun e w' => ∃ p c', e = .returned (.slice p l.length c') ∧ RB w.heap.size w' (.slice p l.length c') l ∧ Below (w.alloc (.cells #[.slice a n c, .int .i64 s, .bool th] 99)).heap.size (w.alloc (.cells #[.slice a n c, .int .i64 s, .bool th] 99)) w') := Lib.hid (by
    have hr0 : RB 0 w (.slice a n c) l := HR0.out
    exact (clone_rb (hr0.below (hbo _).drew) hl).mono fun e w' ⟨p, c', he, h1, h2⟩ => ⟨p, c', he, RB.base h1 (hbo _).size, (Below.refl _ _).drew.trans h2⟩)
  go_region_held3 (fun W => W.cell? ⟨w.heap.size, 0, none⟩ = some (.slice a n c) ∧ W.cell? ⟨w.heap.size, 1, none⟩ = some (.int .i64 s) ∧ W.cell? ⟨w.heap.size, 2, none⟩ = some (.bool th)) (first | exact HS0.out _ (Below.refl _ _) | exact HS0.out _ (Below.refl _ _).drew | exact HS1.out) (((go_at_call 31; refine HC2.out.mono ?_; rintro e w1 ⟨p1, c1, rfl, hr1, hb1⟩; have HS1 := Lib.hid (HS0.out w1 hb1))))
  all_goals (try go_wp2)
  all_goals go_ret3
  all_goals exact ⟨p1, c1, rfl, hr1, (hbo _).trans (hb1.mono (hbo _).size)⟩
end
end Go.Proofs.YtogdkmkganpaaaaGreatDoor

namespace Go.Proofs.YtogdkmkganpaaaaGreatDoor
open Go.RowKit Go.Mp Go.Rb Go.Lib
set_option maxRecDepth 100000 in
theorem copyD_any (dt : ByteArray) (lk : Bool) (a : Option Addr) (n c : Nat) (l : List UInt8) (w : World) (hr : RB 0 w (.slice a n c) l) (hl : l.length ≤ 1000000) :
    Calls Tryz.prog 59 #[.agg #[.string dt, .bool lk, .slice a n c]] w fun e w' => ∃ p1 c1, e = .returned (.agg #[.string dt, .bool lk, .slice p1 l.length c1]) ∧ RB w.heap.size w' (.slice p1 l.length c1) l ∧ Below w.heap.size w w' := by
  have hA : Below w.heap.size w ((w.alloc (.cells #[.string dt, .bool lk, .slice a n c] 60)).alloc (.cells #[.string ⟨#[]⟩, .bool false, .slice none 0 0] 60)) := ((Below.refl _ w).alloc (Nat.le_refl _) _).alloc (by show w.heap.size ≤ (w.heap.push _).size; simp) _
  have hs2 : ((w.alloc (.cells #[.string dt, .bool lk, .slice a n c] 60)).alloc (.cells #[.string ⟨#[]⟩, .bool false, .slice none 0 0] 60)).heap.size = w.heap.size + 2 := by show ((w.heap.push _).push _).size = _; simp
  have hx : ((w.alloc (.cells #[.string dt, .bool lk, .slice a n c] 60)).alloc (.cells #[.string ⟨#[]⟩, .bool false, .slice none 0 0] 60)).heap[w.heap.size]? = some (.cells #[.string dt, .bool lk, .slice a n c] 60 (0, 0)) := by
    show ((w.heap.push _).push _)[_]? = _
    rw [Array.getElem?_push, if_neg (by simp), Array.getElem?_push, if_pos rfl]
  have hy : ((w.alloc (.cells #[.string dt, .bool lk, .slice a n c] 60)).alloc (.cells #[.string ⟨#[]⟩, .bool false, .slice none 0 0] 60)).heap[w.heap.size + 1]? = some (.cells #[.string ⟨#[]⟩, .bool false, .slice none 0 0] 60 (0, 0)) := by
    show ((w.heap.push _).push _)[_]? = _
    rw [Array.getElem?_push, if_pos (by simp)]
  have HCl := Lib.hid (clone_rb (hr.below hA) hl)
  have HA := Lib.hid hA
  have HXY : Hid (∀ w3, Below ((w.alloc (.cells #[.string dt, .bool lk, .slice a n c] 60)).alloc (.cells #[.string ⟨#[]⟩, .bool false, .slice none 0 0] 60)).heap.size ((w.alloc (.cells #[.string dt, .bool lk, .slice a n c] 60)).alloc (.cells #[.string ⟨#[]⟩, .bool false, .slice none 0 0] 60)) w3 → w3.heap[w.heap.size]? = some (.cells #[.string dt, .bool lk, .slice a n c] 60 (0, 0)) ∧ w3.heap[w.heap.size + 1]? = some (.cells #[.string ⟨#[]⟩, .bool false, .slice none 0 0] 60 (0, 0)) ∧ w3.frozen? ⟨w.heap.size, 2, none⟩ = false ∧ w3.cell? ⟨w.heap.size, 2, none⟩ = some (.slice a n c)) := Lib.hid (fun w3 hb1 => by
    have x3 := (hb1.block w.heap.size (by rw [hs2]; omega)).trans hx
    have y3 := (hb1.block (w.heap.size + 1) (by rw [hs2]; omega)).trans hy
    exact ⟨x3, y3, by simp [World.frozen?, x3], by simp [World.cell?, x3]⟩)
  have HS2 := Lib.hid hs2
  clear hr hA hx hy hs2
  go_enter Tryz.func59, Tryz.ntmps59
  go_upto_region 2 with (go_at_call 31; refine HCl.out.mono ?_; rintro e w3 ⟨p1, c1, rfl, hr1, hb1⟩; obtain ⟨x3, y3, f3, c3⟩ := HXY.out w3 hb1; have X3 := Lib.hid x3; have Y3 := Lib.hid y3; clear x3 y3; have HB1 := Lib.hid hb1; have HR1 := Lib.hid hr1; clear hb1 hr1)
  have x4 : (w3.setCell ⟨w.heap.size, 2, none⟩ (.slice p1 l.length c1)).heap[w.heap.size]? = some (.cells #[.string dt, .bool lk, .slice p1 l.length c1] 60 (0, 0)) := heap_setCell_eq _ _ _ _ _ _ _ X3.out
  have y4 : (w3.setCell ⟨w.heap.size, 2, none⟩ (.slice p1 l.length c1)).heap[w.heap.size + 1]? = some (.cells #[.string ⟨#[]⟩, .bool false, .slice none 0 0] 60 (0, 0)) := (heap_setCell_ne _ _ _ _ _ (by omega)).trans Y3.out
  have r4 : RB w.heap.size (w3.setCell ⟨w.heap.size, 2, none⟩ (.slice p1 l.length c1)) (.slice p1 l.length c1) l := RB.same (RB.base HR1.out HA.out.size) (fun q n' c' e => by
    injection e with e1
    have := (RB.blk HR1.out e1).1
    exact heap_setCell_ne _ _ _ _ _ (by rw [HS2.out] at this; omega))
  have b4 : Below w.heap.size w (w3.setCell ⟨w.heap.size, 2, none⟩ (.slice p1 l.length c1)) := (HA.out.trans (HB1.out.mono HA.out.size)).setCell (p := ⟨w.heap.size, 2, none⟩) (Nat.le_refl _) _
  clear c3 f3
  generalize (w3.setCell ⟨w.heap.size, 2, none⟩ (.slice p1 l.length c1)) = w4 at *
  have q0 : w4.cell? ⟨w.heap.size, 0, none⟩ = some (.string dt) := by simp [World.cell?, x4]
  have q1 : w4.cell? ⟨w.heap.size, 1, none⟩ = some (.bool lk) := by simp [World.cell?, x4]
  have q2 : w4.cell? ⟨w.heap.size, 2, none⟩ = some (.slice p1 l.length c1) := by simp [World.cell?, x4]
  have g0 : w4.cell? ⟨w.heap.size + 1, 0, none⟩ = some (.string ⟨#[]⟩) := by simp [World.cell?, y4]
  have g1 : w4.cell? ⟨w.heap.size + 1, 1, none⟩ = some (.bool false) := by simp [World.cell?, y4]
  have g2 : w4.cell? ⟨w.heap.size + 1, 2, none⟩ = some (.slice none 0 0) := by simp [World.cell?, y4]
  have k0 : w4.frozen? ⟨w.heap.size + 1, 0, none⟩ = false := by simp [World.frozen?, y4]
  have k1 : w4.frozen? ⟨w.heap.size + 1, 1, none⟩ = false := by simp [World.frozen?, y4]
  have k2 : w4.frozen? ⟨w.heap.size + 1, 2, none⟩ = false := by simp [World.frozen?, y4]
  have Y4 := Lib.hid y4
  clear x4 y4
  have R4 := Lib.hid r4
  have B4 := Lib.hid b4
  clear r4 b4
  go_wp2
  have hx5 : (((w4.setCell ⟨w.heap.size + 1, 0, none⟩ (.string dt)).setCell ⟨w.heap.size + 1, 1, none⟩ (.bool lk)).setCell ⟨w.heap.size + 1, 2, none⟩ (.slice p1 l.length c1)).heap[w.heap.size + 1]? = some (.cells #[.string dt, .bool lk, .slice p1 l.length c1] 60 (0, 0)) := heap_setCell_eq _ _ _ _ _ _ _ (heap_setCell_eq _ _ _ _ _ _ _ (heap_setCell_eq _ _ _ _ _ _ _ Y4.out))
  refine bodyPost_ret (results_cell_row rfl _ _ (w.heap.size + 1) _ _ _ _ rfl hx5 Tryz.underlying60 rfl (by kernel_rfl)) rfl ?_
  refine ⟨p1, c1, rfl, RB.same R4.out (fun q n' c' e => ?_), ((B4.out.setCell (p := ⟨w.heap.size + 1, 0, none⟩) (Nat.le_succ _) _).setCell (p := ⟨w.heap.size + 1, 1, none⟩) (Nat.le_succ _) _).setCell (p := ⟨w.heap.size + 1, 2, none⟩) (Nat.le_succ _) _⟩
  obtain ⟨_, _, _, _, _, cur, fr, hcur⟩ := RB.obj (by injection e with e1; subst e1; exact R4.out)
  have hne : q.block ≠ w.heap.size + 1 := fun e2 => by
    rw [e2, Y4.out] at hcur
    injection hcur with hcur
    injection hcur with _ hcur
    exact absurd hcur (by decide)
  rw [heap_setCell_ne _ _ _ _ _ hne, heap_setCell_ne _ _ _ _ _ hne, heap_setCell_ne _ _ _ _ _ hne]
end Go.Proofs.YtogdkmkganpaaaaGreatDoor

namespace Go.Proofs.YtogdkmkganpaaaaGreatDoor
open Go.RowKit Go.Mp Go.Rb Go.Lib
/-- A stream: to whom, what was written, is it closed. -/
abbrev StmT := ByteArray × List UInt8 × Bool
def stC (x : StmT × Value) : List Value := [.string x.1.1, x.2, .bool x.1.2.2]
/-- Streams that lie in the blocks of S alone, each with bytes of its own. -/
structure StmIn (S : Nat → Prop) (w : World) (v : Value) (L : List StmT) (M : List (StmT × Value)) : Prop where
  map : M.map (·.1) = L
  row : w.ownsRow 0 141 3 v L.length (M.flatMap stC)
  own : ∀ q, v.ownBlock = some q → S q
  at_ : ∀ x ∈ M, ∃ (a : Option Addr) (n c : Nat), x.2 = .slice a n c ∧ RB 0 w (.slice a n c) x.1.2.1 ∧ ∀ q, a = some q → S q.block
  apart : ∀ (i j : Nat) x y a n c a' n' c', i ≠ j → M[i]? = some x → M[j]? = some y → x.2 = .slice (some a) n c → y.2 = .slice (some a') n' c' → a.block ≠ a'.block
theorem new_cells3 (w : World) (x y z : Value) (e : TypeId) : ∀ j q, [x, y, z][j]? = some q → (w.alloc (.cells #[x, y, z] e)).cell? ((⟨w.heap.size, 0, none⟩ : Addr).add j) = some q := by
  intro j q hj
  have ha : (⟨w.heap.size, 0, none⟩ : Addr).add j = ⟨w.heap.size, j, none⟩ := by unfold Addr.add; split <;> simp_all
  rw [ha, World.cell?_alloc_new]
  simpa using hj
end Go.Proofs.YtogdkmkganpaaaaGreatDoor

namespace Go.Proofs.YtogdkmkganpaaaaGreatDoor
open Go.RowKit Go.Mp Go.Rb Go.Lib
theorem stC_at : ∀ (M : List (StmT × Value)) (i j : Nat) (x : StmT × Value), M[i]? = some x → j < 3 → (M.flatMap stC)[i * 3 + j]? = (stC x)[j]?
  | [], i, j, x, h, _ => by simp at h
  | y :: M, 0, j, x, h, hj => by
    simp at h
    subst h
    rw [List.flatMap_cons, List.getElem?_append_left (by simp [stC]; omega)]
    simp
  | y :: M, i + 1, j, x, h, hj => by
    have h' : M[i]? = some x := by simpa using h
    rw [List.flatMap_cons, List.getElem?_append_right (by simp [stC]; omega)]
    have e : (i + 1) * 3 + j - (stC y).length = i * 3 + j := by simp [stC]; omega
    rw [e]
    exact stC_at M i j x h' hj
/-- Is stream k open? -/
def openB (L : List StmT) (k : Int) : Bool := if k < 0 then false else match L[k.toNat]? with
  | some x => !x.2.2
  | none => false
set_option maxRecDepth 100000 in
theorem isOpen_x {S : Nat → Prop} {w : World} {b : Nat} {c0 : Value} {st : Int} {mp : Option Nat} {c3 v c5 c6 c7 : Value} {L : List StmT} {M : List (StmT × Value)} (hh : W8 w b c0 st mp c3 v c5 c6 c7) (hs : StmIn S w v L M) (hL : L.length ≤ 1000) (k : Int) (hk : -9223372036854775808 ≤ k ∧ k ≤ 9223372036854775807) :
    Calls Tryz.prog 263 #[.pointer (some ⟨b, 0, none⟩), .int .i64 k] w fun e w' => e = .returned (.bool (openB L k)) ∧ w' = w := by
  obtain ⟨p, cap, hv⟩ : ∃ p cap, v = .slice p L.length cap := by
    rcases hs.row.2 with ⟨e, e2⟩ | ⟨g, cap, cur, e, _⟩
    · exact ⟨none, 0, by rw [e, e2]⟩
    · exact ⟨_, _, e⟩
  subst hv
  have k4 : w.cell? ⟨b, 4, none⟩ = some (.slice p L.length cap) := by unfold W8 at hh; simp [World.cell?, hh]
  clear hh
  by_cases h0 : k < 0
  · have ho : openB L k = false := by unfold openB; rw [if_pos h0]
    rw [ho]
    clear hs
    go_enter Tryz.func263, Tryz.ntmps263
    go_wp2
    go_ret
    exact ⟨rfl, rfl⟩
  · obtain ⟨i, rfl⟩ : ∃ i : Nat, k = (i : Int) := ⟨k.toNat, by omega⟩
    by_cases hi : i < L.length
    · obtain ⟨x, hx⟩ : ∃ x, M[i]? = some x := ⟨_, List.getElem?_eq_getElem (by have := congrArg List.length hs.map; simp at this; omega)⟩
      have hLx : L[i]? = some x.1 := by rw [← hs.map, List.getElem?_map, hx]; rfl
      have ho : openB L (i : Int) = !x.1.2.2 := by unfold openB; rw [if_neg h0]; simp [hLx]
      rw [ho]
      obtain ⟨g, rfl⟩ : ∃ g, p = some ⟨g, 0, none⟩ := by
        rcases hs.row.2 with ⟨e, e2⟩ | ⟨g, cap, cur, e, _⟩
        · omega
        · exact ⟨g, by injection e⟩
      have kc : w.cell? ⟨g, i * 3 + 2, none⟩ = some (.bool x.1.2.2) := by
        rw [hs.row.cellAt (i * 3 + 2) (by omega), stC_at M i 2 x hx (by decide)]
        rfl
      have e1 : (i : Int) < (L.length : Int) := by omega
      have e2 : (0 : Int) ≤ (i : Int) := by omega
      have e3 : ¬ (i : Int) < 0 := h0
      generalize x.1.2.2 = cl at *
      clear hs hx hLx ho h0
      go_enter Tryz.func263, Tryz.ntmps263
      go_wp2
      go_ret
      exact ⟨by simp, rfl⟩
    · have ho : openB L (i : Int) = false := by unfold openB; rw [if_neg h0]; simp [List.getElem?_eq_none (Nat.not_lt.1 hi)]
      rw [ho]
      have e1 : ¬ (i : Int) < (L.length : Int) := by omega
      have e2 : (0 : Int) ≤ (i : Int) := by omega
      clear hs
      go_enter Tryz.func263, Tryz.ntmps263
      go_wp2
      go_ret
      exact ⟨by simp, rfl⟩
end Go.Proofs.YtogdkmkganpaaaaGreatDoor

namespace Go.Proofs.YtogdkmkganpaaaaGreatDoor
open Go.RowKit Go.Mp Go.Rb Go.Lib
theorem stC_set : ∀ (M : List (StmT × Value)) (i : Nat) (x : StmT × Value), M[i]? = some x → (M.flatMap stC).set (i * 3 + 2) (.bool true) = (M.set i ((x.1.1, x.1.2.1, true), x.2)).flatMap stC
  | [], i, x, h => by simp at h
  | y :: M, 0, x, h => by
    simp at h
    subst h
    rfl
  | y :: M, i + 1, x, h => by
    have h' : M[i]? = some x := by simpa using h
    have e : (i + 1) * 3 + 2 = (i * 3 + 2) + 3 := by omega
    rw [e, List.set_cons_succ, List.flatMap_cons, List.flatMap_cons, ← stC_set M i x h']
    rfl
def closeL (L : List StmT) (k : Int) : List StmT := if openB L k then L.set k.toNat ((L.getD k.toNat (⟨#[]⟩, [], false)).1, (L.getD k.toNat (⟨#[]⟩, [], false)).2.1, true) else L
/-- Another list of the same bytes: what changes is the row alone. -/
theorem StmIn.row_same {S : Nat → Prop} {w w' : World} {g n cap : Nat} {L L' : List StmT} {M M' : List (StmT × Value)} (h : StmIn S w (.slice (some ⟨g, 0, none⟩) n cap) L M) (hmap : M'.map (·.1) = L') (hrow : w'.ownsRow 0 141 3 (.slice (some ⟨g, 0, none⟩) n cap) L'.length (M'.flatMap stC))
    (hsame : ∀ (j : Nat) y, M'[j]? = some y → ∃ y0 : StmT × Value, M[j]? = some y0 ∧ y0.2 = y.2 ∧ y0.1.2.1 = y.1.2.1) (hh : ∀ k, k ≠ g → w'.heap[k]? = w.heap[k]?) : StmIn S w' (.slice (some ⟨g, 0, none⟩) n cap) L' M' := {
  map := hmap
  row := hrow
  own := h.own
  at_ := fun y hy => by
    obtain ⟨j, hj⟩ := List.mem_iff_getElem?.1 hy
    obtain ⟨y0, h0, h1, h2⟩ := hsame j y hj
    obtain ⟨a, n', c, e, hr, ha⟩ := h.at_ y0 (List.mem_iff_getElem?.2 ⟨j, h0⟩)
    refine ⟨a, n', c, h1 ▸ e, ?_, ha⟩
    rw [← h2]
    exact RB.same hr (fun q n2 c2 e2 => hh _ (fun e3 => by
      injection e2 with e4
      subst e4
      obtain ⟨_, _, _, _, _, cur, fr, hcur⟩ := RB.obj hr
      rcases h.row.2 with ⟨e5, _⟩ | ⟨g', cp, cur2, e5, _, hg, _⟩
      · cases e5
      · have : g = g' := by injection e5 with e6; injection e6 with e6; injection e6
        rw [← this, ← e3, hcur] at hg
        injection hg with hg
        injection hg with _ hg
        exact absurd hg (by decide)))
  apart := fun i j x y a n' c a' n2 c' hij hi hj e1 e2 => by
    obtain ⟨x0, hx0, hx1, _⟩ := hsame i x hi
    obtain ⟨y0, hy0, hy1, _⟩ := hsame j y hj
    exact h.apart i j x0 y0 a n' c a' n2 c' hij hx0 hy0 (hx1.trans e1) (hy1.trans e2) }
theorem openB_some {L : List StmT} {k : Int} (h : openB L k = true) : ∃ (i : Nat) (x : StmT), k = (i : Int) ∧ L[i]? = some x ∧ x.2.2 = false := by
  unfold openB at h
  by_cases h0 : k < 0
  · rw [if_pos h0] at h; cases h
  · rw [if_neg h0] at h
    cases hx : L[k.toNat]? with
    | none => rw [hx] at h; cases h
    | some x => rw [hx] at h; exact ⟨k.toNat, x, by omega, hx, by simpa using h⟩
set_option maxRecDepth 100000 in
theorem close_x {S : Nat → Prop} {w : World} {b : Nat} {c0 : Value} {st : Int} {mp : Option Nat} {c3 v c5 c6 c7 : Value} {L : List StmT} {M : List (StmT × Value)} (hh : W8 w b c0 st mp c3 v c5 c6 c7) (hs : StmIn S w v L M) (hSb : ¬ S b) (hL : L.length ≤ 1000) (k : Int) (hk : -9223372036854775808 ≤ k ∧ k ≤ 9223372036854775807) :
    Calls Tryz.prog 256 #[.pointer (some ⟨b, 0, none⟩), .int .i64 k] w fun e w' => e = .returned (.tuple #[]) ∧ ∃ M', W8 w' b c0 st mp c3 v c5 c6 c7 ∧ StmIn S w' v (closeL L k) M' ∧ KX (fun k => ¬ S k) w w' := by
  have HO := Lib.hid (isOpen_x hh hs hL k hk)
  have HH := Lib.hid hh
  have HS := Lib.hid hs
  cases hob : openB L k with
  | false =>
    rw [hob] at HO
    have e : closeL L k = L := by unfold closeL; rw [hob]; rfl
    rw [e]
    clear hh hs
    go_enter Tryz.func256, Tryz.ntmps256
    go_wp2_with (go_at_call 263; refine HO.out.mono ?_; rintro e w2 ⟨rfl, rfl⟩)
    go_end0
    exact ⟨rfl, M, HH.out, HS.out, KX.refl _ _⟩
  | true =>
    rw [hob] at HO
    obtain ⟨i, x1, rfl, hLx, hcl⟩ := openB_some hob
    have hi : i < L.length := (List.getElem?_eq_some_iff.1 hLx).1
    obtain ⟨x, hx⟩ : ∃ x, M[i]? = some x := ⟨_, List.getElem?_eq_getElem (by have := congrArg List.length hs.map; simp at this; omega)⟩
    have hxe : x.1 = x1 := by rw [← hs.map, List.getElem?_map, hx] at hLx; simpa using hLx
    obtain ⟨g, cap, hv⟩ : ∃ g cap, v = .slice (some ⟨g, 0, none⟩) L.length cap := by
      rcases hs.row.2 with ⟨e, e2⟩ | ⟨g, cap, cur, e, _⟩
      · omega
      · exact ⟨_, _, e⟩
    subst hv
    have k4 : w.cell? ⟨b, 4, none⟩ = some (.slice (some ⟨g, 0, none⟩) L.length cap) := by unfold W8 at hh; simp [World.cell?, hh]
    have kc : w.cell? ⟨g, i * 3 + 2, none⟩ = some (.bool x.1.2.2) := by
      rw [hs.row.cellAt (i * 3 + 2) (by omega), stC_at M i 2 x hx (by decide)]
      rfl
    have kf : w.frozen? ⟨g, i * 3 + 2, none⟩ = false := hs.row.frozenAt _
    have e1 : (i : Int) < (L.length : Int) := by omega
    have e2 : (0 : Int) ≤ (i : Int) := by omega
    have hgb : g ≠ b := fun e => hSb (e ▸ hs.own g rfl)
    have e : closeL L (i : Int) = L.set i (x.1.1, x.1.2.1, true) := by
      unfold closeL
      rw [hob, if_pos rfl]
      simp [hLx, hxe]
    rw [e]
    have hsg := hs.own g rfl
    have HX := Lib.hid hx
    clear hh hs hLx hob e hx
    go_enter Tryz.func256, Tryz.ntmps256
    go_wp2_with (go_at_call 263; refine HO.out.mono ?_; rintro e w2 ⟨rfl, rfl⟩)
    go_end0
    have hst := HS.out.row.stored (i * 3 + 2) (.bool true)
    refine ⟨rfl, M.set i ((x.1.1, x.1.2.1, true), x.2), (heap_setCell_ne _ _ _ _ _ (fun e => hgb e.symm)).trans HH.out, HS.out.row_same ?_ ?_ (fun j y hj => ?_) (fun k hk => heap_setCell_ne _ _ _ _ _ hk), rfl, rfl, rfl, by rw [size_setCell']; exact Nat.le_refl _, fun k hk _ => heap_setCell_ne _ _ _ _ _ (fun e => hk (e ▸ hsg))⟩
    · rw [List.map_set, HS.out.map]
    · rw [List.length_set, ← stC_set M i x HX.out]
      exact hst.1
    · by_cases hij : i = j
      · subst hij
        rw [List.getElem?_set_self (List.getElem?_eq_some_iff.1 HX.out).1] at hj
        cases hj
        exact ⟨x, HX.out, rfl, rfl⟩
      · rw [List.getElem?_set_ne hij] at hj
        exact ⟨y, hj, rfl, rfl⟩
end Go.Proofs.YtogdkmkganpaaaaGreatDoor

namespace Go.Proofs.YtogdkmkganpaaaaGreatDoor
open Go.RowKit Go.Mp Go.Rb Go.Lib
set_option maxRecDepth 100000 in
theorem now_x {w : World} {b : Nat} {c0 : Value} {st : Int} {mp : Option Nat} {c3 c4 c5 c6 c7 : Value} (hh : W8 w b c0 st mp c3 c4 c5 c6 c7) :
    Calls Tryz.prog 110 #[.pointer (some ⟨b, 0, none⟩)] w fun e w' => e = .returned c0 ∧ w' = w := by
  have k0 : w.cell? ⟨b, 0, none⟩ = some c0 := by unfold W8 at hh; simp [World.cell?, hh]
  clear hh
  go_enter Tryz.func110, Tryz.ntmps110
  go_wp2
  go_ret
  exact ⟨rfl, rfl⟩
end Go.Proofs.YtogdkmkganpaaaaGreatDoor

namespace Go.Proofs.YtogdkmkganpaaaaGreatDoor
open Go.RowKit Go.Mp Go.Rb Go.Lib
/-- A datagram: to whom, by the link, its bytes. -/
abbrev DgT := ByteArray × Bool × List UInt8
def dgC (x : DgT × Value) : List Value := [.string x.1.1, .bool x.1.2.1, x.2]
structure DgsIn (S : Nat → Prop) (w : World) (v : Value) (L : List DgT) (M : List (DgT × Value)) : Prop where
  map : M.map (·.1) = L
  row : w.ownsRow 0 60 3 v L.length (M.flatMap dgC)
  own : ∀ q, v.ownBlock = some q → S q
  at_ : ∀ x ∈ M, ∃ (a : Option Addr) (n c : Nat), x.2 = .slice a n c ∧ RB 0 w (.slice a n c) x.1.2.2 ∧ ∀ q, a = some q → S q.block
theorem size_alloc1 (w : World) (o : Obj) : (w.alloc o).heap.size = w.heap.size + 1 := by show (w.heap.push _).size = _; simp
theorem infoDg : (Tryz.prog.info? 60).map (fun i => (i.zero, i.size, i.bytes)) = some (some (.agg #[.string ⟨#[]⟩, .bool false, .slice none 0 0]), 3, 48) := by kernel_rfl
set_option maxHeartbeats 4000000 in
set_option maxRecDepth 100000 in
theorem send_x {S : Nat → Prop} {w : World} {b : Nat} {c0 : Value} {st : Int} {mp : Option Nat} {v c4 c5 c6 c7 : Value} {L : List DgT} {M : List (DgT × Value)} (hh : W8 w b c0 st mp v c4 c5 c6 c7) (hs : DgsIn S w v L M) (hSb : ¬ S b) (hL : L.length ≤ 1000) (dt : ByteArray) (lk : Bool) (a : Option Addr) (n c : Nat) (l : List UInt8) (hr : RB 0 w (.slice a n c) l) (hl : l.length ≤ 1000000) :
    Calls Tryz.prog 70 #[.pointer (some ⟨b, 0, none⟩), .agg #[.string dt, .bool lk, .slice a n c]] w fun e w' => e = .returned (.tuple #[]) ∧ ∃ v' M', W8 w' b c0 st mp v' c4 c5 c6 c7 ∧ DgsIn (fun k => S k ∨ (w.heap.size ≤ k ∧ k < w'.heap.size)) w' v' (L ++ [(dt, lk, l)]) M' ∧ KX (fun k => k ≠ b ∧ ¬ S k) w w' := by
  obtain ⟨p, cap, hv⟩ : ∃ p cap, v = .slice p L.length cap := by
    rcases hs.row.2 with ⟨e, e2⟩ | ⟨g, cap, cur, e, _⟩
    · exact ⟨none, 0, by rw [e, e2]⟩
    · exact ⟨_, _, e⟩
  subst hv
  have hbl := hh.lt
  have HH := Lib.hid hh
  have HS := Lib.hid hs
  have HR := Lib.hid hr
  obtain ⟨ib, hi, hz0, hz1, hz2⟩ := info_parts' infoDg
  have HC : Hid (∀ W, Below w.heap.size w W → Calls Tryz.prog 59 #[.agg #[.string dt, .bool lk, .slice a n c]] W fun e w' => ∃ p1 c1, e = .returned (.agg #[.string dt, .bool lk, .slice p1 l.length c1]) ∧ RB W.heap.size w' (.slice p1 l.length c1) l ∧ Below W.heap.size W w') := Lib.hid (fun W hW => copyD_any dt lk a n c l W (hr.below hW) hl)
  have hc3 : ∀ W, Below w.heap.size w W → W.cell? ⟨b, 3, none⟩ = some (.slice p L.length cap) ∧ W.frozen? ⟨b, 3, none⟩ = false := fun W hW => by
    have h2 := (hW.block b hbl).trans hh
    exact ⟨by simp [World.cell?, h2], by simp [World.frozen?, h2]⟩
  have hbD : Below w.heap.size w (w.alloc (.cells #[.string dt, .bool lk, .slice a n c] 60)) := (Below.refl _ w).alloc (Nat.le_refl _) _
  have HBD := Lib.hid hbD
  have hszD : (w.alloc (.cells #[.string dt, .bool lk, .slice a n c] 60)).heap.size = w.heap.size + 1 := by show (w.heap.push _).size = _; simp
  have HSzD := Lib.hid hszD
  have m3 : (w.alloc (.cells #[.string dt, .bool lk, .slice a n c] 60)).cell? ⟨b, 3, none⟩ = some (.slice p L.length cap) := (hc3 _ hbD).1
  have d0 : (w.alloc (.cells #[.string dt, .bool lk, .slice a n c] 60)).cell? ⟨w.heap.size, 0, none⟩ = some (.string dt) := by rw [World.cell?_alloc_new]; rfl
  have d1 : (w.alloc (.cells #[.string dt, .bool lk, .slice a n c] 60)).cell? ⟨w.heap.size, 1, none⟩ = some (.bool lk) := by rw [World.cell?_alloc_new]; rfl
  have d2 : (w.alloc (.cells #[.string dt, .bool lk, .slice a n c] 60)).cell? ⟨w.heap.size, 2, none⟩ = some (.slice a n c) := by rw [World.cell?_alloc_new]; rfl
  -- behind the call, and behind the new row
  have HC1 : Hid (Calls Tryz.prog 59 #[.agg #[.string dt, .bool lk, .slice a n c]] (w.alloc (.cells #[.string dt, .bool lk, .slice a n c] 60)).drew fun e w' => ∃ p1 c1, e = .returned (.agg #[.string dt, .bool lk, .slice p1 l.length c1]) ∧ Hid (RB w.heap.size w' (.slice p1 l.length c1) l) ∧ Hid (Below (w.heap.size + 1) (w.alloc (.cells #[.string dt, .bool lk, .slice a n c] 60)) w') ∧ Hid (Below w.heap.size w w') ∧ w'.cell? ⟨b, 3, none⟩ = some (.slice p L.length cap) ∧ (∀ o, (w'.alloc o).cell? ⟨b, 3, none⟩ = some (.slice p L.length cap)) ∧ Hid (DgsIn S w' (.slice p L.length cap) L M)) := Lib.hid (((HC.out _ hbD.drew).mono) fun e w' ⟨p1, c1, he, h1, h2⟩ => by
    have hb2 : Below (w.heap.size + 1) (w.alloc (.cells #[.string dt, .bool lk, .slice a n c] 60)) w' := by rw [← hszD]; exact (Below.refl _ _).drew.trans h2
    have hb3 : Below w.heap.size w w' := hbD.trans (hb2.mono (Nat.le_succ _))
    have hso := HS.out
    refine ⟨p1, c1, he, Lib.hid (RB.base h1 (by show w.heap.size ≤ (w.alloc _).heap.size; rw [hszD]; omega)), Lib.hid hb2, Lib.hid hb3, (hc3 _ hb3).1, fun o => (hc3 _ (hb3.alloc hb3.size o)).1, Lib.hid ?_⟩
    exact { map := hso.map, row := ⟨hso.row.1, hso.row.2.imp id (fun ⟨g, cp, cur, e, r1, r2, r3⟩ => ⟨g, cp, cur, e, r1, (hb3.block g (Array.getElem?_eq_some_iff.1 r2).1).trans r2, r3⟩)⟩, own := hso.own, at_ := fun x hx => let ⟨a, n, c, e, hr, ha⟩ := hso.at_ x hx; ⟨a, n, c, e, hr.below hb3, ha⟩ })
  have HG : Hid (∀ (w3 w4 : World) (o : Obj), Below w.heap.size w w3 → (w3.alloc o).grownBy w4 (Value.slice p L.length cap).ownBlock → Hid (∀ k, k < w.heap.size → ¬ S k → w4.heap[k]? = w.heap[k]?) ∧ w4.cell? ⟨b, 3, none⟩ = some (.slice p L.length cap) ∧ w4.frozen? ⟨b, 3, none⟩ = false) := Lib.hid (fun w3 w4 o hb3 hg4 => by
    have h1 : ∀ k, k < w.heap.size → ¬ S k → w4.heap[k]? = w.heap[k]? := fun k hk hks => (hg4.block k (by show k < (w3.heap.push _).size; have := hb3.size; simp; omega) (fun e => hks (hs.own k (by first | exact e | exact e.symm)))).trans ((heap_alloc_lt w3 o k (by have := hb3.size; omega)).trans (hb3.block k hk))
    have h2 := (h1 b hbl hSb).trans hh
    exact ⟨Lib.hid h1, by simp [World.cell?, h2], by simp [World.frozen?, h2]⟩)
  clear hh hs hr hbD hszD hc3
  go_enter Tryz.func70, Tryz.ntmps70
  go_upto_region 2 with (fail)
  go_region_law (first | (refine step_append_lies _ (by rfl) _ _ _ (by rfl) 0 60 ib (.agg #[.string ⟨#[]⟩, .bool false, .slice none 0 0]) 3 48 Tryz.underlying29 hi hz0 hz1 hz2 rfl (by decide) (.slice p L.length cap) L.length (M.flatMap dgC) (by rfl) (World.ownsRow.alloc HS3.out.row _) ⟨w3.heap.size, 0, none⟩ 1 1 [.string dt, .bool lk, .slice p1 l.length c1] (by rfl) rfl (new_cells3 _ _ _ _ _) (by simp [Value.oneCell']) (by decide) (by unfold maxLen; omega) (by omega) (Nat.zero_le _) (w3.heap.size + 1) (by show (w3.heap.push _).size = _; simp) ?_; intro g4 cap4 w4 hown4 hg4 hat4 hlt4; obtain ⟨HB4, c4', f4'⟩ := HG.out w3 w4 _ hb3.out hg4; have HO4 := Lib.hid hown4; have HG4 := Lib.hid hg4; have HA4 := Lib.hid hat4; clear hown4 hg4 hat4) | (go_simp; go_at_call 59; refine HC1.out.mono ?_; rintro e w3 ⟨p1, c1, rfl, hr3, hd3, hb3, m3', m3a, HS3⟩))
  all_goals (
    go_end0
    have hSo := HS.out
    have hS3 := HS3.out
    have hz3 := hb3.out.size
    have hgb : g4 ≠ b := by
      rcases HA4.out with h | h
      · exact fun e => hSb (e ▸ hSo.own g4 h)
      · omega
    have hz4 : w3.heap.size + 1 ≤ w4.heap.size := by have h := HG4.out.size; rw [size_alloc1] at h; exact h
    have hs5 : (w4.setCell ⟨b, 3, none⟩ (.slice (some ⟨g4, 0, none⟩) (L.length + 1) cap4)).heap.size = w4.heap.size := size_setCell' _ _ _
    have hne5 : ∀ k, k ≠ b → (w4.setCell ⟨b, 3, none⟩ (.slice (some ⟨g4, 0, none⟩) (L.length + 1) cap4)).heap[k]? = w4.heap[k]? := fun k hk => heap_setCell_ne _ _ _ _ _ hk
    have keep : ∀ (a : Option Addr) (n c : Nat) (l : List UInt8), RB 0 w3 (.slice a n c) l → (∀ q, a = some q → q.block ≠ b) → RB 0 (w4.setCell ⟨b, 3, none⟩ (.slice (some ⟨g4, 0, none⟩) (L.length + 1) cap4)) (.slice a n c) l := fun a n c l hr ha => RB.same hr (fun q n' c' e => by
      injection e with e1
      subst e1
      obtain ⟨_, _, _, _, _, cur, fr, hcur⟩ := RB.obj hr
      have hlt := (Array.getElem?_eq_some_iff.1 hcur).1
      have hob : (Value.slice p L.length cap).ownBlock ≠ some q.block := fun e => by
        rcases hS3.row.2 with ⟨e2, _⟩ | ⟨g, cp, cur2, e2, _, hg, _⟩
        · rw [e2] at e; cases e
        · rw [e2] at e
          have : g = q.block := by injection e
          rw [this, hcur] at hg
          injection hg with hg
          injection hg with _ hg
          exact absurd hg (by decide)
      exact (hne5 _ (ha q rfl)).trans ((HG4.out.block q.block (by show q.block < (w3.heap.push _).size; simp; omega) (by first | exact hob | exact fun e => hob e.symm)).trans (heap_alloc_lt w3 _ _ hlt)))
    refine ⟨rfl, .slice (some ⟨g4, 0, none⟩) (L.length + 1) cap4, M ++ [((dt, lk, l), .slice p1 l.length c1)], heap_setCell_eq _ _ _ _ _ _ _ ((HB4.out b hbl hSb).trans HH.out), ?_, HG4.out.os.trans hb3.out.os, HG4.out.tape.trans hb3.out.tape, HG4.out.output.trans hb3.out.output, by show w.heap.size ≤ (w4.setCell _ _).heap.size; rw [size_setCell']; omega, fun k hk hl => (hne5 k hk.1).trans (HB4.out k hl hk.2)⟩
    exact {
      map := by rw [List.map_append, hSo.map]; rfl
      row := by
        have := HO4.out
        rw [List.length_append, List.flatMap_append]
        refine ⟨this.1, this.2.imp id (fun ⟨g, cp, cur, e, r1, r2, r3⟩ => ⟨g, cp, cur, e, r1, ?_, r3⟩)⟩
        have eg : g4 = g := by injection e with e1; injection e1 with e1; injection e1
        rw [← eg] at r2 ⊢
        exact (hne5 g4 hgb).trans r2
      own := fun q e => by
        have eg : g4 = q := by injection e
        subst eg
        rcases HA4.out with h | h
        · exact .inl (hSo.own g4 h)
        · exact .inr ⟨by omega, by show g4 < (w4.setCell _ _).heap.size; rw [size_setCell']; omega⟩
      at_ := fun x hx => by
        rcases List.mem_append.1 hx with hx | hx
        · obtain ⟨a, n, c, e, hr, ha⟩ := hS3.at_ x hx
          exact ⟨a, n, c, e, keep a n c _ hr (fun q e e2 => hSb (e2 ▸ ha q e)), fun q e => .inl (ha q e)⟩
        · rw [List.mem_singleton.1 hx]
          refine ⟨p1, l.length, c1, rfl, keep _ _ _ _ (RB.base hr3.out (Nat.zero_le _)) (fun q e e2 => ?_), fun q e => .inr ⟨(RB.blk hr3.out e).1, ?_⟩⟩
          · have := (RB.blk hr3.out e).1; omega
          · show q.block < (w4.setCell _ _).heap.size
            rw [size_setCell']
            have := (RB.blk hr3.out e).2
            omega })
end Go.Proofs.YtogdkmkganpaaaaGreatDoor

namespace Go.Proofs.YtogdkmkganpaaaaGreatDoor
open Go.RowKit Go.Mp Go.Rb Go.Lib
theorem dgC_at : ∀ (M : List (DgT × Value)) (i j : Nat) (x : DgT × Value), M[i]? = some x → j < 3 → (M.flatMap dgC)[i * 3 + j]? = (dgC x)[j]?
  | [], i, j, x, h, _ => by simp at h
  | y :: M, 0, j, x, h, hj => by
    simp at h
    subst h
    rw [List.flatMap_cons, List.getElem?_append_left (by simp [dgC]; omega)]
    simp
  | y :: M, i + 1, j, x, h, hj => by
    have h' : M[i]? = some x := by simpa using h
    rw [List.flatMap_cons, List.getElem?_append_right (by simp [dgC]; omega)]
    have e : (i + 1) * 3 + j - (dgC y).length = i * 3 + j := by simp [dgC]; omega
    rw [e]
    exact dgC_at M i j x h' hj
theorem dgC_len (M : List (DgT × Value)) : (M.flatMap dgC).length = M.length * 3 := by
  induction M with
  | nil => rfl
  | cons x M ih => simp [dgC, ih]; omega
theorem set3 (A : List Value) (k : Nat) (hk : A.length = k) (z0 z1 z2 u0 u1 u2 : Value) (zs : List Value) : (((A ++ z0 :: z1 :: z2 :: zs).set k u0).set (k + 1) u1).set (k + 2) u2 = (A ++ [u0, u1, u2]) ++ zs := by
  subst hk
  rw [List.set_append_right _ _ (Nat.le_refl _), List.set_append_right _ _ (by omega), List.set_append_right _ _ (by omega)]
  simp
/-- The copy, as far as number i. -/
def SentAt (w wr : World) (gm n : Nat) (L : List DgT) (i : Nat) : Prop :=
  ∃ (M : List (DgT × Value)) (zs : List Value), M.map (·.1) = L.take i ∧ M.length = i ∧ wr.ownsRow w.heap.size 60 3 (.slice (some ⟨gm, 0, none⟩) n n) n (M.flatMap dgC ++ zs) ∧ zs.length = (n - i) * 3 ∧ (∀ x ∈ M, ∃ (a : Option Addr) (n c : Nat), x.2 = .slice a n c ∧ RB w.heap.size wr (.slice a n c) x.1.2.2)
set_option maxHeartbeats 4000000 in
set_option maxRecDepth 100000 in
theorem sent_x {S : Nat → Prop} {w : World} {b : Nat} {c0 : Value} {st : Int} {mp : Option Nat} {v c4 c5 c6 c7 : Value} {L : List DgT} {M : List (DgT × Value)} (hh : W8 w b c0 st mp v c4 c5 c6 c7) (hs : DgsIn S w v L M) (hL : L.length ≤ 1000) (hl : ∀ x ∈ L, x.2.2.length ≤ 1000000) :
    Calls Tryz.prog 25 #[.pointer (some ⟨b, 0, none⟩)] w fun e w' => ∃ gm, e = .returned (.slice (some ⟨gm, 0, none⟩) L.length L.length) ∧ SentAt w w' gm L.length L L.length ∧ Below w.heap.size w w' := by
  obtain ⟨p, cap, hv⟩ : ∃ p cap, v = .slice p L.length cap := by
    rcases hs.row.2 with ⟨e, e2⟩ | ⟨g, cap, cur, e, _⟩
    · exact ⟨none, 0, by rw [e, e2]⟩
    · exact ⟨_, _, e⟩
  subst hv
  have hbl := hh.lt
  have HH := Lib.hid hh
  have HS := Lib.hid hs
  obtain ⟨nL, hnL⟩ : ∃ nL, L.length = nL := ⟨_, rfl⟩
  have HnL := Lib.hid hnL
  obtain ⟨ib, hi, hz0, hz1, hz2⟩ := info_parts' infoDg
  have hcell : ∀ W, Below w.heap.size w W → W.cell? ⟨b, 3, none⟩ = some (.slice p nL cap) := fun W hW => by
    have h2 := (hW.block b hbl).trans hh
    rw [← hnL]
    simp [World.cell?, h2]
  have k3 := hcell w (Below.refl _ _)
  obtain ⟨w1, hmk, hown1, hg1⟩ := run_makeSlice_full w w.heap.size 29 60 ib _ 3 Tryz.underlying29 hi hz0 hz1 .i64 .i64 nL (by omega) (by rw [hz2]; omega) (by unfold maxLen; omega) (Nat.le_refl _)
  have hb1 : Below w.heap.size w w1 := ⟨hg1.os, hg1.tape, hg1.output, hg1.size, fun k hk => hg1.block k hk (by simp)⟩
  have k31 := hcell w1 hb1
  have HB1 := Lib.hid hb1
  have HO1 : Hid (SentAt w w1 w.heap.size nL L 0) := Lib.hid ⟨[], _, by simp, rfl, hown1, by have := hown1.1; simpa using this, fun x hx => by simp at hx⟩
  clear hh hs hown1 hg1 hb1 hcell
  rw [hnL]
  rw [hnL] at hL
  go_enter Tryz.func25, Tryz.ntmps25
  go_wp2
  go_loopw [19] (fun iv wr => ∃ i : Nat, i ≤ nL ∧ iv = .int .i64 i ∧ SentAt w wr w.heap.size nL L i ∧ Below w.heap.size w wr) (fun iv _ => nL - (intOf iv).toNat)
  case atStart => exact ⟨0, Nat.zero_le _, rfl, HO1.out, HB1.out⟩
  case round =>
    obtain ⟨i, hin, rfl, hA, hB⟩ := hrel
    have HA := Lib.hid hA
    have HB := Lib.hid hB
    by_cases hlt : i < nL
    · obtain ⟨Mi, zs, hm1, hm2, hrow, hzl, hat⟩ := hA
      have hSo := HS.out
      obtain ⟨x, hx⟩ : ∃ x, M[i]? = some x := ⟨_, List.getElem?_eq_getElem (by have := congrArg List.length hSo.map; simp at this; have := HnL.out; omega)⟩
      have hLx : L[i]? = some x.1 := by rw [← hSo.map, List.getElem?_map, hx]; rfl
      obtain ⟨a0, n0, cp0, hxv, hr0, _⟩ := hSo.at_ x (List.mem_iff_getElem?.2 ⟨i, hx⟩)
      obtain ⟨g, rfl⟩ : ∃ g, p = some ⟨g, 0, none⟩ := by
        rcases hSo.row.2 with ⟨e, e2⟩ | ⟨g, cap, cur, e, _⟩
        · have := HnL.out; omega
        · exact ⟨g, by injection e⟩
      have hgl : g < w.heap.size := (hSo.row.lt g rfl).2
      have src : ∀ j, j < 3 → w.cell? ⟨g, i * 3 + j, none⟩ = (dgC x)[j]? := fun j hj => by
        rw [hSo.row.cellAt (i * 3 + j) (by rw [HnL.out]; omega), dgC_at M i j x hx hj]
      have s0 : wr.cell? ⟨g, i * 3, none⟩ = some (.string x.1.1) := (hB.cell (p := ⟨g, i * 3, none⟩) hgl).trans (src 0 (by decide))
      have s1 : wr.cell? ⟨g, i * 3 + 1, none⟩ = some (.bool x.1.2.1) := (hB.cell (p := ⟨g, i * 3 + 1, none⟩) hgl).trans (src 1 (by decide))
      have s2 : wr.cell? ⟨g, i * 3 + 2, none⟩ = some (.slice a0 n0 cp0) := (hB.cell (p := ⟨g, i * 3 + 2, none⟩) hgl).trans ((src 2 (by decide)).trans (by rw [← hxv]; rfl))
      obtain ⟨z0, z1, z2, zs', rfl⟩ : ∃ z0 z1 z2 zs', zs = z0 :: z1 :: z2 :: zs' := by
        match zs, (show 3 ≤ zs.length by omega) with
        | z0 :: z1 :: z2 :: zs', _ => exact ⟨z0, z1, z2, zs', rfl⟩
      have hMl : (Mi.flatMap dgC).length = i * 3 := by rw [dgC_len, hm2]
      have hgm : w.heap.size < wr.heap.size := (hrow.lt w.heap.size rfl).2
      have hD : Below wr.heap.size wr (wr.alloc (.cells #[.string x.1.1, .bool x.1.2.1, .slice a0 n0 cp0] 60)) := (Below.refl _ _).alloc (Nat.le_refl _) _
      have HCp := Lib.hid (copyD_any x.1.1 x.1.2.1 a0 n0 cp0 x.1.2.2 (wr.alloc (.cells #[.string x.1.1, .bool x.1.2.1, .slice a0 n0 cp0] 60)) ((hr0.below hB).below hD) (hl x.1 (List.mem_iff_getElem?.2 ⟨i, hLx⟩)))
      have d0 : (wr.alloc (.cells #[.string x.1.1, .bool x.1.2.1, .slice a0 n0 cp0] 60)).cell? ⟨wr.heap.size, 0, none⟩ = some (.string x.1.1) := by rw [World.cell?_alloc_new]; rfl
      have d1 : (wr.alloc (.cells #[.string x.1.1, .bool x.1.2.1, .slice a0 n0 cp0] 60)).cell? ⟨wr.heap.size, 1, none⟩ = some (.bool x.1.2.1) := by rw [World.cell?_alloc_new]; rfl
      have d2 : (wr.alloc (.cells #[.string x.1.1, .bool x.1.2.1, .slice a0 n0 cp0] 60)).cell? ⟨wr.heap.size, 2, none⟩ = some (.slice a0 n0 cp0) := by rw [World.cell?_alloc_new]; rfl
      have HW3 : Hid (∀ w3, Below (wr.alloc (.cells #[.string x.1.1, .bool x.1.2.1, .slice a0 n0 cp0] 60)).heap.size (wr.alloc (.cells #[.string x.1.1, .bool x.1.2.1, .slice a0 n0 cp0] 60)) w3 → Hid (Below wr.heap.size wr w3) ∧ Hid (w3.ownsRow w.heap.size 60 3 (.slice (some ⟨w.heap.size, 0, none⟩) nL nL) nL (Mi.flatMap dgC ++ z0 :: z1 :: z2 :: zs')) ∧ w3.cell? ⟨w.heap.size, i * 3, none⟩ = some z0 ∧ w3.cell? ⟨w.heap.size, i * 3 + 1, none⟩ = some z1 ∧ w3.cell? ⟨w.heap.size, i * 3 + 2, none⟩ = some z2 ∧ w3.frozen? ⟨w.heap.size, i * 3, none⟩ = false ∧ w3.frozen? ⟨w.heap.size, i * 3 + 1, none⟩ = false ∧ w3.frozen? ⟨w.heap.size, i * 3 + 2, none⟩ = false) := Lib.hid (fun w3 h3 => by
        have hb3 := hD.trans (h3.mono hD.size)
        have hr3 : w3.ownsRow w.heap.size 60 3 (.slice (some ⟨w.heap.size, 0, none⟩) nL nL) nL (Mi.flatMap dgC ++ z0 :: z1 :: z2 :: zs') := ⟨hrow.1, hrow.2.imp id (fun ⟨g, cp, cur, e, r1, r2, r3⟩ => ⟨g, cp, cur, e, r1, (hb3.block g (Array.getElem?_eq_some_iff.1 r2).1).trans r2, r3⟩)⟩
        refine ⟨Lib.hid hb3, Lib.hid hr3, ?_, ?_, ?_, hr3.frozenAt _, hr3.frozenAt _, hr3.frozenAt _⟩
        · rw [hr3.cellAt _ (by omega), List.getElem?_append_right (by omega), hMl]; simp
        · rw [hr3.cellAt _ (by omega), List.getElem?_append_right (by omega), hMl]; simp
        · rw [hr3.cellAt _ (by omega), List.getElem?_append_right (by omega), hMl]; simp)
      have e1 : (i : Int) < (nL : Int) := by omega
      have e2 : (0 : Int) ≤ (i : Int) := by omega
      have HAt := Lib.hid hat
      have HM := Lib.hid (show Mi.map (·.1) = L.take i ∧ Mi.length = i ∧ (Mi.flatMap dgC).length = i * 3 ∧ (z0 :: z1 :: z2 :: zs').length = (nL - i) * 3 ∧ L[i]? = some x.1 from ⟨hm1, hm2, hMl, hzl, hLx⟩)
      clear hm1 hm2 hrow hzl hat hSo hx hLx hxv hr0 src hMl hD hB hl
      go_wp2_with (go_at_call 59; refine HCp.out.mono ?_; rintro e w3 ⟨p1, c1, rfl, hr3, hb3⟩; obtain ⟨HB3, HR3, y0, y1, y2, f0, f1, f2⟩ := HW3.out w3 hb3; have HRb := Lib.hid hr3; have HB33 := Lib.hid hb3; clear hr3 hb3)
      go_roundw
      case rel =>
        have st3 := (((HR3.out.stored (i * 3) (.string x.1.1)).1.stored (i * 3 + 1) (.bool x.1.2.1)).1.stored (i * 3 + 2) (.slice p1 x.1.2.2.length c1)).1
        rw [set3 _ _ HM.out.2.2.1] at st3
        have hgm3 : ∀ (a : Addr) n c l, RB w.heap.size w3 (.slice (some a) n c) l → a.block ≠ w.heap.size := fun a n c l hr e => by
          obtain ⟨_, _, _, _, _, cur, fr, hcur⟩ := RB.obj hr
          rcases HR3.out.2 with ⟨e5, _⟩ | ⟨g', cp, cur2, e5, _, hg, _⟩
          · cases e5
          · have : w.heap.size = g' := by injection e5 with e6; injection e6 with e6; injection e6
            rw [← this, ← e, hcur] at hg
            injection hg with hg
            injection hg with _ hg
            exact absurd hg (by decide)
        have keep : ∀ (a : Option Addr) n c l, RB w.heap.size w3 (.slice a n c) l → RB w.heap.size (((w3.setCell ⟨w.heap.size, i * 3, none⟩ (.string x.1.1)).setCell ⟨w.heap.size, i * 3 + 1, none⟩ (.bool x.1.2.1)).setCell ⟨w.heap.size, i * 3 + 2, none⟩ (.slice p1 x.1.2.2.length c1)) (.slice a n c) l := fun a n c l hr => RB.same hr (fun q n' c' e => by
          injection e with e1
          subst e1
          have hq := hgm3 q _ _ _ hr
          exact (heap_setCell_ne _ _ _ _ _ hq).trans ((heap_setCell_ne _ _ _ _ _ hq).trans (heap_setCell_ne _ _ _ _ _ hq)))
        refine ⟨i + 1, hlt, by go_num, ⟨Mi ++ [(x.1, .slice p1 x.1.2.2.length c1)], zs', ?_, ?_, ?_, ?_, fun y hy => ?_⟩, ?_⟩
        · rw [List.map_append, HM.out.1, List.take_add_one, HM.out.2.2.2.2]; rfl
        · rw [List.length_append, HM.out.2.1]; rfl
        · rw [List.flatMap_append]; exact st3
        · have := HM.out.2.2.2.1; simp at this; omega
        · rcases List.mem_append.1 hy with hy | hy
          · obtain ⟨a, n, c, e, hr⟩ := HAt.out y hy
            exact ⟨a, n, c, e, keep _ _ _ _ (hr.below HB3.out)⟩
          · rw [List.mem_singleton.1 hy]
            exact ⟨p1, _, c1, rfl, keep _ _ _ _ (RB.base HRb.out (by rw [size_alloc1]; omega))⟩
        · exact (((HB.out.trans (HB3.out.mono HB.out.size)).setCell (p := ⟨w.heap.size, i * 3, none⟩) (Nat.le_refl _) _).setCell (p := ⟨w.heap.size, i * 3 + 1, none⟩) (Nat.le_refl _) _).setCell (p := ⟨w.heap.size, i * 3 + 2, none⟩) (Nat.le_refl _) _
      case measure => simp [intOf]; omega
    · obtain rfl : i = nL := by omega
      clear hA hB
      go_wp2
      go_ret
      exact ⟨_, rfl, HA.out, HB.out⟩
end Go.Proofs.YtogdkmkganpaaaaGreatDoor

namespace Go.Proofs.YtogdkmkganpaaaaGreatDoor
open Go.RowKit Go.Mp Go.Rb Go.Lib
/-- A world's files, datagrams, streams and clock. -/
structure NetW where
  now : Int
  cnt : Int
  fil : ByteArray → FileT
  sent : List DgT
  strm : List StmT
def isU8 (w : World) (k : Nat) : Prop := ∃ cs fr, w.heap[k]? = some (.cells cs 5 fr)
/-- Colours: 1 files, 2 datagrams, 3 streams, 5 the world's own block, 7 the document's bytes, 8 to 99 the document's rows, 100 and more the program's own. -/
structure ColOk (W0 : Nat) (col : Nat → Nat) (w : World) : Prop where
  base : W0 ≤ w.heap.size
  lo : ∀ k, col k ≠ 0 → W0 ≤ k ∧ k < w.heap.size
  u8 : ∀ k, col k = 7 → ∃ cs fr, w.heap[k]? = some (.cells cs 5 fr)
structure Fr (cs : Nat → Prop) (col col' : Nat → Nat) (w w' : World) : Prop where
  os : w'.os = w.os
  tape : w'.tape = w.tape
  output : w'.output = w.output
  size : w.heap.size ≤ w'.heap.size
  old : ∀ k, k < w.heap.size → col' k = col k
  keep : ∀ k, k < w.heap.size → ¬ cs (col k) → w'.heap[k]? = w.heap[k]?
  bod : ∀ k, k < w.heap.size → 8 ≤ col k ∧ col k < 100 → isU8 w k → w'.heap[k]? = w.heap[k]?
def paint (w w' : World) (c : Nat) (col : Nat → Nat) : Nat → Nat := fun k => if w.heap.size ≤ k ∧ k < w'.heap.size then c else col k
theorem paint_old {w w' : World} {c : Nat} {col : Nat → Nat} {k : Nat} (h : k < w.heap.size) : paint w w' c col k = col k := if_neg (by omega)
theorem paint_new {w w' : World} {c : Nat} {col : Nat → Nat} {k : Nat} (h : w.heap.size ≤ k ∧ k < w'.heap.size) : paint w w' c col k = c := if_pos h
theorem ColOk.below {W0 : Nat} {col : Nat → Nat} {w w' : World} (h : ColOk W0 col w) (hb : Below w.heap.size w w') : ColOk W0 col w' :=
  ⟨Nat.le_trans h.base hb.size, fun k hk => ⟨(h.lo k hk).1, Nat.lt_of_lt_of_le (h.lo k hk).2 hb.size⟩, fun k hk => by
    obtain ⟨cs, fr, e⟩ := h.u8 k hk
    exact ⟨cs, fr, (hb.block k (Array.getElem?_eq_some_iff.1 e).1).trans e⟩⟩
theorem Fr.below {cs : Nat → Prop} {col : Nat → Nat} {w w' : World} (hb : Below w.heap.size w w') : Fr cs col col w w' := ⟨hb.os, hb.tape, hb.output, hb.size, fun _ _ => rfl, fun k hk _ => hb.block k hk, fun k hk _ _ => hb.block k hk⟩
theorem Fr.trans {cs : Nat → Prop} {c0 c1 c2 : Nat → Nat} {w0 w1 w2 : World} (h : Fr cs c0 c1 w0 w1) (k : Fr cs c1 c2 w1 w2) : Fr cs c0 c2 w0 w2 :=
  ⟨k.os.trans h.os, k.tape.trans h.tape, k.output.trans h.output, Nat.le_trans h.size k.size, fun j hj => (k.old j (Nat.lt_of_lt_of_le hj h.size)).trans (h.old j hj), fun j hj hn => (k.keep j (Nat.lt_of_lt_of_le hj h.size) (by rw [h.old j hj]; exact hn)).trans (h.keep j hj hn), fun j hj h8 hu => (k.bod j (Nat.lt_of_lt_of_le hj h.size) (by rw [h.old j hj]; exact h8) (by obtain ⟨cs', fr, e⟩ := hu; exact ⟨cs', fr, (h.bod j hj h8 ⟨cs', fr, e⟩).trans e⟩)).trans (h.bod j hj h8 hu)⟩
theorem Fr.weak {cs cs' : Nat → Prop} {c0 c1 : Nat → Nat} {w0 w1 : World} (h : Fr cs c0 c1 w0 w1) (hc : ∀ c, cs c → cs' c) : Fr cs' c0 c1 w0 w1 := ⟨h.os, h.tape, h.output, h.size, h.old, fun j hj hn => h.keep j hj (fun e => hn (hc _ e)), h.bod⟩
/-- The program's world. -/
def PW (col : Nat → Nat) (w : World) (b : Nat) (s : NetW) : Prop :=
  ∃ (mp : Option Nat) (vs vt c5 c6 c7 : Value) (T : ByteArray → Option FileT) (Ms : List (DgT × Value)) (Mt : List (StmT × Value)),
    W8 w b (.int .i64 s.now) s.cnt mp vs vt c5 c6 c7 ∧ col b = 5 ∧ FilesIn (fun k => col k = 1) w b mp T ∧ (∀ p, (T p).getD ([], 0, false) = s.fil p) ∧ DgsIn (fun k => col k = 2) w vs s.sent Ms ∧ StmIn (fun k => col k = 3) w vt s.strm Mt
theorem DgsIn.same {S S' : Nat → Prop} {w w' : World} {v : Value} {L : List DgT} {M : List (DgT × Value)} (h : DgsIn S w v L M) (hS : ∀ k, S k → S' k) (hh : ∀ k, S k → w'.heap[k]? = w.heap[k]?) : DgsIn S' w' v L M where
  map := h.map
  row := ⟨h.row.1, h.row.2.imp id (fun ⟨g, cp, cur, a, r1, r2, r3⟩ => ⟨g, cp, cur, a, r1, (hh g (h.own g (by rw [a]; rfl))).trans r2, r3⟩)⟩
  own := fun q e => hS q (h.own q e)
  at_ := fun x hx => by
    obtain ⟨a, n, c, e, hr, ha⟩ := h.at_ x hx
    exact ⟨a, n, c, e, RB.keepB hr (fun q cs fr ea _ => hh _ (ha q ea)), fun q ea => hS _ (ha q ea)⟩
theorem StmIn.same {S S' : Nat → Prop} {w w' : World} {v : Value} {L : List StmT} {M : List (StmT × Value)} (h : StmIn S w v L M) (hS : ∀ k, S k → S' k) (hh : ∀ k, S k → w'.heap[k]? = w.heap[k]?) : StmIn S' w' v L M where
  map := h.map
  row := ⟨h.row.1, h.row.2.imp id (fun ⟨g, cp, cur, a, r1, r2, r3⟩ => ⟨g, cp, cur, a, r1, (hh g (h.own g (by rw [a]; rfl))).trans r2, r3⟩)⟩
  own := fun q e => hS q (h.own q e)
  at_ := fun x hx => by
    obtain ⟨a, n, c, e, hr, ha⟩ := h.at_ x hx
    exact ⟨a, n, c, e, RB.keepB hr (fun q cs fr ea _ => hh _ (ha q ea)), fun q ea => hS _ (ha q ea)⟩
  apart := h.apart
section
variable {W0 : Nat} {cs : Nat → Prop} {col col' : Nat → Nat} {w w' : World} {s : NetW}
theorem col_new (hc : ColOk W0 col w) {c : Nat} (hn : c ≠ 0) (k : Nat) (h : col k = c) : k < w.heap.size := (hc.lo k (by rw [h]; exact hn)).2
theorem PW.keep {b : Nat} (h : PW col w b s) (hc : ColOk W0 col w) (hf : Fr cs col col' w w') (hcs : ¬ cs 1 ∧ ¬ cs 2 ∧ ¬ cs 3 ∧ ¬ cs 5) : PW col' w' b s := by
  obtain ⟨mp, vs, vt, c5, c6, c7, T, Ms, Mt, h1, h2, h3, h4, h5, h6⟩ := h
  have hlt : ∀ k c, c ≠ 0 → col k = c → k < w.heap.size := fun k c hn e => (hc.lo k (by rw [e]; exact hn)).2
  have hcl : ∀ k c, c ≠ 0 → col k = c → col' k = c := fun k c hn e => (hf.old k (hlt k c hn e)).trans e
  have hkp : ∀ k c, c ≠ 0 → ¬ cs c → col k = c → w'.heap[k]? = w.heap[k]? := fun k c hn hcc e => hf.keep k (hlt k c hn e) (by rw [e]; exact hcc)
  exact ⟨mp, vs, vt, c5, c6, c7, T, Ms, Mt, (hkp b 5 (by decide) hcs.2.2.2 h2).trans h1, hcl b 5 (by decide) h2, h3.same (fun k hk => hcl k 1 (by decide) hk) (fun k hk => hkp k 1 (by decide) hcs.1 hk), h4, h5.same (fun k hk => hcl k 2 (by decide) hk) (fun k hk => hkp k 2 (by decide) hcs.2.1 hk), h6.same (fun k hk => hcl k 3 (by decide) hk) (fun k hk => hkp k 3 (by decide) hcs.2.2.1 hk)⟩
theorem PW.below {b : Nat} (h : PW col w b s) (hc : ColOk W0 col w) (hb : Below w.heap.size w w') : PW col w' b s := h.keep hc (Fr.below (cs := fun _ => False) hb) ⟨id, id, id, id⟩
theorem ColOk.paint (hc : ColOk W0 col w) {c : Nat} (h7 : c ≠ 7) (hs : w.heap.size ≤ w'.heap.size) (hk : ∀ k, col k = 7 → w'.heap[k]? = w.heap[k]?) : ColOk W0 (paint w w' c col) w' :=
  ⟨Nat.le_trans hc.base hs, fun k hn => by
    by_cases hk2 : w.heap.size ≤ k ∧ k < w'.heap.size
    · exact ⟨Nat.le_trans hc.base hk2.1, hk2.2⟩
    · rw [show Go.Proofs.YtogdkmkganpaaaaGreatDoor.paint w w' c col k = col k from if_neg hk2] at hn
      exact ⟨(hc.lo k hn).1, Nat.lt_of_lt_of_le (hc.lo k hn).2 hs⟩, fun k h => by
    by_cases hk2 : w.heap.size ≤ k ∧ k < w'.heap.size
    · rw [paint_new hk2] at h; exact absurd h h7
    · rw [show Go.Proofs.YtogdkmkganpaaaaGreatDoor.paint w w' c col k = col k from if_neg hk2] at h
      obtain ⟨cs', fr, e⟩ := hc.u8 k h
      exact ⟨cs', fr, (hk k h).trans e⟩⟩
/-- How great a world is. -/
structure Okn (s : NetW) : Prop where
  now : 0 ≤ s.now ∧ s.now ≤ 1152921504606846976
  cnt : 0 ≤ s.cnt ∧ s.cnt ≤ 999999
  sent : s.sent.length ≤ 1000
  strm : s.strm.length ≤ 1000
def PC (c : Nat) : Prop := c = 1 ∨ c = 2 ∨ c = 3 ∨ c = 5
def PStep (W0 : Nat) (col : Nat → Nat) (w : World) (b : Nat) (s' : NetW) (v : Value) (e : Ending) (w' : World) : Prop :=
  e = .returned v ∧ ∃ col', ColOk W0 col' w' ∧ Fr PC col col' w w' ∧ PW col' w' b s'
variable {b : Nat}
theorem fr_paint {c : Nat} (hc : PC c) (hb : col b = 5) (o : w'.os = w.os ∧ w'.tape = w.tape ∧ w'.output = w.output) (hs : w.heap.size ≤ w'.heap.size) (hh : ∀ k, k < w.heap.size → k ≠ b → col k ≠ c → w'.heap[k]? = w.heap[k]?) : Fr PC col (paint w w' c col) w w' :=
  ⟨o.1, o.2.1, o.2.2, hs, fun k hk => paint_old hk, fun k hk hn => hh k hk (fun e => hn (by rw [e, hb]; exact .inr (.inr (.inr rfl)))) (fun e => hn (by rw [e]; exact hc)), fun k hk h8 _ => hh k hk (fun e => by rw [e, hb] at h8; omega) (by rcases hc with rfl | rfl | rfl | rfl <;> omega)⟩
theorem ok_paint {c : Nat} (hc : ColOk W0 col w) (hP : PC c) (hb : col b = 5) (hs : w.heap.size ≤ w'.heap.size) (hh : ∀ k, k < w.heap.size → k ≠ b → col k ≠ c → w'.heap[k]? = w.heap[k]?) : ColOk W0 (paint w w' c col) w' :=
  hc.paint (by rcases hP with rfl | rfl | rfl | rfl <;> decide) hs (fun k hk => hh k (hc.lo k (by omega)).2 (fun e => by rw [e, hb] at hk; cases hk) (by rw [hk]; rcases hP with rfl | rfl | rfl | rfl <;> decide))
/-- A set of one colour, painted on. -/
theorem set_paint {c : Nat} (hc : ColOk W0 col w) (hn : c ≠ 0) (k : Nat) (h : col k = c ∨ (w.heap.size ≤ k ∧ k < w'.heap.size)) : paint w w' c col k = c := by
  rcases h with h | h
  · rw [paint_old (hc.lo k (by rw [h]; exact hn)).2, h]
  · exact paint_new h
theorem set_paint2 {c c2 : Nat} (hc : ColOk W0 col w) (hn : c2 ≠ 0) (k : Nat) (h : col k = c2) : paint w w' c col k = c2 := by
  rw [paint_old (hc.lo k (by rw [h]; exact hn)).2, h]
theorem PW.step {mp' : Option Nat} {vs' vt' c5 c6 c7 : Value} {T : ByteArray → Option FileT} {Ms : List (DgT × Value)} {Mt : List (StmT × Value)} {s' : NetW} {c : Nat} (hP : PC c) (hc : ColOk W0 col w) (h2 : col b = 5)
    (h8' : W8 w' b (.int .i64 s'.now) s'.cnt mp' vs' vt' c5 c6 c7) (o : w'.os = w.os ∧ w'.tape = w.tape ∧ w'.output = w.output) (hsz : w.heap.size ≤ w'.heap.size) (hh : ∀ k, k < w.heap.size → k ≠ b → col k ≠ c → w'.heap[k]? = w.heap[k]?)
    (hF : FilesIn (fun k => paint w w' c col k = 1) w' b mp' T) (hT : ∀ p, (T p).getD ([], 0, false) = s'.fil p) (hS : DgsIn (fun k => paint w w' c col k = 2) w' vs' s'.sent Ms) (hM : StmIn (fun k => paint w w' c col k = 3) w' vt' s'.strm Mt) {v : Value} : PStep W0 col w b s' v (.returned v) w' :=
  ⟨rfl, _, ok_paint hc hP h2 hsz hh, fr_paint hP h2 o hsz hh, mp', vs', vt', c5, c6, c7, T, Ms, Mt, h8', set_paint2 hc (by decide) b h2, hF, hT, hS, hM⟩
theorem PW.now_ (h : PW col w b s) : Calls Tryz.prog 110 #[.pointer (some ⟨b, 0, none⟩)] w fun e w' => e = .returned (.int .i64 s.now) ∧ w' = w := by
  obtain ⟨mp, vs, vt, c5, c6, c7, T, Ms, Mt, h1, h2, h3, h4, h5, h6⟩ := h
  exact now_x h1
theorem PW.put (h : PW col w b s) (hc : ColOk W0 col w) (ho : Okn s) (p : ByteArray) (a : Option Addr) (n c : Nat) (l : List UInt8) (hr : RB 0 w (.slice a n c) l) (hl : l.length ≤ 1000000) :
    Calls Tryz.prog 10 #[.pointer (some ⟨b, 0, none⟩), .string p, .slice a n c] w (PStep W0 col w b { s with cnt := s.cnt + 1, fil := fun q => if q = p then (l, s.cnt + 1, true) else s.fil q } (.tuple #[])) := by
  obtain ⟨mp, vs, vt, c5, c6, c7, T, Ms, Mt, h1, h2, h3, h4, h5, h6⟩ := h
  have := ho.cnt
  refine (put_x h1 h3 (by rw [h2]; decide) (fun k hk => col_new hc (by decide) k hk) ho.cnt.1 (by omega) p a n c l hr hl).mono fun e w' hr => ?_
  obtain ⟨he, m, h8', hf, o1, o2, o3, hsz, hk⟩ := hr
  have hh : ∀ k, k < w.heap.size → k ≠ b → col k ≠ 1 → w'.heap[k]? = w.heap[k]? := hk
  have hne : ∀ k c, c ≠ 5 → col k = c → k ≠ b := fun k c hc5 e e2 => hc5 (by rw [← e, e2, h2])
  have hkk : ∀ k c, c ≠ 5 → c ≠ 1 → c ≠ 0 → col k = c → w'.heap[k]? = w.heap[k]? := fun k c q1 q2 q3 e => hh k (col_new hc q3 k e) (hne k c q1 e) (by rw [e]; exact q2)
  have hcol := fun c (hn : c ≠ 0) k (h : col k = c) => set_paint2 (w' := w') (c := 1) hc hn k h
  rw [he]
  refine PW.step (s' := { s with cnt := s.cnt + 1, fil := fun q => if q = p then (l, s.cnt + 1, true) else s.fil q }) (.inl rfl) hc h2 h8' ⟨o1, o2, o3⟩ hsz hh (hf.same (fun k hk9 => set_paint hc (by decide) k hk9) (fun _ _ => rfl)) (fun q => ?_) (h5.same (fun k hk9 => hcol 2 (by decide) k hk9) (fun k hk9 => hkk k 2 (by decide) (by decide) (by decide) hk9)) (h6.same (fun k hk9 => hcol 3 (by decide) k hk9) (fun k hk9 => hkk k 3 (by decide) (by decide) (by decide) hk9))
  unfold updT
  by_cases hq : q = p
  · simp only [if_pos hq]; rfl
  · simp only [if_neg hq]; exact h4 q
theorem PW.read (h : PW col w b s) (p : ByteArray) (hl : (s.fil p).1.length ≤ 1000000) :
    Calls Tryz.prog 34 #[.pointer (some ⟨b, 0, none⟩), .string p] w fun e w' => ∃ p1 c', e = .returned (.tuple #[.slice p1 (s.fil p).1.length c', .int .i64 (s.fil p).2.1, .bool (s.fil p).2.2]) ∧ RB w.heap.size w' (.slice p1 (s.fil p).1.length c') (s.fil p).1 ∧ Below w.heap.size w w' := by
  obtain ⟨mp, vs, vt, c5, c6, c7, T, Ms, Mt, h1, h2, h3, h4, h5, h6⟩ := h
  exact read_x h1 h3 p _ _ _ (h4 p) hl
theorem PW.send (h : PW col w b s) (hc : ColOk W0 col w) (ho : Okn s) (p : ByteArray) (lk : Bool) (a : Option Addr) (n c : Nat) (l : List UInt8) (hr : RB 0 w (.slice a n c) l) (hl : l.length ≤ 1000000) :
    Calls Tryz.prog 70 #[.pointer (some ⟨b, 0, none⟩), .agg #[.string p, .bool lk, .slice a n c]] w (PStep W0 col w b { s with sent := s.sent ++ [(p, lk, l)] } (.tuple #[])) := by
  obtain ⟨mp, vs, vt, c5, c6, c7, T, Ms, Mt, h1, h2, h3, h4, h5, h6⟩ := h
  refine (send_x h1 h5 (by rw [h2]; decide) ho.sent p lk a n c l hr hl).mono fun e w' ⟨he, v', M', h8', hs, hk⟩ => ?_
  have hh : ∀ k, k < w.heap.size → k ≠ b → col k ≠ 2 → w'.heap[k]? = w.heap[k]? := fun k q1 q2 q3 => hk.keep k ⟨q2, q3⟩ q1
  have hne : ∀ k c, c ≠ 5 → col k = c → k ≠ b := fun k c hc5 e e2 => hc5 (by rw [← e, e2, h2])
  have hkk : ∀ k c, c ≠ 5 → c ≠ 2 → c ≠ 0 → col k = c → w'.heap[k]? = w.heap[k]? := fun k c q1 q2 q3 e => hh k (col_new hc q3 k e) (hne k c q1 e) (by rw [e]; exact q2)
  have hcol := fun c (hn : c ≠ 0) k (h : col k = c) => set_paint2 (w' := w') (c := 2) hc hn k h
  rw [he]
  exact PW.step (s' := { s with sent := s.sent ++ [(p, lk, l)] }) (.inr (.inl rfl)) hc h2 h8' ⟨hk.os, hk.tape, hk.output⟩ hk.size hh (h3.same (fun k hk9 => hcol 1 (by decide) k hk9) (fun k hk9 => hkk k 1 (by decide) (by decide) (by decide) hk9)) h4 (hs.same (fun k hk9 => set_paint hc (by decide) k hk9) (fun _ _ => rfl)) (h6.same (fun k hk9 => hcol 3 (by decide) k hk9) (fun k hk9 => hkk k 3 (by decide) (by decide) (by decide) hk9))
theorem PW.strms {mp : Option Nat} {vs vt' c5 c6 c7 : Value} {T : ByteArray → Option FileT} {Ms : List (DgT × Value)} {Mt' : List (StmT × Value)} {L' : List StmT} (hc : ColOk W0 col w)
    (h2 : col b = 5) (h3 : FilesIn (fun k => col k = 1) w b mp T) (h4 : ∀ p, (T p).getD ([], 0, false) = s.fil p) (h5 : DgsIn (fun k => col k = 2) w vs s.sent Ms)
    (h8' : W8 w' b (.int .i64 s.now) s.cnt mp vs vt' c5 c6 c7) {Q : Nat → Prop} (hQ : ∀ k, Q k → col k = 3 ∨ (w.heap.size ≤ k ∧ k < w'.heap.size)) (hs : StmIn Q w' vt' L' Mt') (hk : KX (fun k => k ≠ b ∧ ¬ col k = 3) w w') {v : Value} :
    PStep W0 col w b { s with strm := L' } v (.returned v) w' := by
  have hh : ∀ k, k < w.heap.size → k ≠ b → col k ≠ 3 → w'.heap[k]? = w.heap[k]? := fun k q1 q2 q3 => hk.keep k ⟨q2, q3⟩ q1
  have hne : ∀ k c, c ≠ 5 → col k = c → k ≠ b := fun k c hc5 e e2 => hc5 (by rw [← e, e2, h2])
  have hkk : ∀ k c, c ≠ 5 → c ≠ 3 → c ≠ 0 → col k = c → w'.heap[k]? = w.heap[k]? := fun k c q1 q2 q3 e => hh k (col_new hc q3 k e) (hne k c q1 e) (by rw [e]; exact q2)
  have hcol := fun c (hn : c ≠ 0) k (h : col k = c) => set_paint2 (w' := w') (c := 3) hc hn k h
  exact PW.step (s' := { s with strm := L' }) (.inr (.inr (.inl rfl))) hc h2 h8' ⟨hk.os, hk.tape, hk.output⟩ hk.size hh (h3.same (fun k hk9 => hcol 1 (by decide) k hk9) (fun k hk9 => hkk k 1 (by decide) (by decide) (by decide) hk9)) h4 (h5.same (fun k hk9 => hcol 2 (by decide) k hk9) (fun k hk9 => hkk k 2 (by decide) (by decide) (by decide) hk9)) (hs.same (fun k hk9 => set_paint hc (by decide) k (hQ k hk9)) (fun _ _ => rfl))
theorem PW.closed (h : PW col w b s) (hc : ColOk W0 col w) (ho : Okn s) (k : Int) (hk : -9223372036854775808 ≤ k ∧ k ≤ 9223372036854775807) :
    Calls Tryz.prog 256 #[.pointer (some ⟨b, 0, none⟩), .int .i64 k] w (PStep W0 col w b { s with strm := closeL s.strm k } (.tuple #[])) := by
  obtain ⟨mp, vs, vt, c5, c6, c7, T, Ms, Mt, h1, h2, h3, h4, h5, h6⟩ := h
  refine (close_x h1 h6 (by rw [h2]; decide) ho.strm k hk).mono fun e w' ⟨he, M', h8', hs, hkx⟩ => ?_
  rw [he]
  exact PW.strms hc h2 h3 h4 h5 h8' (fun k hk => .inl hk) hs (hkx.sub (fun k _ hk => hk.2))
theorem DgsIn.none (S : Nat → Prop) (w : World) : DgsIn S w (.slice none 0 0) [] [] where
  map := rfl
  row := World.ownsRow_nil _ _ _ _
  own := fun q e => by cases e
  at_ := fun x hx => by cases hx
theorem StmIn.none (S : Nat → Prop) (w : World) : StmIn S w (.slice none 0 0) [] [] where
  map := rfl
  row := World.ownsRow_nil _ _ _ _
  own := fun q e => by cases e
  at_ := fun x hx => by cases hx
  apart := fun i j x y a n c a' n' c' _ hi => by simp at hi
end
end Go.Proofs.YtogdkmkganpaaaaGreatDoor

namespace Go.Wi
open Go.RowKit
/-- A slice of bytes that reads as l. -/
structure BA (w : World) (a : Option Addr) (n c : Nat) (l : List UInt8) : Prop where
  len : l.length = n
  cap : n ≤ c
  max : c ≤ 9223372036854775807
  none : a = none → c = 0
  cell : ∀ x, a = some x → ∀ j b, l[j]? = some b → w.cell? (x.add j) = some (.int .u8 (b.toNat : Int))
theorem add_block (x : Addr) (j : Nat) : (x.add j).block = x.block := by unfold Addr.add; split <;> rfl
/-- Of what was there, nothing has changed but block p. -/
structure Kp (p : Nat) (w w' : World) : Prop where
  os : w'.os = w.os
  tape : w'.tape = w.tape
  output : w'.output = w.output
  size : w.heap.size ≤ w'.heap.size
  block : ∀ k, k < w.heap.size → k ≠ p → w'.heap[k]? = w.heap[k]?
theorem Kp.refl (p : Nat) (w : World) : Kp p w w := ⟨rfl, rfl, rfl, Nat.le_refl _, fun _ _ _ => rfl⟩
theorem Kp.trans {p : Nat} {a b c : World} (h : Kp p a b) (k : Kp p b c) : Kp p a c :=
  ⟨k.os.trans h.os, k.tape.trans h.tape, k.output.trans h.output, Nat.le_trans h.size k.size, fun i hi hp => (k.block i (Nat.lt_of_lt_of_le hi h.size) hp).trans (h.block i hi hp)⟩
theorem Kp.of {p : Nat} {w w' : World} (h : Below w.heap.size w w') : Kp p w w' := ⟨h.os, h.tape, h.output, h.size, fun k hk _ => h.block k hk⟩
theorem Kp.below {p B : Nat} {w w' : World} (h : Kp p w w') (hB : B ≤ p) (hs : B ≤ w.heap.size) : Below B w w' := ⟨h.os, h.tape, h.output, h.size, fun k hk => h.block k (by omega) (by omega)⟩
theorem Kp.cell {p : Nat} {w w' : World} (h : Kp p w w') {x : Addr} (hx : x.block < w.heap.size) (hp : x.block ≠ p) : w'.cell? x = w.cell? x := by
  unfold World.cell?
  rw [h.block x.block hx hp]
theorem Kp.set {p : Nat} {w : World} {k : Nat} {v : Value} : Kp p w (w.setCell ⟨p, k, none⟩ v) :=
  ⟨rfl, rfl, rfl, by simp, fun i _ hp => by
    have := (Below.refl (i + 1) w)
    show (w.heap.modify p _)[i]? = _
    rw [Array.getElem?_modify, if_neg (fun e => hp e.symm)]⟩
theorem BA.kp {p : Nat} {w w' : World} {a : Option Addr} {n c : Nat} {l : List UInt8} (h : BA w a n c l) (hk : Kp p w w') (hlt : ∀ x, a = some x → x.block < w.heap.size ∧ x.block ≠ p) : BA w' a n c l :=
  ⟨h.len, h.cap, h.max, h.none, fun x hx j b hj => by
    rw [hk.cell (by rw [add_block]; exact (hlt x hx).1) (by rw [add_block]; exact (hlt x hx).2)]; exact h.cell x hx j b hj⟩
/-- A reader at block p: its bytes, its place, whether it is bad. -/
structure RD (w : World) (p : Nat) (a : Option Addr) (n c : Nat) (l : List UInt8) (at_ : Int) (bad : Bool) : Prop where
  lt : p < w.heap.size
  c0 : w.cell? ⟨p, 0, none⟩ = some (.slice a n c)
  c1 : w.cell? ⟨p, 1, none⟩ = some (.int .i64 at_)
  c2 : w.cell? ⟨p, 2, none⟩ = some (.bool bad)
  f1 : w.frozen? ⟨p, 1, none⟩ = false
  f2 : w.frozen? ⟨p, 2, none⟩ = false
  ba : BA w a n c l
  apart : ∀ x, a = some x → x.block < w.heap.size ∧ x.block ≠ p
theorem RD.below {w w' : World} {p : Nat} {a : Option Addr} {n c : Nat} {l : List UInt8} {at_ : Int} {bad : Bool} (h : RD w p a n c l at_ bad) (hb : Below w.heap.size w w') : RD w' p a n c l at_ bad :=
  ⟨Nat.lt_of_lt_of_le h.lt hb.size, by rw [hb.cell (p := ⟨p, 0, none⟩) h.lt]; exact h.c0, by rw [hb.cell (p := ⟨p, 1, none⟩) h.lt]; exact h.c1, by rw [hb.cell (p := ⟨p, 2, none⟩) h.lt]; exact h.c2,
    by rw [World.frozen?_of_block (w := w) (hb.block p h.lt)]; exact h.f1, by rw [World.frozen?_of_block (w := w) (hb.block p h.lt)]; exact h.f2,
    h.ba.kp (Kp.of hb) h.apart, fun x hx => ⟨Nat.lt_of_lt_of_le (h.apart x hx).1 hb.size, (h.apart x hx).2⟩⟩
theorem ne01 (p i j : Nat) (h : i ≠ j) : (⟨p, i, none⟩ : Addr) ≠ ⟨p, j, none⟩ := fun e => by cases e; exact h rfl
theorem RD.setAt {w : World} {p : Nat} {a : Option Addr} {n c : Nat} {l : List UInt8} {at_ : Int} {bad : Bool} (h : RD w p a n c l at_ bad) (i : Int) : RD (w.setCell ⟨p, 1, none⟩ (.int .i64 i)) p a n c l i bad :=
  ⟨by simpa using h.lt, by rw [World.cell?_setCell_other w _ _ _ (ne01 p 1 0 (by decide))]; exact h.c0, World.cell?_setCell_same w _ _ h.c1, by rw [World.cell?_setCell_other w _ _ _ (ne01 p 1 2 (by decide))]; exact h.c2,
    by simpa using h.f1, by simpa using h.f2, h.ba.kp Kp.set h.apart, fun x hx => by simpa using h.apart x hx⟩
theorem RD.drawn {w : World} {p : Nat} {a : Option Addr} {n c : Nat} {l : List UInt8} {at_ : Int} {bad : Bool} (h : RD w p a n c l at_ bad) (k : Nat) : RD (w.drewN k) p a n c l at_ bad :=
  ⟨h.lt, h.c0, h.c1, h.c2, h.f1, h.f2, ⟨h.ba.len, h.ba.cap, h.ba.max, h.ba.none, h.ba.cell⟩, h.apart⟩
theorem Kp.drawn (p : Nat) (w : World) (k : Nat) : Kp p w (w.drewN k) := ⟨rfl, rfl, rfl, Nat.le_refl _, fun _ _ _ => rfl⟩
/-- The bytes that are taken. -/
def tk (l : List UInt8) (i s : Nat) : List UInt8 := (l.drop i).take s
theorem BA.part {w : World} {a : Option Addr} {n c : Nat} {l : List UInt8} (h : BA w a n c l) (i s : Nat) (his : i + s ≤ n) : BA w (if c = i then a else a.map (·.add i)) s (c - i) (tk l i s) := by
  have hc := h.cap
  have hm := h.max
  refine ⟨by unfold tk; rw [List.length_take, List.length_drop, h.len]; omega, by omega, by omega, fun hn => ?_, fun x hx j b hj => ?_⟩
  · split at hn
    · have := h.none hn; omega
    · cases a with
      | none => have := h.none rfl; omega
      | some x => cases hn
  · unfold tk at hj
    have hjs : j < s := by
      have := (List.getElem?_eq_some_iff.1 hj).1
      rw [List.length_take] at this
      omega
    rw [List.getElem?_take_of_lt hjs, List.getElem?_drop] at hj
    split at hx
    · rename_i e
      have := (List.getElem?_eq_some_iff.1 hj).1
      rw [h.len] at this
      omega
    · cases a with
      | none => cases hx
      | some y =>
        cases hx
        have := h.cell y rfl (i + j) b hj
        have ha : (y.add i).add j = y.add (i + j) := Addr.add_add y i j
        rw [ha]
        exact this
end Go.Wi
namespace Go.Proofs.YtogdkmkganpaaaaGreatDoor
open Go.RowKit Go.Lib Go.Wi
end Go.Proofs.YtogdkmkganpaaaaGreatDoor

namespace Go.Wi
def numV (l : List UInt8) : Nat := l.foldl (fun n c => n * 256 + c.toNat) 0
end Go.Wi
namespace Go.Proofs.YtogdkmkganpaaaaGreatDoor
open Go.RowKit Go.Lib Go.Wi
end Go.Proofs.YtogdkmkganpaaaaGreatDoor

namespace Go.Tx
/-- The pieces between the bytes c; 'cur': what stands ahead. -/
def splitG (c : UInt8) : List UInt8 → List UInt8 → List (List UInt8)
  | cur, [] => [cur]
  | cur, d :: l => if d = c then cur :: splitG c [] l else splitG c (cur ++ [d]) l
def splitL (c : UInt8) (l : List UInt8) : List (List UInt8) := splitG c [] l
theorem splitG_len (c : UInt8) : ∀ (l cur : List UInt8), 1 ≤ (splitG c cur l).length ∧ (splitG c cur l).length ≤ l.length + 1
  | [], cur => by simp [splitG]
  | d :: l, cur => by
    unfold splitG
    split
    · have := splitG_len c l []
      simp; omega
    · have := splitG_len c l (cur ++ [d])
      simp; omega
theorem stake_succ (l : List UInt8) (k : Nat) (b : UInt8) (h : l[k]? = some b) : l.take (k + 1) = l.take k ++ [b] := by
  have hk := (List.getElem?_eq_some_iff.1 h).1
  rw [List.take_succ_eq_append_getElem hk]
  rw [List.getElem?_eq_getElem hk] at h
  cases h
  rfl
theorem sdrop_cons (l : List UInt8) (k : Nat) (b : UInt8) (h : l[k]? = some b) : l.drop k = b :: l.drop (k + 1) := by
  have hk := (List.getElem?_eq_some_iff.1 h).1
  rw [List.drop_eq_getElem_cons hk]
  rw [List.getElem?_eq_getElem hk] at h
  cases h
  rfl
theorem splitG_step {l : List UInt8} {k F : Nat} {b c : UInt8} (h : l[k]? = some b) (hF : F ≤ k) (hb : ¬ b = c) : splitG c ((l.take k).drop F) (l.drop k) = splitG c ((l.take (k + 1)).drop F) (l.drop (k + 1)) := by
  have hk := (List.getElem?_eq_some_iff.1 h).1
  rw [sdrop_cons l k b h, splitG, if_neg hb, stake_succ l k b h, List.drop_append_of_le_length (by rw [List.length_take]; omega)]
theorem splitG_cut {l : List UInt8} {k F : Nat} {b c : UInt8} (h : l[k]? = some b) (hb : b = c) : splitG c ((l.take k).drop F) (l.drop k) = (l.take k).drop F :: splitG c ((l.take (k + 1)).drop (k + 1)) (l.drop (k + 1)) := by
  have e2 : (l.take (k + 1)).drop (k + 1) = [] := List.drop_of_length_le (by rw [List.length_take]; omega)
  rw [sdrop_cons l k b h, splitG, if_pos hb, e2]
theorem splitG_last {l : List UInt8} {n F : Nat} {c : UInt8} (h : l.length = n) : splitG c ((l.take n).drop F) (l.drop n) = [(l.take n).drop F] := by
  have e : l.drop n = [] := List.drop_of_length_le (by omega)
  rw [e]
  rfl
/-- A hexadecimal digit; -1: none. -/
def hexV (c : UInt8) : Int :=
  if 48 ≤ (c.toNat : Int) ∧ (c.toNat : Int) ≤ 57 then (c.toNat : Int) - 48
  else if 97 ≤ (c.toNat : Int) ∧ (c.toNat : Int) ≤ 102 then (c.toNat : Int) - 87
  else if 65 ≤ (c.toNat : Int) ∧ (c.toNat : Int) ≤ 70 then (c.toNat : Int) - 55
  else -1
theorem hexV_bd (c : UInt8) : -1 ≤ hexV c ∧ hexV c ≤ 15 := by
  unfold hexV
  split
  · omega
  · split
    · omega
    · split <;> omega
end Go.Tx
namespace Go.Tx
theorem splitG_mem (c : UInt8) : ∀ (l cur x : List UInt8), x ∈ splitG c cur l → x.length ≤ cur.length + l.length
  | [], cur, x, h => by simp [splitG] at h; subst h; simp
  | d :: l, cur, x, h => by
    unfold splitG at h
    split at h
    · rcases List.mem_cons.1 h with h | h
      · subst h; simp
      · have := splitG_mem c l [] x h
        simp at this ⊢; omega
    · have := splitG_mem c l (cur ++ [d]) x h
      simp at this ⊢; omega
end Go.Tx

namespace Go.Tx
def dig (c : UInt8) : Bool := decide (48 ≤ (c.toNat : Int)) && decide ((c.toNat : Int) ≤ 57)
def valF (n : Nat) (l : List UInt8) : Nat := l.foldl (fun n c => 10 * n + (c.toNat - 48)) n
/-- The number that digits write. -/
def val (l : List UInt8) : Nat := valF 0 l
theorem val_snoc (l : List UInt8) (c : UInt8) : val (l ++ [c]) = 10 * val l + (c.toNat - 48) := by simp [val, valF]
theorem valF_lt : ∀ (l : List UInt8) (n : Nat), (∀ c ∈ l, dig c = true) → valF n l < (n + 1) * 10 ^ l.length := by
  intro l
  induction l with
  | nil => intro n _; simp [valF]
  | cons c l ih =>
    intro n h
    have h1 := ih (10 * n + (c.toNat - 48)) fun d hd => h d (by simp [hd])
    have h2 := h c (by simp)
    simp only [dig, Bool.and_eq_true, decide_eq_true_eq] at h2
    have h3 : valF n (c :: l) = valF (10 * n + (c.toNat - 48)) l := rfl
    rw [h3, List.length_cons, Nat.pow_succ]
    refine Nat.lt_of_lt_of_le h1 ?_
    rw [Nat.mul_comm (10 ^ l.length) 10, ← Nat.mul_assoc]
    exact Nat.mul_le_mul_right _ (by omega)
theorem val_lt (l : List UInt8) (h : ∀ c ∈ l, dig c = true) : val l < 10 ^ l.length := by
  have := valF_lt l 0 h
  simpa [val] using this
theorem val_lt9 (l : List UInt8) (h : ∀ c ∈ l, dig c = true) (hl : l.length ≤ 9) : val l < 1000000000 := by
  have h1 := val_lt l h
  have h2 : 10 ^ l.length ≤ 10 ^ 9 := Nat.pow_le_pow_right (by omega) hl
  omega
theorem take_snoc (s : ByteArray) (k : Nat) (h : k < s.size) : s.data.toList.take (k + 1) = s.data.toList.take k ++ [s[k]] := by
  rw [List.take_succ_eq_append_getElem (by simpa using h)]; rfl
theorem val_step (s : ByteArray) (k : Nat) (h : k < s.size) (hd : dig s[k] = true) : ((val (s.data.toList.take (k + 1)) : Nat) : Int) = (val (s.data.toList.take k) : Int) * 10 + ((s[k].toNat : Int) - 48) := by
  rw [take_snoc s k h, val_snoc]
  simp only [dig, Bool.and_eq_true, decide_eq_true_eq] at hd
  omega
theorem all_step (s : ByteArray) (k : Nat) (h : k < s.size) : (s.data.toList.take (k + 1)).all dig = ((s.data.toList.take k).all dig && dig s[k]) := by
  rw [take_snoc s k h, List.all_append]; simp
theorem all_no (s : ByteArray) (k : Nat) (h : k < s.size) (hd : dig s[k] = false) : s.data.toList.all dig = false := by
  cases hh : s.data.toList.all dig with
  | false => rfl
  | true =>
    rw [List.all_eq_true] at hh
    have := hh s[k] (Array.mem_toList_iff.2 (Array.getElem_mem (xs := s.data) h))
    rw [hd] at this; cases this
theorem take_all (s : ByteArray) (k : Nat) (h : s.size ≤ k) : s.data.toList.take k = s.data.toList := List.take_of_length_le (by simpa using h)
theorem val_bd (s : ByteArray) (k : Nat) (h : (s.data.toList.take k).all dig = true) (h9 : s.size ≤ 9) : val (s.data.toList.take k) < 1000000000 := by
  refine val_lt9 _ (by rw [List.all_eq_true] at h; exact h) ?_
  rw [List.length_take]
  have : s.data.toList.length = s.size := rfl
  omega
theorem dig_of (c : UInt8) (h1 : 48 ≤ (c.toNat : Int)) (h2 : (c.toNat : Int) ≤ 57) : dig c = true := by simp [dig, h1, h2]
theorem dig_lo (c : UInt8) (h1 : (c.toNat : Int) < 48) : dig c = false := by
  have : ¬ (48 ≤ (c.toNat : Int)) := by omega
  simp [dig, this]
theorem dig_hi (c : UInt8) (h1 : 57 < (c.toNat : Int)) : dig c = false := by
  have : ¬ ((c.toNat : Int) ≤ 57) := by omega
  simp [dig, this]
/-- What Num answers. -/
def numBad (l : List UInt8) : Bool := l.isEmpty || decide (9 < l.length) || (l.head? == some 48 && decide (1 < l.length)) || !l.all dig
def numRes (l : List UInt8) (most : Int) : Int × Bool := if numBad l = true then (0, false) else if most < (val l : Int) then (0, false) else (val l, true)
theorem numRes_nil (l : List UInt8) (m : Int) (h : l = []) : numRes l m = (0, false) := by subst h; rfl
theorem numRes_len (l : List UInt8) (m : Int) (h : 9 < l.length) : numRes l m = (0, false) := by simp [numRes, numBad, h]
theorem numRes_zero (l : List UInt8) (m : Int) (h : 1 < l.length) (h2 : l.head? = some 48) : numRes l m = (0, false) := by simp [numRes, numBad, h, h2]
theorem numRes_no (l : List UInt8) (m : Int) (h : l.all dig = false) : numRes l m = (0, false) := by simp [numRes, numBad, h]
theorem numRes_ok (l : List UInt8) (m : Int) (h0 : 1 ≤ l.length) (h1 : l.length ≤ 9) (h2 : ¬ (l.head? = some 48 ∧ 1 < l.length)) (h3 : l.all dig = true) : numRes l m = if m < (val l : Int) then (0, false) else ((val l : Int), true) := by
  have : numBad l = false := by
    cases l with
    | nil => simp at h0
    | cons c l => simp [numBad, h3]; simp at h1 h2; exact ⟨h1, h2⟩
  simp [numRes, this]
/-! ### Folding -/
def low (c : UInt8) : UInt8 := if 65 ≤ (c.toNat : Int) ∧ (c.toNat : Int) ≤ 90 then UInt8.ofNat (c.toNat + 32) else c
def lowTake (k : Nat) (l : List UInt8) : List UInt8 := (l.take k).map low ++ l.drop k
theorem lowTake_zero (l : List UInt8) : lowTake 0 l = l := by simp [lowTake]
theorem lowTake_len (k : Nat) (l : List UInt8) : (lowTake k l).length = l.length := by simp [lowTake]; omega
theorem lowTake_all (k : Nat) (l : List UInt8) (h : l.length ≤ k) : lowTake k l = l.map low := by
  simp [lowTake, List.take_of_length_le h, List.drop_of_length_le h]
theorem lowTake_at (k : Nat) (l : List UInt8) (h : k < l.length) : (lowTake k l)[k]? = some l[k] := by
  unfold lowTake
  rw [List.getElem?_append_right (by simp; omega)]
  have : k - (List.map low (List.take k l)).length = 0 := by simp; omega
  rw [this, List.getElem?_drop]
  simp
theorem lowTake_step (k : Nat) (l : List UInt8) (h : k < l.length) : lowTake (k + 1) l = (lowTake k l).set k (low l[k]) := by
  apply List.ext_getElem?
  intro j
  rw [List.getElem?_set]
  have hlen : (lowTake k l).length = l.length := lowTake_len k l
  unfold lowTake
  rw [List.getElem?_append, List.getElem?_append]
  simp only [List.length_map, List.length_take, List.getElem?_map, List.getElem?_take, List.getElem?_drop, List.length_append, List.length_drop]
  by_cases hj : k = j
  · subst hj
    rw [if_pos (by omega), if_pos (by omega), if_pos rfl, if_pos (by omega)]
    simp [h]
  · rw [if_neg hj]
    by_cases hlt : j < k
    · rw [if_pos (by omega), if_pos (by omega), if_pos (by omega), if_pos (by omega)]
    · rw [if_neg (by omega), if_neg (by omega)]
      congr 1
      omega
theorem lowTake_skip (k : Nat) (l : List UInt8) (h : k < l.length) (hl : low l[k] = l[k]) : lowTake (k + 1) l = lowTake k l := by
  rw [lowTake_step k l h, hl]
  apply List.ext_getElem?
  intro j
  rw [List.getElem?_set]
  split
  · rename_i e
    subst e
    rw [lowTake_at k l h, lowTake_len, if_pos h]
  · rfl
theorem low_up (c : UInt8) (h1 : 65 ≤ (c.toNat : Int)) (h2 : (c.toNat : Int) ≤ 90) : ((low c).toNat : Int) = (c.toNat : Int) + 32 := by
  unfold low
  rw [if_pos ⟨h1, h2⟩]
  have : (c.toNat + 32) % 256 = c.toNat + 32 := by omega
  simp [this]
theorem low_lo (c : UInt8) (h1 : (c.toNat : Int) < 65) : low c = c := by unfold low; rw [if_neg (by omega)]
theorem low_hi (c : UInt8) (h1 : 90 < (c.toNat : Int)) : low c = c := by unfold low; rw [if_neg (by omega)]
end Go.Tx

namespace Go.Tx
open Go.Lib
/-! ### The library's pieces are the document's -/
def pre (x : List UInt8) : List (List UInt8) → List (List UInt8)
  | [] => []
  | h :: t => (x ++ h) :: t
theorem splitG_pre (c : UInt8) (x : List UInt8) : ∀ (l y : List UInt8), splitG c (x ++ y) l = pre x (splitG c y l)
  | [], y => by simp [splitG, pre]
  | d :: l, y => by
    unfold splitG
    split
    · rfl
    · rw [List.append_assoc, splitG_pre c x l (y ++ [d])]
theorem splitK_pre {b c : UInt8} (h : b ≠ c) (k : Nat) (l : List UInt8) : splitK [c] 0 k (b :: l) = pre [b] (splitK [c] 0 k l) := by
  cases k with
  | zero => rfl
  | succ k =>
    have hp : ([c] : List UInt8).isPrefixOf (b :: l) = false := by simp [List.isPrefixOf, Ne.symm h]
    have hix : index (b :: l) [c] = if index l [c] == -1 then -1 else index l [c] + 1 := by rw [index, hp]; simp
    unfold splitK
    by_cases hm : index l [c] = -1
    · rw [hix, hm]; simp [pre]
    · have hge := index_ge l [c]
      obtain ⟨j, hj⟩ : ∃ j : Nat, index l [c] = j := ⟨(index l [c]).toNat, by omega⟩
      have h1 : ((j : Int) == -1) = false := by rw [beq_eq_false_iff_ne]; omega
      have h2 : ((j : Int) + 1 == -1) = false := by rw [beq_eq_false_iff_ne]; omega
      have h3 : ((j : Int) + 1).toNat = j + 1 := by omega
      rw [hix, hj]
      simp [h1, h2, h3, pre]
theorem splitK_one (c : UInt8) : ∀ l : List UInt8, splitK [c] 0 (count l [c]) l = splitL c l
  | [] => by
    have : count ([] : List UInt8) [c] = 0 := by rw [count_one]; rfl
    rw [this]; rfl
  | b :: l => by
    by_cases h : b = c
    · subst h
      have hix : index (b :: l) [b] = 0 := by rw [index]; simp [List.isPrefixOf]
      rw [count_cons_eq, Nat.add_comm, splitK, hix, splitL, splitG, if_pos rfl]
      simp only [List.take_zero, List.length_singleton]
      have := splitK_one b l
      simpa [splitL] using this
    · rw [count_cons_ne b c l h, splitK_pre h, splitK_one c l, splitL, splitL, splitG, if_neg h]
      exact (splitG_pre c [b] l []).symm
theorem split_pieces (s : ByteArray) (c : UInt8) : (splitB ⟨#[c]⟩ 0 (countB s ⟨#[c]⟩) s).map Value.string = (splitL c s.data.toList).map fun l => Value.string ⟨l.toArray⟩ := by
  have h := splitB_data ⟨#[c]⟩ 0 (countB s ⟨#[c]⟩) s
  have h2 : countB s ⟨#[c]⟩ = count s.data.toList [c] := rfl
  rw [h2] at h ⊢
  have h3 := splitK_one c s.data.toList
  have h4 : (ByteArray.data ⟨#[c]⟩).toList = [c] := rfl
  rw [h4, h3] at h
  rw [← h, List.map_map]
  rfl
theorem split_count (s : ByteArray) (c : UInt8) : countB s ⟨#[c]⟩ + 1 = (splitL c s.data.toList).length := by
  have h := splitB_all ⟨#[c]⟩ (Nat.le_refl 1) 0 _ s rfl
  have h2 := congrArg List.length (split_pieces s c)
  simp only [List.length_map] at h2
  omega
/-! ### A rune that is foreign is a byte that is -/
theorem idxFrom_any (p : Nat → Bool) (hp : ∀ x, 128 ≤ x → p x = true) (s : ByteArray) : ∀ (f pos : Nat), s.size - pos ≤ f →
    decide (0 ≤ idxFuncFrom p true s f pos) = (s.data.toList.drop pos).any fun b => p b.toNat
  | 0, pos, h => by
    have e : s.data.toList.drop pos = [] := List.drop_of_length_le (by rw [← size_eq]; omega)
    simp [idxFuncFrom, e]
  | f + 1, pos, h => by
    unfold idxFuncFrom
    by_cases hlt : pos < s.size
    · rw [if_pos hlt]
      have hd : s.data.toList.drop pos = s[pos] :: s.data.toList.drop (pos + 1) := List.drop_eq_getElem_cons (by rw [← size_eq]; exact hlt)
      rw [hd, List.any_cons]
      by_cases ha : s[pos].toNat < 128
      · rw [decode_ascii s pos hlt ha]
        simp only
        by_cases hb : p s[pos].toNat = true
        · rw [if_pos hb, hb]; simp
        · have hb' : p s[pos].toNat = false := by simpa using hb
          rw [if_neg hb, hb', Bool.false_or]
          exact idxFrom_any p hp s f (pos + 1) (by omega)
      · obtain ⟨h1, h2⟩ := decode_high s pos hlt (by omega)
        rw [if_pos (hp _ h1), hp _ (by omega)]
        simp
    · have e : s.data.toList.drop pos = [] := List.drop_of_length_le (by rw [← size_eq]; omega)
      rw [if_neg hlt, e]; simp
theorem idx_anyR (p : Nat → Bool) (hp : ∀ x, 128 ≤ x → p x = true) (s : ByteArray) : decide (0 ≤ idxFunc p true s) = s.data.toList.any fun b => p b.toNat := by
  exact idxFrom_any p hp s s.size 0 (by omega)
/-! ### Names -/
/-- What labels are made of, by number. -/
def sign (x : Nat) : Bool := (decide (97 ≤ x) && decide (x ≤ 122)) || (decide (65 ≤ x) && decide (x ≤ 90)) || (decide (48 ≤ x) && decide (x ≤ 57)) || decide (x = 45) || decide (x = 95)
theorem sign_high (x : Nat) (h : 128 ≤ x) : sign x = false := by
  simp only [sign, Bool.or_eq_false_iff, Bool.and_eq_false_iff, decide_eq_false_iff_not]
  omega
def labelB (l : List UInt8) : Bool := decide (l ≠ []) && decide (l.length ≤ 63) && l.all fun b => sign b.toNat
def nameB (l : List UInt8) : Bool := decide (l.length ≤ 253) && (splitL 46 l).all labelB
/-- Without a point at its end. -/
def bare (l : List UInt8) : List UInt8 := trimSuffix l [46]
def isRoot (l : List UInt8) : Bool := hasSuffix l [46]
def cleanV (l : List UInt8) : Value := if nameB (bare l) = true then .tuple #[.string ⟨((bare l).map low).toArray⟩, .bool (isRoot l), .bool true] else .tuple #[.string ⟨#[]⟩, .bool false, .bool false]
theorem bare_len (l : List UInt8) : (bare l).length ≤ l.length := by
  unfold bare trimSuffix
  split
  · simp
  · exact Nat.le_refl _
theorem noLabel (l : List UInt8) : (decide (l = []) || (decide (63 < l.length) || l.any fun b => !sign b.toNat)) = !labelB l := by
  have h1 : (decide (63 < l.length)) = !decide (l.length ≤ 63) := by by_cases h : l.length ≤ 63 <;> simp [h] <;> omega
  have h2 : (l.any fun b => !sign b.toNat) = !(l.all fun b => sign b.toNat) := by simp [List.any_eq_not_all_not]
  rw [h1, h2]
  unfold labelB
  by_cases h : l = [] <;> simp [h]
end Go.Tx

namespace Go.Proofs.YtogdkmkganpaaaaGreatDoor
open Go.RowKit Go.Lib Go.Tx
theorem foreign_any (x : Nat) (hx : x ≤ 1114111) (w : World) : Calls Tryz.prog 184 #[.int .i32 (x : Int)] w fun e w' => e = .returned (.bool (!sign x)) ∧ w' = w := by
  have hc : x < 45 ∨ x = 45 ∨ (46 ≤ x ∧ x ≤ 47) ∨ (48 ≤ x ∧ x ≤ 57) ∨ (58 ≤ x ∧ x ≤ 64) ∨ (65 ≤ x ∧ x ≤ 90) ∨ (91 ≤ x ∧ x ≤ 94) ∨ x = 95 ∨ x = 96 ∨ (97 ≤ x ∧ x ≤ 122) ∨ 122 < x := by omega
  have key : ∀ b, sign x = b → Calls Tryz.prog 184 #[.int .i32 (x : Int)] w (fun e w' => e = .returned (.bool (!b)) ∧ w' = w) → Calls Tryz.prog 184 #[.int .i32 (x : Int)] w fun e w' => e = .returned (.bool (!sign x)) ∧ w' = w := fun b h k => by rw [h]; exact k
  have hs : sign x = decide ((97 ≤ x ∧ x ≤ 122) ∨ (65 ≤ x ∧ x ≤ 90) ∨ (48 ≤ x ∧ x ≤ 57) ∨ x = 45 ∨ x = 95) := by
    simp only [sign]
    by_cases h1 : 97 ≤ x <;> by_cases h2 : x ≤ 122 <;> by_cases h3 : 65 ≤ x <;> by_cases h4 : x ≤ 90 <;> by_cases h5 : 48 ≤ x <;> by_cases h6 : x ≤ 57 <;> by_cases h7 : x = 45 <;> by_cases h8 : x = 95 <;> simp [*]
  rcases hc with h | h | ⟨h, h'⟩ | ⟨h, h'⟩ | ⟨h, h'⟩ | ⟨h, h'⟩ | ⟨h, h'⟩ | h | h | ⟨h, h'⟩ | h
  · refine key false (by rw [hs]; exact decide_eq_false (by omega)) ?_
    clear hs key hx
    have : (x : Int) < 45 := by omega
    go_enter Tryz.func184, Tryz.ntmps184
    go_wp2
    all_goals (go_ret; exact ⟨rfl, rfl⟩)
  · subst h
    refine key true (by decide) ?_
    clear hs key hx
    go_enter Tryz.func184, Tryz.ntmps184
    go_wp2
    all_goals (go_ret; exact ⟨rfl, rfl⟩)
  · refine key false (by rw [hs]; exact decide_eq_false (by omega)) ?_
    clear hs key hx
    have a1 : (46:Int) ≤ (x : Int) := by omega
    have a2 : (x : Int) ≤ 47 := by omega
    go_enter Tryz.func184, Tryz.ntmps184
    go_wp2
    all_goals (go_ret; exact ⟨rfl, rfl⟩)
  · refine key true (by rw [hs]; exact decide_eq_true (by omega)) ?_
    clear hs key hx
    have a1 : (48:Int) ≤ (x : Int) := by omega
    have a2 : (x : Int) ≤ 57 := by omega
    go_enter Tryz.func184, Tryz.ntmps184
    go_wp2
    all_goals (go_ret; exact ⟨rfl, rfl⟩)
  · refine key false (by rw [hs]; exact decide_eq_false (by omega)) ?_
    clear hs key hx
    have a1 : (58:Int) ≤ (x : Int) := by omega
    have a2 : (x : Int) ≤ 64 := by omega
    go_enter Tryz.func184, Tryz.ntmps184
    go_wp2
    all_goals (go_ret; exact ⟨rfl, rfl⟩)
  · refine key true (by rw [hs]; exact decide_eq_true (by omega)) ?_
    clear hs key hx
    have a1 : (65:Int) ≤ (x : Int) := by omega
    have a2 : (x : Int) ≤ 90 := by omega
    go_enter Tryz.func184, Tryz.ntmps184
    go_wp2
    all_goals (go_ret; exact ⟨rfl, rfl⟩)
  · refine key false (by rw [hs]; exact decide_eq_false (by omega)) ?_
    clear hs key hx
    have a1 : (91:Int) ≤ (x : Int) := by omega
    have a2 : (x : Int) ≤ 94 := by omega
    go_enter Tryz.func184, Tryz.ntmps184
    go_wp2
    all_goals (go_ret; exact ⟨rfl, rfl⟩)
  · subst h
    refine key true (by decide) ?_
    clear hs key hx
    go_enter Tryz.func184, Tryz.ntmps184
    go_wp2
    all_goals (go_ret; exact ⟨rfl, rfl⟩)
  · subst h
    refine key false (by decide) ?_
    clear hs key hx
    go_enter Tryz.func184, Tryz.ntmps184
    go_wp2
    all_goals (go_ret; exact ⟨rfl, rfl⟩)
  · refine key true (by rw [hs]; exact decide_eq_true (by omega)) ?_
    clear hs key hx
    have a1 : (97:Int) ≤ (x : Int) := by omega
    have a2 : (x : Int) ≤ 122 := by omega
    go_enter Tryz.func184, Tryz.ntmps184
    go_wp2
    all_goals (go_ret; exact ⟨rfl, rfl⟩)
  · refine key false (by rw [hs]; exact decide_eq_false (by omega)) ?_
    clear hs key hx
    have a1 : (122:Int) < (x : Int) := by omega
    go_enter Tryz.func184, Tryz.ntmps184
    go_wp2
    all_goals (go_ret; exact ⟨rfl, rfl⟩)
theorem foreignAt (w : World) : PredAtRunes Tryz.prog 184 #[] (fun x => !sign x) w := fun W x hx _ =>
  (foreign_any x hx W).mono fun _ _ ⟨h1, h2⟩ => ⟨h1, 0, h2⟩
set_option maxRecDepth 100000 in
theorem hasForeign (s : ByteArray) (w : World) : Calls Tryz.prog 183 #[.string s, .func (.func 184) #[] #[]] w fun e w' => e = .returned (.bool (s.data.toList.any fun b => !sign b.toNat)) ∧ Below w.heap.size w w' := by
  refine (Tryz.strings_ContainsFunc_runes 184 #[] (fun args w => by rfl) (fun x => !sign x) s w (foreignAt w)).mono fun e w' ⟨h1, h2⟩ => ⟨?_, h2⟩
  rw [h1, idx_anyR (fun x => !sign x) (fun x hx => by simp [sign_high x hx])]
theorem noLabel_any (s : ByteArray) (w : World) : Calls Tryz.prog 157 #[.string s] w fun e w' => e = .returned (.bool (!labelB s.data.toList)) ∧ Below w.heap.size w w' := by
  have HF := Lib.hid (fun w => hasForeign s w)
  have HN := Lib.hid (noLabel s.data.toList)
  have hl : s.data.toList.length = s.size := rfl
  by_cases h0 : s = ⟨#[]⟩
  · subst h0
    go_enter Tryz.func157, Tryz.ntmps157
    go_wp2
    all_goals (go_ret; exact ⟨rfl, Below.refl _ _⟩)
  · have h0' : s.data.toList ≠ [] := fun h => h0 (by cases s; simp at h; simp [h])
    by_cases h1 : 63 < s.size
    · have h1' : (63 : Int) < (s.size : Int) := by omega
      have hb : labelB s.data.toList = false := by unfold labelB; simp [hl]; omega
      rw [hb]
      clear HN HF
      go_enter Tryz.func157, Tryz.ntmps157
      go_wp2
      all_goals (go_ret; exact ⟨rfl, Below.refl _ _⟩)
    · have h1' : (s.size : Int) ≤ 63 := by omega
      have hb : (!labelB s.data.toList) = s.data.toList.any fun b => !sign b.toNat := by
        rw [← HN.out]
        simp [h0', hl, h1]
      rw [hb]
      clear HN hb
      have e2 : s.toList.isEmpty = false := by
        rw [Go.Lib.toList_data]
        cases hh : s.data.toList with
        | nil => exact absurd hh h0'
        | cons x y => rfl
      have e3 : decide (63 < (s.size : Int)) = false := decide_eq_false (by omega)
      clear h0 h0' h1 hl
      have HF' : ∀ w, Calls Tryz.prog 183 #[.string s, .func (.func 184) #[] #[]] w fun e w' => e = .returned (.bool (s.data.toList.any fun b => !sign b.toNat)) ∧ Below w.heap.size w w' := HF.out
      clear HF
      generalize (s.data.toList.any fun b => !sign b.toNat) = X at HF' ⊢
      have HF := Lib.hid HF'
      clear HF'
      go_enter Tryz.func157, Tryz.ntmps157
      go_wp2_with (go_at_call 183; refine (HF.out _).mono ?_; rintro e w2 ⟨rfl, hb⟩)
      all_goals (go_ret; exact ⟨by simp only [e3, Bool.false_or]; rfl, hb⟩)
end Go.Proofs.YtogdkmkganpaaaaGreatDoor

namespace Go.Proofs.YtogdkmkganpaaaaGreatDoor
open Go.RowKit Go.Lib Go.Tx Go.Rb
theorem lowTake_at' (s : ByteArray) (k : Nat) (h : k < s.size) : (lowTake k s.data.toList)[k]? = some s[k] := lowTake_at k s.data.toList h
theorem row_up (s : ByteArray) {wr : World} {b cap k : Nat} {x : Int} (h : k < s.size) (h1 : 65 ≤ (s[k].toNat : Int)) (h2 : (s[k].toNat : Int) ≤ 90) (hx : x = (s[k].toNat : Int) + 32) (hr : RowB 5 wr b cap (lowTake k s.data.toList)) :
    RowB 5 (wr.setCell ⟨b, k, none⟩ (.int .u8 x)) b cap (lowTake (k + 1) s.data.toList) := by
  have e1 : lowTake (k + 1) s.data.toList = (lowTake k s.data.toList).set k (low s[k]) := lowTake_step k s.data.toList h
  rw [e1, hx, ← low_up _ h1 h2]
  exact hr.set (by rw [lowTake_len]; exact h) _
theorem row_skip (s : ByteArray) {wr : World} {b cap k : Nat} (h : k < s.size) (h1 : low s[k] = s[k]) (hr : RowB 5 wr b cap (lowTake k s.data.toList)) : RowB 5 wr b cap (lowTake (k + 1) s.data.toList) := by
  have e1 : lowTake (k + 1) s.data.toList = lowTake k s.data.toList := lowTake_skip k s.data.toList h h1
  rw [e1]; exact hr
theorem row_str (s : ByteArray) {wr : World} {b cap k : Nat} (h : s.size ≤ k) (hr : RowB 5 wr b cap (lowTake k s.data.toList)) (c : Nat) :
    (convert 22 9 (.slice (some ⟨b, 0, none⟩) s.size c)).run Tryz.prog wr = .ok (.string ⟨(s.data.toList.map low).toArray⟩) wr := by
  have := hr.str (P := Tryz.prog) (src := 22) (dst := 9) c Tryz.underlying22 Tryz.underlying5 Tryz.underlying9
  rw [lowTake_all k _ h] at this
  have hl : (s.data.toList.map low).length = s.size := by simp
  rw [hl] at this
  exact this
set_option maxHeartbeats 1000000 in
set_option maxRecDepth 100000 in
theorem fold_any (s : ByteArray) (w : World) (hs : s.size ≤ maxLen) :
    Calls Tryz.prog 128 #[.string s] w fun e w' => e = .returned (.string ⟨(s.data.toList.map low).toArray⟩) ∧ Below w.heap.size w w' := by
  unfold maxLen at hs
  obtain ⟨cap, o, hconv, hcap, hrow⟩ := RowB.made (P := Tryz.prog) s w Tryz.underlying9 Tryz.underlying22 Tryz.underlying5
  have HR := Lib.hid hrow
  clear hrow
  go_enter Tryz.func128, Tryz.ntmps128
  go_wp2
  go_loopw [10] (fun i wr => ∃ k : Nat, k ≤ s.size ∧ i = .int .i64 k ∧ RowB 5 wr w.heap.size cap (lowTake k s.data.toList) ∧ Below w.heap.size w wr) (fun i _ => s.size - (intOf i).toNat)
  case atStart => exact ⟨0, Nat.zero_le _, rfl, by rw [lowTake_zero]; exact HR.out.drew, ((Below.refl _ _).alloc (Nat.le_refl _) _).drew⟩
  case round =>
    obtain ⟨k, hk, rfl, hrow, hbel⟩ := hrel
    by_cases hlt : k < s.size
    · have hcell := hrow.cell (lowTake_at' s k hlt)
      have hfz := hrow.frozen (j := k) (by omega)
      have HR1 := Lib.hid hrow
      clear hrow
      go_wp2
      all_goals
        go_roundw
        case rel => exact ⟨k + 1, by omega, by go_num, by first | exact row_up s hlt (by assumption) (by assumption) (by omega) HR1.out | exact row_skip s hlt (low_hi _ (by omega)) HR1.out | exact row_skip s hlt (low_lo _ (by omega)) HR1.out, by first | exact hbel | exact hbel.setCell (Nat.le_refl _) _⟩
        case measure => simp [intOf]; omega
    · have hback := row_str s (by omega) hrow cap
      clear hrow
      go_wp2
      go_ret
      exact ⟨rfl, hbel⟩
end Go.Proofs.YtogdkmkganpaaaaGreatDoor

namespace Go.Tx
open Go.Lib
/-- One byte more: the word that stands open, and the words that are closed. -/
def stepW (p : Nat → Bool) (st : List UInt8 × List (List UInt8)) (c : UInt8) : List UInt8 × List (List UInt8) :=
  if p c.toNat = true then (if st.1 = [] then ([], st.2) else ([], st.2 ++ [st.1])) else (st.1 ++ [c], st.2)
def closeW (st : List UInt8 × List (List UInt8)) : List (List UInt8) := if st.1 = [] then st.2 else st.2 ++ [st.1]
/-- The words of bytes. -/
def wordsL (p : Nat → Bool) (l : List UInt8) : List (List UInt8) := closeW (l.foldl (stepW p) ([], []))
theorem take_size (s : ByteArray) : s.data.toList.take s.size = s.data.toList := List.take_of_length_le (Nat.le_refl _)
theorem stepW_nil {p : Nat → Bool} {u : List UInt8 × List (List UInt8)} {c : UInt8} (h : p c.toNat = true) (hu : u.1 = []) : stepW p u c = ([], u.2) := by simp [stepW, h, hu]
theorem stepW_end {p : Nat → Bool} {u : List UInt8 × List (List UInt8)} {c : UInt8} (h : p c.toNat = true) (hu : ¬ u.1 = []) : stepW p u c = ([], u.2 ++ [u.1]) := by simp [stepW, h, hu]
theorem stepW_in {p : Nat → Bool} {u : List UInt8 × List (List UInt8)} {c : UInt8} (h : ¬ p c.toNat = true) : stepW p u c = (u.1 ++ [c], u.2) := by simp [stepW, h]
theorem foldl_take_succ (p : Nat → Bool) (s : ByteArray) (k : Nat) (h : k < s.size) : (s.data.toList.take (k + 1)).foldl (stepW p) ([], []) = stepW p ((s.data.toList.take k).foldl (stepW p) ([], [])) s[k] := by
  rw [List.take_succ_eq_append_getElem (by simpa using h), List.foldl_append]
  rfl
/-- Spans and words tell the same. -/
def SameW (s : ByteArray) (pos : Nat) (st : Option Nat) (acc : List (Nat × Nat)) (u : List UInt8 × List (List UInt8)) : Prop :=
  (acc.map fun x => (s.extract x.1 x.2).data.toList) = u.2 ∧
  match st with
  | none => u.1 = []
  | some a => a < pos ∧ u.1 = (s.extract a pos).data.toList
theorem ext_list (s : ByteArray) (a b : Nat) : (s.extract a b).data.toList = (s.data.toList.take b).drop a := by
  simp [ByteArray.extract, ByteArray.copySlice, List.drop_take, List.extract]
theorem spans_words (p : Nat → Bool) (s : ByteArray) (ha : ∀ (k : Nat) (h : k < s.size), s[k].toNat < 128) : ∀ (f pos : Nat) (st : Option Nat) (acc : List (Nat × Nat)), pos ≤ s.size → s.size - pos ≤ f →
    SameW s pos st acc ((s.data.toList.take pos).foldl (stepW p) ([], [])) →
    SameW s s.size (spansFromP p s f pos st acc).2 (spansFromP p s f pos st acc).1 (s.data.toList.foldl (stepW p) ([], [])) := by
  intro f
  induction f with
  | zero =>
    intro pos st acc h1 h2 h3
    have : pos = s.size := by omega
    subst this
    simp only [spansFromP]
    rw [take_size] at h3
    exact h3
  | succ f ih =>
    intro pos st acc h1 h2 h3
    unfold spansFromP
    by_cases hp : pos < s.size
    · rw [if_pos hp, decode_ascii s pos hp (ha pos hp)]
      simp only
      have hstep := foldl_take_succ p s pos hp
      have hsnoc : ∀ a, a ≤ pos → (s.extract a (pos + 1)).data.toList = (s.extract a pos).data.toList ++ [s[pos]] := by
        intro a hle
        rw [ext_list, ext_list, List.take_succ_eq_append_getElem (by simpa using hp), List.drop_append_of_le_length (by simp; omega)]
        rfl
      obtain ⟨e1, e2⟩ := h3
      by_cases hc : p s[pos].toNat = true
      · rw [if_pos hc]
        cases st with
        | none =>
          simp only at e2 ⊢
          refine ih _ _ _ hp (by omega) ?_
          rw [hstep, stepW_nil hc e2]
          exact ⟨e1, rfl⟩
        | some a =>
          simp only at e2 ⊢
          refine ih _ _ _ hp (by omega) ?_
          have hne : ¬ ((s.data.toList.take pos).foldl (stepW p) ([], [])).1 = [] := by
            rw [e2.2, ext_list]
            intro hh
            have := congrArg List.length hh
            simp at this
            omega
          rw [hstep, stepW_end hc hne]
          refine ⟨?_, rfl⟩
          rw [List.map_append, e1, e2.2]
          rfl
      · rw [if_neg hc]
        cases st with
        | none =>
          simp only at e2 ⊢
          refine ih _ _ _ hp (by omega) ?_
          rw [hstep, stepW_in hc]
          refine ⟨e1, by omega, ?_⟩
          rw [e2, hsnoc pos (Nat.le_refl _), ext_list, List.drop_of_length_le (by simp; omega)]
        | some a =>
          simp only at e2 ⊢
          refine ih _ _ _ hp (by omega) ?_
          rw [hstep, stepW_in hc]
          refine ⟨e1, by omega, ?_⟩
          rw [e2.2, hsnoc a (by omega)]
    · have : pos = s.size := by omega
      subst this
      rw [if_neg hp]
      rw [take_size] at h3
      exact h3
theorem fields_words (p : Nat → Bool) (s : ByteArray) (ha : ∀ (k : Nat) (h : k < s.size), s[k].toNat < 128) : (goFieldsP p s).map (fun x => x.data.toList) = wordsL p s.data.toList := by
  have h := spans_words p s ha s.size 0 none [] (Nat.zero_le _) (by omega) ⟨rfl, rfl⟩
  unfold goFieldsP spansOfP wordsL closeW
  obtain ⟨e1, e2⟩ := h
  generalize spansFromP p s s.size 0 none [] = r at e1 e2
  obtain ⟨acc, st⟩ := r
  cases st with
  | none =>
    simp only at e1 e2
    rw [if_pos e2, ← e1]
    simp [closeSpans]
  | some a =>
    simp only at e1 e2
    have hne : ¬ (s.data.toList.foldl (stepW p) ([], [])).1 = [] := by
      rw [e2.2, ext_list]
      intro hh
      have := congrArg List.length hh
      simp at this
      omega
    rw [if_neg hne, ← e1, e2.2]
    simp [closeSpans]
end Go.Tx

namespace Go.Tx
open Go.RowKit
def blankN (x : Nat) : Bool := x == 32 || x == 9 || x == 13
def forB (c : UInt8) : Bool := decide (127 ≤ c.toNat) || (decide (c.toNat < 32) && !blankN c.toNat)
/-- A slice of bytes that reads as l. -/
structure BA (w : World) (a : Option Addr) (n c : Nat) (l : List UInt8) : Prop where
  len : l.length = n
  cap : n ≤ c
  max : c ≤ 9223372036854775807
  none : a = none → c = 0
  cell : ∀ x, a = some x → ∀ j b, l[j]? = some b → w.cell? (x.add j) = some (.int .u8 (b.toNat : Int))
theorem BA.below {w w' : World} {a : Option Addr} {n c : Nat} {l : List UInt8} (h : BA w a n c l) {B : Nat} (hb : Below B w w') (hlt : ∀ x, a = some x → x.block < B) : BA w' a n c l :=
  ⟨h.len, h.cap, h.max, h.none, fun x hx j b hj => by
    have hblk : (x.add j).block = x.block := by unfold Addr.add; split <;> rfl
    rw [hb.cell (by rw [hblk]; exact hlt x hx)]; exact h.cell x hx j b hj⟩
end Go.Tx
namespace Go.Proofs.YtogdkmkganpaaaaGreatDoor
open Go.RowKit Go.Lib Go.Tx
theorem ret_bool {a b : Bool} (h : a = b) : Ending.returned (.bool a) = .returned (.bool b) := by rw [h]
theorem isBlank_any (x : Nat) (w : World) :
    Calls Tryz.prog 122 #[.int .i32 x] w fun e w' => e = .returned (.bool (blankN x)) ∧ w' = w := by
  by_cases h1 : x = 32
  · subst h1
    go_enter Tryz.func122, Tryz.ntmps122
    go_wp2
    all_goals (go_ret; exact ⟨rfl, rfl⟩)
  by_cases h2 : x = 9
  · subst h2
    go_enter Tryz.func122, Tryz.ntmps122
    go_wp2
    all_goals (go_ret; exact ⟨rfl, rfl⟩)
  by_cases h3 : x = 13
  · subst h3
    go_enter Tryz.func122, Tryz.ntmps122
    go_wp2
    all_goals (go_ret; exact ⟨rfl, rfl⟩)
  have e0 : blankN x = false := by simp [blankN, h1, h2, h3]
  have e1 : ((x : Int) == 32) = false := by rw [beq_eq_false_iff_ne]; omega
  have e2 : ((x : Int) == 9) = false := by rw [beq_eq_false_iff_ne]; omega
  have e3 : ((x : Int) == 13) = false := by rw [beq_eq_false_iff_ne]; omega
  clear h1 h2 h3
  have E0 := Lib.hid e0
  clear e0
  go_enter Tryz.func122, Tryz.ntmps122
  go_wp2
  all_goals (go_ret; exact ⟨ret_bool E0.out.symm, rfl⟩)
set_option maxRecDepth 100000 in
theorem isForeign_any (c : UInt8) (w : World) :
    Calls Tryz.prog 120 #[.int .u8 (c.toNat : Int)] w fun e w' => e = .returned (.bool (forB c)) ∧ w' = w := by
  by_cases h1 : 127 ≤ (c.toNat : Int)
  · have E0 : Hid (forB c = true) := Lib.hid (by have : 127 ≤ c.toNat := by omega
                                                 simp [forB, this])
    go_enter Tryz.func120, Tryz.ntmps120
    go_wp2
    all_goals (go_ret; exact ⟨ret_bool E0.out.symm, rfl⟩)
  by_cases h2 : (c.toNat : Int) < 32
  · have E0 : Hid (forB c = !blankN c.toNat) := Lib.hid (by have a1 : ¬ 127 ≤ c.toNat := by omega
                                                            have a2 : c.toNat < 32 := by omega
                                                            simp [forB, a1, a2])
    have h3 : (c.toNat : Int) < 127 := by omega
    clear h1
    go_enter Tryz.func120, Tryz.ntmps120
    go_wp2_with (go_at_call 122; refine (isBlank_any c.toNat _).mono ?_; rintro e w' ⟨rfl, rfl⟩)
    all_goals (go_ret; exact ⟨ret_bool (by rw [E0.out, show decide (127 ≤ (c.toNat : Int)) = false from by rw [decide_eq_false_iff_not]; omega]; rfl), rfl⟩)
  · have E0 : Hid (forB c = false) := Lib.hid (by have a1 : ¬ 127 ≤ c.toNat := by omega
                                                  have a2 : ¬ c.toNat < 32 := by omega
                                                  simp [forB, a1, a2])
    have h3 : (c.toNat : Int) < 127 := by omega
    have h4 : 32 ≤ (c.toNat : Int) := by omega
    clear h1 h2
    go_enter Tryz.func120, Tryz.ntmps120
    go_wp2
    all_goals (go_ret; exact ⟨ret_bool (by rw [E0.out, decide_eq_false_iff_not]; omega), rfl⟩)
end Go.Proofs.YtogdkmkganpaaaaGreatDoor

namespace Go.Tx
open Go.Lib
def hashCut (l : List UInt8) : List UInt8 := l.takeWhile (· != 35)
theorem hashCut_eq (l : List UInt8) : hashCut l = if 0 ≤ indexByte l 35 then l.take (indexByte l 35).toNat else l := by
  induction l with
  | nil => simp [hashCut, indexByte]
  | cons c l ih =>
    have hge := indexByte_ge l 35
    unfold hashCut at ih ⊢
    by_cases hc : c = 35
    · subst hc; simp [indexByte]
    · have hb : (c == 35) = false := beq_eq_false_iff_ne.2 hc
      have hb2 : (c != 35) = true := by simp [hc]
      simp only [List.takeWhile_cons, hb2, if_true, indexByte, hb, Bool.false_eq_true, if_false]
      rw [ih]
      by_cases hr : 0 ≤ indexByte l 35
      · have h1 : (indexByte l 35 == -1) = false := beq_eq_false_iff_ne.2 (by omega)
        have h2 : (indexByte l 35 + 1).toNat = (indexByte l 35).toNat + 1 := by omega
        have h3 : 0 ≤ indexByte l 35 + 1 := by omega
        simp [hr, h1, h2, h3]
      · have h1 : (indexByte l 35 == -1) = true := by simp; omega
        simp [hr, h1]
def badSeg (l : List UInt8) : Bool := decide (512 < l.length) || l.any forB
def wordsOf (l : List UInt8) : List (List UInt8) := if badSeg l = true then [] else wordsL blankN (hashCut l)
theorem wordsOf_nil : wordsOf [] = [] := by decide
def tell (no : Nat) (l : List UInt8) : List (Nat × List (List UInt8)) := if wordsOf l = [] then [] else [(no, wordsOf l)]
/-- The lines that are told; 'cur': what stands ahead in the line. -/
def toldG : Nat → List UInt8 → List UInt8 → List (Nat × List (List UInt8))
  | no, cur, [] => tell no cur
  | no, cur, c :: l => if c = 10 then tell no cur ++ toldG (no + 1) [] l else toldG no (cur ++ [c]) l
theorem toldG_nl (i : Nat) : ∀ (l : List UInt8) (no : Nat) (cur : List UInt8), indexByte l 10 = i → toldG no cur l = tell no (cur ++ l.take i) ++ toldG (no + 1) [] (l.drop (i + 1)) := by
  induction i with
  | zero =>
    intro l no cur h
    cases l with
    | nil => simp [indexByte] at h
    | cons c l =>
      have hge := indexByte_ge l 10
      by_cases hc : c = 10
      · simp [toldG, hc]
      · have hb : (c == 10) = false := beq_eq_false_iff_ne.2 hc
        simp only [indexByte, hb, Bool.false_eq_true, if_false] at h
        split at h
        · cases h
        · rename_i h1
          have h1 : ¬ indexByte l 10 = -1 := by simpa using h1
          simp at h
          omega
  | succ i ih =>
    intro l no cur h
    cases l with
    | nil => simp [indexByte] at h; omega
    | cons c l =>
      by_cases hc : c = 10
      · subst hc; simp [indexByte] at h; omega
      · have hb : (c == 10) = false := beq_eq_false_iff_ne.2 hc
        simp only [indexByte, hb, Bool.false_eq_true, if_false] at h
        split at h
        · omega
        · have h' : indexByte l 10 = (i : Int) := by omega
          rw [toldG, if_neg hc, ih l no (cur ++ [c]) h']
          simp
theorem toldG_no : ∀ (l : List UInt8) (no : Nat) (cur : List UInt8), indexByte l 10 < 0 → toldG no cur l = tell no (cur ++ l) := by
  intro l
  induction l with
  | nil => intro no cur _; simp [toldG]
  | cons c l ih =>
    intro no cur h
    have hge := indexByte_ge l 10
    by_cases hc : c = 10
    · subst hc; simp [indexByte] at h
    · have hb : (c == 10) = false := beq_eq_false_iff_ne.2 hc
      simp only [indexByte, hb, Bool.false_eq_true, if_false] at h
      have h' : indexByte l 10 < 0 := by
        split at h
        · rename_i h1; have : indexByte l 10 = -1 := by simpa using h1
          omega
        · omega
      rw [toldG, if_neg hc, ih no (cur ++ [c]) h']
      simp
end Go.Tx

namespace Go.Proofs.YtogdkmkganpaaaaGreatDoor
open Go.RowKit Go.Lib Go.Tx Go.Proofs
theorem slcut_no (s : ByteArray) (w : World) (hs : s.size ≤ 4294967296) (hi : Lib.indexByte s.data.toList 35 < 0) :
    Calls Tryz.prog 129 #[.string s, .string ⟨#[35]⟩] w fun e w' => e = .returned (.tuple #[.string s, .string ⟨#[]⟩, .bool false]) ∧ w' = w := by
  go_enter Tryz.func129, Tryz.ntmps129
  go_wp2_with (go_at_call 158; refine (Tryz.stringslite_Index_one s 35 _).mono ?_; rintro e w' ⟨rfl, rfl⟩)
  go_ret3
  exact ⟨rfl, rfl⟩
theorem slcut_yes (s : ByteArray) (i : Nat) (w : World) (hs : s.size ≤ 4294967296) (hi : Lib.indexByte s.data.toList 35 = i) (hlt : i < s.size) :
    Calls Tryz.prog 129 #[.string s, .string ⟨#[35]⟩] w fun e w' => e = .returned (.tuple #[.string (s.extract 0 i), .string (s.extract (i + 1) s.size), .bool true]) ∧ ∃ q, w' = w.drewN q := by
  go_enter Tryz.func129, Tryz.ntmps129
  go_wp2_with (go_at_call 158; refine (Tryz.stringslite_Index_one s 35 _).mono ?_; rintro e w' ⟨rfl, rfl⟩)
  go_quiet (fail)
  go_wp2
  go_ret3
  exact ⟨rfl, _, rfl⟩
def CutR (s : ByteArray) (w : World) (e : Ending) (w' : World) : Prop := ∃ x y, e = .returned (.tuple #[.string ⟨(hashCut s.data.toList).toArray⟩, x, y]) ∧ ∃ q, w' = w.drewN q
theorem ret_cut {s t : ByteArray} {x y : Value} (h : s = t) : Ending.returned (.tuple #[.string s, x, y]) = .returned (.tuple #[.string t, x, y]) := by rw [h]
theorem indexByte_lt (l : List UInt8) (c : UInt8) : Lib.indexByte l c < l.length ∨ l = [] := by
  induction l with
  | nil => exact .inr rfl
  | cons d l ih =>
    left
    unfold Lib.indexByte
    have hge := Lib.indexByte_ge l c
    split
    · simp
    · split
      · simp; omega
      · rcases ih with h | h
        · simp; omega
        · subst h; simp [Lib.indexByte] at *
theorem slcut_any (s : ByteArray) (w : World) (hs : s.size ≤ 4294967296) : Calls Tryz.prog 129 #[.string s, .string ⟨#[35]⟩] w (CutR s w) := by
  have hl : s.data.toList.length = s.size := rfl
  by_cases hi : Lib.indexByte s.data.toList 35 < 0
  · refine (slcut_no s w hs hi).mono ?_
    rintro e w' ⟨rfl, rfl⟩
    refine ⟨_, _, ret_cut ?_, 0, rfl⟩
    rw [hashCut_eq, if_neg (by omega)]
  · have hlt := indexByte_lt s.data.toList 35
    have hlt : (Lib.indexByte s.data.toList 35).toNat < s.size := by
      rcases hlt with h | h
      · omega
      · rw [h] at hi; simp [Lib.indexByte] at hi
    refine (slcut_yes s (Lib.indexByte s.data.toList 35).toNat w hs (by omega) hlt).mono ?_
    rintro e w' ⟨rfl, q, rfl⟩
    refine ⟨_, _, ret_cut ?_, q, rfl⟩
    rw [hashCut_eq, if_pos (by omega)]
    have : s.extract 0 (Lib.indexByte s.data.toList 35).toNat = ⟨(s.data.toList.take (Lib.indexByte s.data.toList 35).toNat).toArray⟩ := by
      have := ext_list s 0 (Lib.indexByte s.data.toList 35).toNat
      rw [List.drop_zero] at this
      rw [← this]
    rw [this]
theorem scut_any (s : ByteArray) (w : World) (hs : s.size ≤ 4294967296) : Calls Tryz.prog 99 #[.string s, .string ⟨#[35]⟩] w (CutR s w) := by
  go_enter Tryz.func99, Tryz.ntmps99
  go_wp2_with (go_at_call 129; refine (slcut_any s _ hs).mono ?_; rintro e w' ⟨x, y, rfl, q, rfl⟩)
  go_ret3
  exact ⟨_, _, rfl, q, rfl⟩
def IdxR (l : List UInt8) (w : World) (e : Ending) (w' : World) : Prop := ∃ r : Int, e = .returned (.int .i64 r) ∧ (decide (0 ≤ r) = l.any forB) ∧ w' = w
theorem any_no (l : List UInt8) (k : Nat) (hk : l.length ≤ k) (h : ∀ j b, j < k → l[j]? = some b → forB b = false) : l.any forB = false := by
  rw [List.any_eq_false]
  intro b hb
  obtain ⟨j, hj, rfl⟩ := List.getElem_of_mem hb
  rw [h j _ (by omega) (List.getElem?_eq_getElem hj)]
  simp
theorem any_yes (l : List UInt8) (k : Nat) (b : UInt8) (hk : l[k]? = some b) (h : forB b = true) : l.any forB = true := by
  rw [List.any_eq_true]
  exact ⟨b, List.mem_of_getElem? hk, h⟩
set_option maxHeartbeats 1000000 in
set_option maxRecDepth 100000 in
theorem idx_any (a : Option Addr) (n c : Nat) (l : List UInt8) (w : World) (h : BA w a n c l) :
    Calls Tryz.prog 147 #[.slice a n c, .func (.func 120) #[] #[]] w (IdxR l w) := by
  have hcap := h.cap
  have hmax := h.max
  have hlen := h.len
  go_enter Tryz.func147, Tryz.ntmps147
  go_wp2
  go_loop [8] (fun i => ∃ k : Nat, k ≤ n ∧ i = .int .i64 k ∧ Hid (∀ j b, j < k → l[j]? = some b → forB b = false)) (fun i => n - (intOf i).toNat)
  case atStart => exact ⟨0, Nat.zero_le _, rfl, Lib.hid (by omega)⟩
  case round =>
    obtain ⟨k, hk, rfl, hall⟩ := hrel
    by_cases hlt : k < n
    · have hkl : k < l.length := by omega
      obtain ⟨x, rfl⟩ : ∃ x, a = some x := by
        cases a with
        | none => have := h.none rfl; omega
        | some x => exact ⟨x, rfl⟩
      have hcell := h.cell x rfl k l[k] (List.getElem?_eq_getElem hkl)
      have HK := Lib.hid (List.getElem?_eq_getElem hkl)
      clear hlen
      generalize l[k] = b at hcell HK
      cases hb : forB b with
      | true =>
        have HB := Lib.hid hb
        clear hb
        go_wp2_with (go_at_call 120; refine (isForeign_any b _).mono ?_; rw [HB.out]; rintro e w' ⟨rfl, rfl⟩)
        go_ret
        exact ⟨k, rfl, by rw [any_yes l k b HK.out HB.out]; simp, rfl⟩
      | false =>
        have HB := Lib.hid hb
        clear hb
        go_wp2_with (go_at_call 120; refine (isForeign_any b _).mono ?_; rw [HB.out]; rintro e w' ⟨rfl, rfl⟩)
        go_round
        case rel => exact ⟨k + 1, hlt, by go_num, Lib.hid (by
          intro j d hj hd
          by_cases e : j = k
          · subst e
            have := HK.out
            rw [this] at hd
            cases hd
            exact HB.out
          · exact hall.out j d (by omega) hd)⟩
        case measure => simp [intOf]; omega
    · go_wp2
      go_ret
      exact ⟨-1, rfl, by rw [any_no l k (by omega) hall.out]; rfl, rfl⟩
end Go.Proofs.YtogdkmkganpaaaaGreatDoor

namespace Go.Tx
/-- A slice of texts that reads as ws: nil, or a row from block B on. -/
def Strs (B : Nat) (w : World) (v : Value) (ws : List (List UInt8)) : Prop :=
  (v = .slice none 0 0 ∧ ws = []) ∨
  ∃ A, v = .slice (some ⟨A, 0, none⟩) ws.length ws.length ∧ B ≤ A ∧ w.ownsRow B 9 1 v ws.length (ws.map fun l => .string ⟨l.toArray⟩)
end Go.Tx
namespace Go.Proofs.YtogdkmkganpaaaaGreatDoor
open Go.RowKit Go.Lib Go.Tx Go.Proofs
theorem cf_any (a : Option Addr) (n c : Nat) (l : List UInt8) (w : World) (h : BA w a n c l) :
    Calls Tryz.prog 119 #[.slice a n c, .func (.func 120) #[] #[]] w fun e w' => e = .returned (.bool (l.any forB)) ∧ w' = w := by
  go_enter Tryz.func119, Tryz.ntmps119
  go_wp2_with (go_at_call 147; refine (idx_any a n c l _ h).mono ?_; rintro e w' ⟨r, rfl, hr, rfl⟩)
  go_ret
  exact ⟨rfl, rfl⟩
theorem ba_str (a : Option Addr) (n c : Nat) (l : List UInt8) (w : World) (h : BA w a n c l) : (convert 22 9 (.slice a n c)).run Tryz.prog w = .ok (.string ⟨l.toArray⟩) w := by
  have hlen := h.len
  cases a with
  | none =>
    have := h.none rfl
    have hcap := h.cap
    obtain rfl : c = 0 := by omega
    obtain rfl : n = 0 := by omega
    obtain rfl : l = [] := List.eq_nil_of_length_eq_zero hlen
    rw [run_convert_bytes_string w 22 9 5 none 0 0 Tryz.underlying22 Tryz.underlying5 Tryz.underlying9]
    rfl
  | some x =>
    subst hlen
    exact run_convert_bytes_back w 22 9 5 x c l Tryz.underlying22 Tryz.underlying5 Tryz.underlying9 fun j hj => h.cell x rfl j _ (List.getElem?_eq_getElem hj)
def WordsR (w : World) (ws : List (List UInt8)) (e : Ending) (w' : World) : Prop := ∃ v, e = .returned v ∧ Strs w.heap.size w' v ws ∧ Below w.heap.size w w'
theorem blank_pays (w : World) : PredAt Tryz.prog 122 #[] encR blankN w := fun W x _ => by
  unfold FnGives
  refine (isBlank_any x W).mono ?_
  rintro e w' ⟨rfl, rfl⟩
  exact ⟨rfl, 0, rfl⟩
theorem enter72 (args : Array Value) (w : World) : (callFunc 122 args).run Tryz.prog w = .ok (.enter 122 args) w := Go.Ev.enters_run (by kernel_rfl) args w
theorem ff_any (l : List UInt8) (w : World) (hl : l.length ≤ 512) (ha : ∀ b ∈ l, forB b = false) :
    Calls Tryz.prog 121 #[.string ⟨l.toArray⟩, .func (.func 122) #[] #[]] w (WordsR w (wordsL blankN l)) := by
  refine (Tryz.strings_FieldsFunc 122 #[] enter72 blankN ⟨l.toArray⟩ w (by show l.toArray.size ≤ _; simp; omega) (blank_pays w)).mono ?_
  rintro e w' ⟨A, rfl, hA, hown, hb⟩
  have hf := fields_words blankN ⟨l.toArray⟩ (fun k h => by
    have hk : k < l.length := by have h2 : k < l.toArray.size := h; simpa using h2
    have := ha l[k] (List.getElem_mem hk)
    have h2 : l[k].toNat < 127 := by
      simp only [forB, Bool.or_eq_false_iff, decide_eq_false_iff_not] at this
      omega
    show l.toArray[k].toNat < 128
    simp; omega)
  have hg : (goFieldsP blankN ⟨l.toArray⟩).map Value.string = (wordsL blankN l).map fun l => Value.string ⟨l.toArray⟩ := by
    have h1 : (⟨l.toArray⟩ : ByteArray).data.toList = l := by simp
    rw [h1] at hf
    rw [← hf, List.map_map]
    apply List.map_congr_left
    intro x _
    simp
  have hlen : (goFieldsP blankN ⟨l.toArray⟩).length = (wordsL blankN l).length := by
    have := congrArg List.length hg
    simpa using this
  rw [hg, hlen] at hown
  rw [hlen]
  exact ⟨_, rfl, .inr ⟨A, rfl, hA, hown⟩, hb⟩
theorem words_long (a : Option Addr) (n c : Nat) (l : List UInt8) (w : World) (h : BA w a n c l) (hn : 512 < n) :
    Calls Tryz.prog 96 #[.slice a n c] w (WordsR w (wordsOf l)) := by
  have hb : Hid (wordsOf l = []) := Lib.hid (by have := h.len; simp [wordsOf, badSeg, this, hn])
  have hcap := h.cap
  have hmax := h.max
  go_enter Tryz.func96, Tryz.ntmps96
  go_wp2
  go_ret
  exact ⟨_, rfl, .inl ⟨rfl, hb.out⟩, Below.refl _ _⟩
theorem words_bad (a : Option Addr) (n c : Nat) (l : List UInt8) (w : World) (h : BA w a n c l) (hn : n ≤ 512) (hf : l.any forB = true) :
    Calls Tryz.prog 96 #[.slice a n c] w (WordsR w (wordsOf l)) := by
  have hb : Hid (wordsOf l = []) := Lib.hid (by simp [wordsOf, badSeg, hf])
  have HF := Lib.hid hf
  clear hf
  go_enter Tryz.func96, Tryz.ntmps96
  go_wp2_with (go_at_call 119; refine (cf_any a n c l _ h).mono ?_; rw [HF.out]; rintro e w' ⟨rfl, rfl⟩)
  go_ret
  exact ⟨_, rfl, .inl ⟨rfl, hb.out⟩, Below.refl _ _⟩
theorem cut_any (l : List UInt8) (w : World) (hl : l.length ≤ 512) : Calls Tryz.prog 99 #[.string ⟨l.toArray⟩, .string ⟨#[35]⟩] w fun e w' => ∃ x y, e = .returned (.tuple #[.string ⟨(hashCut l).toArray⟩, x, y]) ∧ ∃ q, w' = w.drewN q := by
  refine (scut_any ⟨l.toArray⟩ w (by show l.toArray.size ≤ _; simp; omega)).mono ?_
  rintro e w' ⟨x, y, rfl, q, rfl⟩
  exact ⟨x, y, by simp, q, rfl⟩
theorem takeWhile_len {α : Type} (p : α → Bool) : ∀ l : List α, (l.takeWhile p).length ≤ l.length
  | [] => Nat.le_refl _
  | x :: l => by
    unfold List.takeWhile
    split
    · simp; exact takeWhile_len p l
    · simp
theorem takeWhile_mem {α : Type} (p : α → Bool) : ∀ (l : List α) (x : α), x ∈ l.takeWhile p → x ∈ l
  | [], x, h => by simp at h
  | y :: l, x, h => by
    unfold List.takeWhile at h
    split at h
    · rcases List.mem_cons.1 h with h | h
      · simp [h]
      · simp [takeWhile_mem p l x h]
    · simp at h
set_option maxRecDepth 100000 in
theorem words_ok (a : Option Addr) (n c : Nat) (l : List UInt8) (w : World) (h : BA w a n c l) (hn : n ≤ 512) (hf : l.any forB = false) :
    Calls Tryz.prog 96 #[.slice a n c] w (WordsR w (wordsOf l)) := by
  have hlen := h.len
  have hb : wordsOf l = wordsL blankN (hashCut l) := by
    have : ¬ 512 < l.length := by omega
    simp [wordsOf, badSeg, hf, this]
  have hl : l.length ≤ 512 := by omega
  have hl2 : (hashCut l).length ≤ 512 := Nat.le_trans (takeWhile_len _ l) hl
  have ha : ∀ b ∈ hashCut l, forB b = false := fun b hb => by
    rw [List.any_eq_false] at hf
    simpa using hf b (takeWhile_mem _ l b hb)
  have HF := Lib.hid hf
  have HA := Lib.hid ha
  rw [hb]
  have hconv := ba_str a n c l w h
  clear hf ha hb hlen
  go_enter Tryz.func96, Tryz.ntmps96
  go_wp2_with (first | (go_at_call 119; refine (cf_any a n c l _ h).mono ?_; rw [HF.out]; rintro e w' ⟨rfl, rfl⟩) | (go_at_call 99; refine (cut_any l _ hl).mono ?_; rintro e w' ⟨x, y, rfl, q, rfl⟩) | (go_at_call 121; refine (ff_any (hashCut l) _ hl2 HA.out).mono ?_; rintro e w' ⟨v, rfl, hs, hbel⟩))
  go_ret
  exact ⟨_, rfl, hs, ⟨hbel.os, hbel.tape, hbel.output, hbel.size, hbel.block⟩⟩
theorem words_any (a : Option Addr) (n c : Nat) (l : List UInt8) (w : World) (h : BA w a n c l) :
    Calls Tryz.prog 96 #[.slice a n c] w (WordsR w (wordsOf l)) := by
  by_cases hn : 512 < n
  · exact words_long a n c l w h hn
  · cases hf : l.any forB with
    | true => exact words_bad a n c l w h (by omega) hf
    | false => exact words_ok a n c l w h (by omega) hf
end Go.Proofs.YtogdkmkganpaaaaGreatDoor

namespace Go.Tx
open Go.RowKit
theorem own_below {B : Nat} {e : TypeId} {size n : Nat} {v : Value} {xs : List Value} {w w' : World} (h : w.ownsRow B e size v n xs) (hb : Below w.heap.size w w') : w'.ownsRow B e size v n xs := by
  refine ⟨h.1, ?_⟩
  rcases h.2 with h | ⟨g, cap, cur, h1, h2, h3, h4⟩
  · exact .inl h
  · exact .inr ⟨g, cap, cur, h1, h2, by rw [hb.block g (Array.getElem?_eq_some_iff.1 h3).1]; exact h3, h4⟩
theorem Strs.below {B : Nat} {v : Value} {ws : List (List UInt8)} {w w' : World} (h : Strs B w v ws) (hb : Below w.heap.size w w') : Strs B w' v ws := by
  rcases h with h | ⟨A, h1, h2, h3⟩
  · exact .inl h
  · exact .inr ⟨A, h1, h2, own_below h3 hb⟩
theorem own_base {B B' : Nat} {e : TypeId} {size n : Nat} {v : Value} {xs : List Value} {w : World} (h : w.ownsRow B e size v n xs) (hb : B' ≤ B) : w.ownsRow B' e size v n xs := by
  refine ⟨h.1, ?_⟩
  rcases h.2 with h | ⟨g, cap, cur, h1, h2, h4⟩
  · exact .inl h
  · exact .inr ⟨g, cap, cur, h1, Nat.le_trans hb h2, h4⟩
theorem Strs.base {B B' : Nat} {v : Value} {ws : List (List UInt8)} {w : World} (h : Strs B w v ws) (hb : B' ≤ B) : Strs B' w v ws := by
  rcases h with h | ⟨A, h1, h2, h3⟩
  · exact .inl h
  · exact .inr ⟨A, h1, Nat.le_trans hb h2, own_base h3 hb⟩
theorem Strs.shape {B : Nat} {v : Value} {ws : List (List UInt8)} {w : World} (h : Strs B w v ws) : ∃ p, v = .slice p ws.length ws.length := by
  rcases h with ⟨h, h2⟩ | ⟨A, h1, _⟩
  · subst h2; exact ⟨none, h⟩
  · exact ⟨_, h1⟩
theorem Strs.grown {B : Nat} {v : Value} {ws : List (List UInt8)} {w w' : World} {row : Option Nat} (h : Strs B w v ws) (hg : w.grownBy w' row) (hr : ∀ g, row = some g → ∃ cur fr, w.heap[g]? = some (.cells cur 154 fr)) : Strs B w' v ws := by
  rcases h with h | ⟨A, h1, h2, h3⟩
  · exact .inl h
  · refine .inr ⟨A, h1, h2, h3.kept hg ?_⟩
    cases row with
    | none => right; rw [h1]; simp [Value.ownBlock]
    | some g =>
      right
      rw [h1]
      simp only [Value.ownBlock, ne_eq, Option.some.injEq]
      rintro rfl
      obtain ⟨cur, fr, hc⟩ := hr A rfl
      rcases h3.2 with ⟨h4, _⟩ | ⟨g', cap, cur', h5, _, h6, _⟩
      · rw [h1] at h4; cases h4
      · rw [h1] at h5
        cases h5
        rw [hc] at h6
        cases h6
/-- A slice of lines that reads as T, in rows from block B on. -/
def LinesAt (B : Nat) (w : World) (v : Value) (T : List (Nat × List (List UInt8))) : Prop :=
  ∃ xs, w.ownsRow B 154 2 v T.length xs ∧ ∀ i no ws, T[i]? = some (no, ws) → xs[2 * i]? = some (.int .i64 (no : Int)) ∧ ∃ wv, xs[2 * i + 1]? = some wv ∧ Strs B w wv ws
theorem LinesAt.nil (B : Nat) (w : World) : LinesAt B w (.slice none 0 0) [] := ⟨[], World.ownsRow_nil w B 154 2, by simp⟩
theorem LinesAt.below {B : Nat} {v : Value} {T : List (Nat × List (List UInt8))} {w w' : World} (h : LinesAt B w v T) (hb : Below w.heap.size w w') : LinesAt B w' v T := by
  obtain ⟨xs, h1, h2⟩ := h
  refine ⟨xs, own_below h1 hb, fun i no ws hi => ?_⟩
  obtain ⟨a, wv, b, c⟩ := h2 i no ws hi
  exact ⟨a, wv, b, c.below hb⟩
theorem LinesAt.shape {B : Nat} {v : Value} {T : List (Nat × List (List UInt8))} {w : World} (h : LinesAt B w v T) : ∃ p c, v = .slice p T.length c := by
  obtain ⟨xs, h1, _⟩ := h
  rcases h1.2 with ⟨a, b⟩ | ⟨g, cap, cur, a, _⟩
  · exact ⟨none, 0, by rw [a, b]⟩
  · exact ⟨_, _, a⟩
/-- One line more. -/
theorem LinesAt.push {B : Nat} {v v' wv : Value} {T : List (Nat × List (List UInt8))} {w w' : World} {xs : List Value} {no : Nat} {ws : List (List UInt8)}
    (h1 : w.ownsRow B 154 2 v T.length xs) (h2 : ∀ i no ws, T[i]? = some (no, ws) → xs[2 * i]? = some (.int .i64 (no : Int)) ∧ ∃ wv, xs[2 * i + 1]? = some wv ∧ Strs B w wv ws)
    (hs : Strs B w wv ws) (ho : w'.ownsRow B 154 2 v' (T.length + 1) (xs ++ [.int .i64 (no : Int), wv])) (hg : w.grownBy w' v.ownBlock) : LinesAt B w' v' (T ++ [(no, ws)]) := by
  have hr : ∀ g, v.ownBlock = some g → ∃ cur fr, w.heap[g]? = some (.cells cur 154 fr) := by
    intro g hg
    rcases h1.2 with ⟨a, _⟩ | ⟨g', cap, cur, a, _, c, _⟩
    · rw [a] at hg; cases hg
    · rw [a] at hg
      cases hg
      exact ⟨cur, _, c⟩
  have hlen : xs.length = T.length * 2 := h1.1
  refine ⟨_, by simpa using ho, fun i no' ws' hi => ?_⟩
  by_cases hlt : i < T.length
  · rw [List.getElem?_append_left hlt] at hi
    obtain ⟨a, wv', b, c⟩ := h2 i no' ws' hi
    exact ⟨by rw [List.getElem?_append_left (by omega)]; exact a, wv', by rw [List.getElem?_append_left (by omega)]; exact b, c.grown hg hr⟩
  · have hle : i < (T ++ [(no, ws)]).length := (List.getElem?_eq_some_iff.1 hi).1
    have : i = T.length := by simp at hle; omega
    subst this
    rw [List.getElem?_append_right (Nat.le_refl _), Nat.sub_self] at hi
    cases hi
    refine ⟨?_, wv, ?_, hs.grown hg hr⟩
    · rw [List.getElem?_append_right (by omega), show 2 * T.length - xs.length = 0 from by omega]; rfl
    · rw [List.getElem?_append_right (by omega), show 2 * T.length + 1 - xs.length = 1 from by omega]; rfl
end Go.Tx

namespace Go.Tx
open Go.RowKit
def strV (l : List UInt8) : Value := .string ⟨l.toArray⟩
/-- A slice of texts that reads as ws, of whatever capacity. -/
def StrC (B : Nat) (w : World) (v : Value) (ws : List (List UInt8)) : Prop := w.ownsRow B 9 1 v ws.length (ws.map strV)
theorem StrC.shape {B : Nat} {w : World} {v : Value} {ws : List (List UInt8)} (h : StrC B w v ws) : ∃ p c, v = .slice p ws.length c := by
  rcases h.2 with ⟨a, b⟩ | ⟨g, cap, cur, a, _⟩
  · exact ⟨none, 0, by rw [a, b]⟩
  · exact ⟨_, _, a⟩
theorem StrC.read {B : Nat} {w : World} {v : Value} {ws : List (List UInt8)} (h : StrC B w v ws) :
    ∃ p c, v = .slice p ws.length c ∧ ws.length ≤ c ∧ c ≤ 9223372036854775807 ∧ ∀ (i : Nat) (l : List UInt8), ws[i]? = some l → ∃ g, p = some ⟨g, 0, none⟩ ∧ g < w.heap.size ∧ w.cell? ⟨g, i, none⟩ = some (.string ⟨l.toArray⟩) := by
  rcases h.2 with ⟨a, b⟩ | ⟨g, cap, cur, a, a2, a3, a4, a5, _⟩
  · refine ⟨none, 0, by rw [a, b], by omega, by omega, fun i l hi => ?_⟩
    have := (List.getElem?_eq_some_iff.1 hi).1
    omega
  · subst a
    refine ⟨_, cap, rfl, a4, a5, fun i l hi => ⟨g, rfl, (Array.getElem?_eq_some_iff.1 a3).1, ?_⟩⟩
    have hlt := (List.getElem?_eq_some_iff.1 hi).1
    rw [World.ownsRow.cellAt h i (by omega), List.getElem?_map, hi]
    rfl
end Go.Tx

namespace Go.Proofs.YtogdkmkganpaaaaGreatDoor
open Go.RowKit Go.Lib Go.Tx
/-- A row of texts, whose address and length are known. -/
structure TextsAt (w : World) (b cap : Nat) (ws : List (List UInt8)) : Prop where
  lt : b < w.heap.size
  fits : ws.length ≤ cap
  max : cap ≤ 9223372036854775807
  cell : ∀ (i : Nat) l, ws[i]? = some l → w.cell? ⟨b, i, none⟩ = some (.string ⟨l.toArray⟩)
theorem TextsAt.below {w w' : World} {b cap : Nat} {ws : List (List UInt8)} (h : TextsAt w b cap ws) (hb : Below w.heap.size w w') : TextsAt w' b cap ws :=
  ⟨Nat.lt_of_lt_of_le h.lt hb.size, h.fits, h.max, fun i l hi => by
    have := h.cell i l hi
    unfold World.cell? at this ⊢
    rw [hb.block b h.lt]
    exact this⟩
def IdxT (p : List UInt8 → Bool) (ws : List (List UInt8)) (w : World) (e : Ending) (w' : World) : Prop := ∃ i : Int, e = .returned (.int .i64 i) ∧ decide (0 ≤ i) = ws.any p ∧ Below w.heap.size w w'
theorem anyT_no {p : List UInt8 → Bool} (l : List (List UInt8)) (k : Nat) (hk : l.length ≤ k) (h : ∀ j b, j < k → l[j]? = some b → p b = false) : l.any p = false := by
  rw [List.any_eq_false]
  intro b hb
  obtain ⟨j, hj, rfl⟩ := List.getElem_of_mem hb
  rw [h j _ (by omega) (List.getElem?_eq_getElem hj)]
  simp
theorem anyT_yes {p : List UInt8 → Bool} (l : List (List UInt8)) (k : Nat) (b : List UInt8) (hk : l[k]? = some b) (h : p b = true) : l.any p = true := by
  rw [List.any_eq_true]
  exact ⟨b, List.mem_of_getElem? hk, h⟩
set_option maxHeartbeats 1000000 in
set_option maxRecDepth 100000 in
theorem idxT_any (b n cap : Nat) (ws : List (List UInt8)) (w : World) (hn : ws.length = n) (h : TextsAt w b cap ws) :
    Calls Tryz.prog 182 #[.slice (some ⟨b, 0, none⟩) n cap, .func (.func 157) #[] #[]] w (IdxT (fun l => !labelB l) ws w) := by
  have hcap := h.fits
  have hmax := h.max
  rw [hn] at hcap
  have HT := Lib.hid h
  clear h
  go_enter Tryz.func182, Tryz.ntmps182
  go_wp2
  go_loopw [8] (fun i wr => ∃ k : Nat, k ≤ n ∧ i = .int .i64 k ∧ Below w.heap.size w wr ∧ Hid (∀ j b, j < k → ws[j]? = some b → (!labelB b) = false)) (fun i _ => n - (intOf i).toNat)
  case atStart => exact ⟨0, Nat.zero_le _, rfl, Below.refl _ _, Lib.hid (by omega)⟩
  case round =>
    obtain ⟨k, hk, rfl, hbel, hall⟩ := hrel
    by_cases hlt : k < n
    · have hkl : k < ws.length := by omega
      have hcell := (HT.out.below hbel).cell k ws[k] (List.getElem?_eq_getElem hkl)
      have HK := Lib.hid (List.getElem?_eq_getElem hkl)
      clear hn
      generalize ws[k] = t at hcell HK
      have HN := Lib.hid (fun w => noLabel_any ⟨t.toArray⟩ w)
      cases hb : labelB t with
      | false =>
        have HB := Lib.hid hb
        clear hb
        go_wp2_with (go_at_call 157; refine (HN.out _).mono ?_; rw [show labelB (ByteArray.data ⟨t.toArray⟩).toList = false from HB.out]; rintro e w' ⟨rfl, hb2⟩)
        go_ret
        exact ⟨k, rfl, by rw [anyT_yes ws k t HK.out (by rw [HB.out]; rfl)]; simp, hbel.trans (hb2.mono hbel.size)⟩
      | true =>
        have HB := Lib.hid hb
        clear hb
        go_wp2_with (go_at_call 157; refine (HN.out _).mono ?_; rw [show labelB (ByteArray.data ⟨t.toArray⟩).toList = true from HB.out]; rintro e w' ⟨rfl, hb2⟩)
        go_roundw
        case rel => exact ⟨k + 1, hlt, by go_num, hbel.trans (hb2.mono hbel.size), Lib.hid (by
          intro j d hj hd
          by_cases e : j = k
          · subst e
            have := HK.out
            rw [this] at hd
            cases hd
            rw [HB.out]; rfl
          · exact hall.out j d (by omega) hd)⟩
        case measure => simp [intOf]; omega
    · go_wp2
      go_ret
      exact ⟨-1, rfl, by rw [anyT_no ws k (by omega) hall.out]; rfl, hbel⟩
theorem containsT_any (b n cap : Nat) (ws : List (List UInt8)) (w : World) (hn : ws.length = n) (h : TextsAt w b cap ws) :
    Calls Tryz.prog 155 #[.slice (some ⟨b, 0, none⟩) n cap, .func (.func 157) #[] #[]] w fun e w' => e = .returned (.bool (ws.any fun l => !labelB l)) ∧ Below w.heap.size w w' := by
  have HI := Lib.hid (idxT_any b n cap ws w hn h)
  clear h hn
  go_enter Tryz.func155, Tryz.ntmps155
  go_wp2_with (go_at_call 182; refine HI.out.mono ?_; rintro e w' ⟨i, rfl, hi, hb⟩; have HD := Lib.hid hi; clear hi)
  go_ret
  exact ⟨by rw [← HD.out]; rfl, hb⟩
/-- The library's variable holds a number. -/
def MaxAt (w : World) : Prop := ∃ m : Int, w.cell? ⟨0, 0, none⟩ = some (.int .i64 m)
theorem MaxAt.lt {w : World} (h : MaxAt w) : 0 < w.heap.size := by
  obtain ⟨m, h⟩ := h
  unfold World.cell? at h
  split at h
  · rename_i hh
    exact (Array.getElem?_eq_some_iff.1 hh).1
  · cases h
theorem MaxAt.below {w w' : World} (h : MaxAt w) (hb : Below w.heap.size w w') : MaxAt w' := by
  have := h.lt
  obtain ⟨m, h⟩ := h
  exact ⟨m, by rw [hb.cell (p := ⟨0, 0, none⟩) this]; exact h⟩
theorem split_textsAt (s : ByteArray) (w : World) (hs : s.size < 9223372036854775807) :
    TextsAt (w.alloc (.cells ((Lib.splitB ⟨#[46]⟩ 0 (Lib.countB s ⟨#[46]⟩) s).map Value.string).toArray 9)) w.heap.size (Lib.countB s ⟨#[46]⟩ + 1) (splitL 46 s.data.toList) := by
  rw [split_pieces, split_count]
  have hl := splitG_len 46 s.data.toList []
  refine ⟨by show w.heap.size < (w.heap.push _).size; simp, Nat.le_refl _, ?_, fun i l hi => ?_⟩
  · have : s.data.toList.length = s.size := rfl
    unfold splitL; omega
  · rw [World.cell?_alloc_new]
    simp only [List.getElem?_toArray, List.getElem?_map, hi]
    rfl
set_option maxHeartbeats 1000000 in
theorem isName_any (s : ByteArray) (w : World) (hm : MaxAt w) : Calls Tryz.prog 127 #[.string s] w fun e w' => e = .returned (.bool (nameB s.data.toList)) ∧ Below w.heap.size w w' := by
  have hl : s.data.toList.length = s.size := rfl
  by_cases h1 : s.size ≤ 253
  · have h1' : (s.size : Int) ≤ 253 := by omega
    obtain ⟨m, hm⟩ := hm
    have HS := Lib.hid (Tryz.strings_Split s ⟨#[46]⟩ m w (by omega) hm (Nat.le_refl 1))
    have HT := Lib.hid (split_textsAt s w (by omega))
    have HC := Lib.hid (split_count s 46).symm
    have hb : nameB s.data.toList = !((splitL 46 s.data.toList).any fun l => !labelB l) := by
      unfold nameB
      rw [decide_eq_true (by omega), Bool.true_and]
      simp [List.all_eq_not_any_not]
    rw [hb]
    clear hb hm hl
    go_enter Tryz.func127, Tryz.ntmps127
    go_wp2_with (first | (go_at_call 156; refine HS.out.mono ?_; rintro e w2 ⟨rfl, rfl⟩) | (go_at_call 155; refine (containsT_any _ _ _ _ _ HC.out HT.out).mono ?_; rintro e w2 ⟨rfl, hb⟩))
    go_ret
    exact ⟨rfl, ((Below.refl _ _).alloc (Nat.le_refl _) _).trans (hb.mono (by show w.heap.size ≤ (w.heap.push _).size; simp))⟩
  · have h1' : (253 : Int) < (s.size : Int) := by omega
    have hb : nameB s.data.toList = false := by unfold nameB; rw [decide_eq_false (by omega), Bool.false_and]
    rw [hb]
    clear hb
    go_enter Tryz.func127, Tryz.ntmps127
    go_wp2
    all_goals (go_ret; exact ⟨rfl, Below.refl _ _⟩)
set_option maxHeartbeats 1000000 in
theorem clean_any (s : ByteArray) (w : World) (hs : s.size ≤ maxLen) (hm : MaxAt w) : Calls Tryz.prog 98 #[.string s] w fun e w' => e = .returned (cleanV s.data.toList) ∧ Below w.heap.size w w' := by
  have HC := Lib.hid (Tryz.strings_CutSuffix s ⟨#[46]⟩ w (by unfold maxLen at hs; omega))
  have hbl : (bare s.data.toList).length ≤ maxLen := Nat.le_trans (bare_len _) hs
  have HF := Lib.hid (fun w => fold_any ⟨(bare s.data.toList).toArray⟩ w hbl)
  have HN := Lib.hid (fun w hm => isName_any ⟨(bare s.data.toList).toArray⟩ w hm)
  clear hbl hs
  cases hn : nameB (bare s.data.toList) with
  | true =>
    have hv : cleanV s.data.toList = .tuple #[.string ⟨((bare s.data.toList).map low).toArray⟩, .bool (isRoot s.data.toList), .bool true] := by unfold cleanV; rw [if_pos hn]
    rw [hv]
    have HB := Lib.hid hn
    clear hn hv
    go_enter Tryz.func98, Tryz.ntmps98
    go_wp2_with (first | (go_at_call 126; refine HC.out.mono ?_; rintro e w2 ⟨rfl, rfl⟩) | (go_at_call 127; refine (HN.out _ hm).mono ?_; rw [show nameB (ByteArray.data ⟨(bare s.data.toList).toArray⟩).toList = true from HB.out]; rintro e w2 ⟨rfl, hb⟩) | (go_at_call 128; refine (HF.out _).mono ?_; rintro e w3 ⟨rfl, hb3⟩))
    go_ret3
    exact ⟨rfl, hb.trans (hb3.mono hb.size)⟩
  | false =>
    have hv : cleanV s.data.toList = .tuple #[.string ⟨#[]⟩, .bool false, .bool false] := by unfold cleanV; rw [if_neg (by rw [hn]; decide)]
    rw [hv]
    have HB := Lib.hid hn
    clear hn hv
    go_enter Tryz.func98, Tryz.ntmps98
    go_wp2_with (first | (go_at_call 126; refine HC.out.mono ?_; rintro e w2 ⟨rfl, rfl⟩) | (go_at_call 127; refine (HN.out _ hm).mono ?_; rw [show nameB (ByteArray.data ⟨(bare s.data.toList).toArray⟩).toList = false from HB.out]; rintro e w2 ⟨rfl, hb⟩))
    go_ret3
    exact ⟨rfl, hb⟩
end Go.Proofs.YtogdkmkganpaaaaGreatDoor

namespace Go.Proofs.YtogdkmkganpaaaaGreatDoor
open Go.RowKit Go.Lib Go.Wi Go.Tx
theorem Wi.BA.str {w : World} {a : Option Addr} {n c : Nat} {m : List UInt8} (h : Go.Wi.BA w a n c m) : (convert 22 9 (.slice a n c)).run Tryz.prog w = .ok (.string ⟨m.toArray⟩) w := by
  cases a with
  | none =>
    have h0 := h.none rfl
    have h1 := h.cap
    have h2 := h.len
    obtain rfl : m = [] := List.eq_nil_of_length_eq_zero (by omega)
    obtain rfl : n = 0 := by omega
    rw [run_convert_bytes_string w 22 9 5 none 0 c Tryz.underlying22 Tryz.underlying5 Tryz.underlying9]
    rfl
  | some x =>
    have := run_convert_bytes_back (P := Tryz.prog) w 22 9 5 x c m Tryz.underlying22 Tryz.underlying5 Tryz.underlying9 (fun j hj => h.cell x rfl j _ (List.getElem?_eq_getElem hj))
    rw [h.len] at this
    exact this
def fitsB (k : Int) (m : List UInt8) : Bool := if k = 1 then decide (m.length = 4) else if k = 28 then decide (m.length = 16) else decide (m.length ≤ 256)
theorem fits_any (k : Int) (s : ByteArray) (w : World) : Calls Tryz.prog 215 #[.int .i64 k, .string s] w fun e w' => e = .returned (.bool (fitsB k s.data.toList)) ∧ w = w' := by
  have hl : s.data.toList.length = s.size := rfl
  by_cases h1 : k = 1
  · have HV : Hid (fitsB k s.data.toList = decide (s.size = 4)) := Lib.hid (by unfold fitsB; rw [if_pos h1, hl])
    subst h1
    clear hl
    go_enter Tryz.func215, Tryz.ntmps215
    go_wp2
    go_ret
    exact ⟨by rw [HV.out]; by_cases h : s.size = 4 <;> simp [h] <;> omega, rfl⟩
  by_cases h2 : k = 28
  · have HV : Hid (fitsB k s.data.toList = decide (s.size = 16)) := Lib.hid (by unfold fitsB; rw [if_neg h1, if_pos h2, hl])
    subst h2
    clear hl h1
    go_enter Tryz.func215, Tryz.ntmps215
    go_wp2
    go_ret
    exact ⟨by rw [HV.out]; by_cases h : s.size = 16 <;> simp [h] <;> omega, rfl⟩
  · have HV : Hid (fitsB k s.data.toList = decide (s.size ≤ 256)) := Lib.hid (by unfold fitsB; rw [if_neg h1, if_neg h2, hl])
    have e1 : (k == 1) = false := by rw [beq_eq_false_iff_ne]; exact h1
    have e2 : (k == 28) = false := by rw [beq_eq_false_iff_ne]; exact h2
    clear hl h1 h2
    go_enter Tryz.func215, Tryz.ntmps215
    go_wp2
    go_ret
    exact ⟨by rw [HV.out]; by_cases h : s.size ≤ 256 <;> simp [h] <;> omega, rfl⟩
end Go.Proofs.YtogdkmkganpaaaaGreatDoor

namespace Go.Wi
open Go.Tx
/-- The name that begins at a place: it, and where what follows begins. -/
def nameF (l : List UInt8) : Nat → Nat → Nat → List UInt8 → Nat → Option (List UInt8 × Nat)
  | 0, _, _, _, _ => none
  | f + 1, lo, i, whole, behind =>
    match l[i]? with
    | none => none
    | some z =>
      if 192 ≤ z.toNat then
        (match l[i + 1]? with
        | none => none
        | some y => if (z.toNat - 192) * 256 + y.toNat < min i lo then nameF l f ((z.toNat - 192) * 256 + y.toNat) ((z.toNat - 192) * 256 + y.toNat) whole (if behind = 0 then i + 2 else behind) else none)
      else if 0 < z.toNat then
        (if i + 1 + z.toNat ≤ l.length ∧ ¬ 46 ∈ tk l (i + 1) z.toNat ∧ (whole ++ tk l (i + 1) z.toNat ++ [46]).length ≤ 254 then nameF l f lo (i + 1 + z.toNat) (whole ++ tk l (i + 1) z.toNat ++ [46]) behind else none)
      else if nameB (bare whole) = true then some ((bare whole).map low, if 0 < behind then behind else i + 1) else none
end Go.Wi
namespace Go.Proofs.YtogdkmkganpaaaaGreatDoor
open Go.RowKit Go.Lib Go.Wi Go.Tx
structure NI (w : World) (p : Nat) (a : Option Addr) (n c : Nat) (l : List UInt8) (R : Option (List UInt8 × Nat)) (wr : World) (wh : ByteArray) (be lo : Nat) (i : Int) (bad : Bool) : Prop where
  rd : RD wr p a n c l i bad
  kp : Kp p w wr
  whs : wh.size ≤ 500
  bes : be ≤ 100000
  los : lo ≤ 100000
  no : bad = true → R = none
  go : bad = false → ∃ k : Nat, i = k ∧ k ≤ n ∧ lo ≤ n ∧ wh.size ≤ 254 ∧ be ≤ n ∧ ∃ f, R = nameF l f lo k wh.data.toList be ∧ lo * (n + 2) + (n + 1 - k) ≤ f
theorem NI.drawn {w : World} {p : Nat} {a : Option Addr} {n c : Nat} {l : List UInt8} {R : Option (List UInt8 × Nat)} {wr : World} {wh : ByteArray} {be lo : Nat} {i : Int} {bad : Bool} (h : NI w p a n c l R wr wh be lo i bad) (j : Nat) : NI w p a n c l R (wr.drewN j) wh be lo i bad :=
  ⟨h.rd.drawn j, h.kp.trans (Kp.drawn p wr j), h.whs, h.bes, h.los, h.no, h.go⟩
end Go.Proofs.YtogdkmkganpaaaaGreatDoor

namespace Go.Wi
/-- A block of the call's own, whatever it holds. -/
structure Rm (w : World) (b n : Nat) : Prop where
  lt : b < w.heap.size
  free : ∀ j, j < n → w.frozen? ⟨b, j, none⟩ = false
  held : ∀ j, j < n → ∃ v, w.cell? ⟨b, j, none⟩ = some v
  blk : ∃ arr e fr, w.heap[b]? = some (.cells arr e fr) ∧ arr.size = n
theorem block_set {w : World} {b k : Nat} {arr : Array Value} {e : TypeId} {fr : Nat × Nat} (h : w.heap[b]? = some (.cells arr e fr)) (v : Value) : (w.setCell ⟨b, k, none⟩ v).heap[b]? = some (.cells (arr.setIfInBounds k v) e fr) := by
  show (w.heap.modify b _)[b]? = _
  rw [Array.getElem?_modify]
  simp [h]
theorem arr4 (arr : Array Value) (h : arr.size = 4) (a b c d : Value) : (((arr.setIfInBounds 0 a).setIfInBounds 1 b).setIfInBounds 2 c).setIfInBounds 3 d = #[a, b, c, d] := by
  obtain ⟨l⟩ := arr
  match l, h with
  | [x0, x1, x2, x3], _ => rfl
theorem Rm.set4 {w : World} {b : Nat} (h : Rm w b 4) (v0 v1 v2 v3 : Value) : ∃ e fr, ((((w.setCell ⟨b, 0, none⟩ v0).setCell ⟨b, 1, none⟩ v1).setCell ⟨b, 2, none⟩ v2).setCell ⟨b, 3, none⟩ v3).heap[b]? = some (.cells #[v0, v1, v2, v3] e fr) := by
  obtain ⟨arr, e, fr, h1, h2⟩ := h.blk
  refine ⟨e, fr, ?_⟩
  rw [block_set (block_set (block_set (block_set h1 v0) v1) v2) v3, arr4 arr h2]
theorem Rm.kp {w w' : World} {p b n : Nat} (h : Rm w b n) (hk : Kp p w w') (hb : b ≠ p) : Rm w' b n :=
  ⟨Nat.lt_of_lt_of_le h.lt hk.size, fun j hj => by rw [World.frozen?_of_block (w := w) (hk.block b h.lt hb)]; exact h.free j hj, fun j hj => by rw [hk.cell (x := ⟨b, j, none⟩) h.lt hb]; exact h.held j hj, by
    obtain ⟨arr, e, fr, h1, h2⟩ := h.blk
    exact ⟨arr, e, fr, by rw [hk.block b h.lt hb]; exact h1, h2⟩⟩
theorem Rm.new (w : World) (arr : Array Value) (e : TypeId) (n : Nat) (h : arr.size = n) : Rm (w.alloc (.cells arr e)) w.heap.size n :=
  ⟨by show w.heap.size < (w.heap.push _).size; simp, fun j hj => World.frozen?_alloc_at arr e _ j rfl, fun j hj => by rw [World.cell?_alloc_new]; exact ⟨arr[j], by simp [h, hj]⟩, arr, e, _, heap_alloc_new w _, h⟩
structure Rec where
  name : List UInt8
  kind : Nat
  ttl : Nat
  data : List UInt8
def Rec.val (r : Rec) : Value := .agg #[.string ⟨r.name.toArray⟩, .int .i64 (r.kind : Int), .int .i64 (r.ttl : Int), .string ⟨r.data.toArray⟩]
end Go.Wi
namespace Go.Proofs.YtogdkmkganpaaaaGreatDoor
open Go.RowKit Go.Lib Go.Wi Go.Tx
end Go.Proofs.YtogdkmkganpaaaaGreatDoor

namespace Go.Wi
def chk (st : Option Nat) (b : Bool) : Option Nat := if b = true then st else none
/-- A reader in that state. -/
def RDS (w : World) (p : Nat) (a : Option Addr) (n c : Nat) (l : List UInt8) (st : Option Nat) : Prop :=
  match st with
  | some i => RD w p a n c l (i : Int) false ∧ i ≤ n
  | none => ∃ i, RD w p a n c l i true
theorem RDS.len {w : World} {p : Nat} {a : Option Addr} {n c : Nat} {l : List UInt8} {st : Option Nat} (h : RDS w p a n c l st) : l.length = n := by
  cases st with
  | some i => exact h.1.ba.len
  | none => obtain ⟨i, h⟩ := h; exact h.ba.len
/-- Whatever keeps a reader keeps it in its state. -/
theorem RDS.map {w w' : World} {p : Nat} {a : Option Addr} {n c : Nat} {l : List UInt8} {st : Option Nat} (h : RDS w p a n c l st) (f : ∀ i b, RD w p a n c l i b → RD w' p a n c l i b) : RDS w' p a n c l st := by
  cases st with
  | some i => exact ⟨f _ _ h.1, h.2⟩
  | none => obtain ⟨i, h⟩ := h; exact ⟨i, f _ _ h⟩
theorem RDS.bad {w : World} {p : Nat} {a : Option Addr} {n c : Nat} {l : List UInt8} {st : Option Nat} (h : RDS w p a n c l st) : ∃ i, RD w p a n c l i st.isNone := by
  cases st with
  | some i => exact ⟨_, h.1⟩
  | none => exact h
end Go.Wi
namespace Go.Proofs.YtogdkmkganpaaaaGreatDoor
open Go.RowKit Go.Lib Go.Wi Go.Tx
end Go.Proofs.YtogdkmkganpaaaaGreatDoor

