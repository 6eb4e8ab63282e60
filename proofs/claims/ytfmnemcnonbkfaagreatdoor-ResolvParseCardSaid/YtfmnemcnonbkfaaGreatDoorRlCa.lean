/- Contracts and plain facts that the law leans on. -/
import Derived.Test.YtfmnemcnonbkfaaGreatDoorEvC
import Derived.HandedShaped
import Derived.Lib.LaidU8
import Derived.Stop.LaidErr
import Derived.Shelf.Vars
import Derived.Lay
import Derived.SevenTiedAt
import Derived.ProofKit
import Derived.OpenShut
import Derived.Test.YtfmnemcnonbkfaaGreatDoorRows
import Derived.Test.YtfmnemcnonbkfaaGreatDoorShelf
import Derived.SliceStrings
import Derived.WideShapes
import Derived.Carry
import Derived.KernelRfl
import Derived.Lib.Strings
import Derived.Lib.Bytes
import Derived.Lib.SplitLaws
import Derived.Laws.RangeAny
import Derived.Shelf.GgClosure.StringsIndexFunc
import Derived.WalkKit
import Derived.Below
import Derived.Laws.IdiomStrings
import Derived.Laws.OwnMore
import Derived.Lib.Hide
import Derived.Lib.FieldsP
import Derived.Laws.RangeString
import Derived.LoopTactic
import Derived.Lib.BytesEntry
import Derived.Deep.QuietTactic
import Derived.BigQuiet
import Derived.ChangeAlike
import Derived.Test.YtfmnemcnonbkfaaGreatDoorEvB
import Derived.OwnWalk
import Derived.Lib.SlBytesConst
import Derived.Laws.CopyOwn
import Derived.Lib.IndexMore
import Derived.Test.YtfmnemcnonbkfaaGreatDoorChecked
import Derived.Laws.AppendOwnNone
import Derived.Deep.CutRange
namespace Go.Fr
open Go Go.Ev Go.RowKit Go.Lib
variable {H : Type} {enc : TypeId × Value → H}
theorem wrap {a : Assume} {C : Checked} {os : Os} {f : FuncId} {fn : Func} {s : ChangeSpec} {conds : List PathCond} {apart fresh handsOn again : Bool} {X : World → Array Value → Prop}
    (hX : ∀ (w w' : World) (args : Array Value), w.heap = w'.heap → X w args → X w' args)
    (own : ownKnob C.prog.godebug = none) (started : os.Started) (noInit : C.prog.inits.idxOf? f = none) (hfn : C.prog.funcs[f]? = some fn)
    (witness : ∃ (w : World) (tape : Tape) (i : Input), w.os = os ∧ (w.forCall tape i).Shaped C.prog ∧ i.vars = [] ∧ Input.okWide C.prog (w.forCall tape i) .any w.heap.size f i ∧
      ((s.pre enc C.prog fn conds apart (w.forCall tape i).memory i.args ∧ X (w.forCall tape i).memory i.args) ∧ sizedMet enc C.prog fn (OpenSpec.ofChange s) apart (w.forCall tape i).memory i.args) ∧ a.holds C.prog (lone (Frame.enter C.prog f i.args .normal) [] (w.forCall tape i)))
    (contract : ∀ (W : World) (base : Nat) (args : Array Value) (ds gs : List (DataW H)) (before : List MemPlace),
      (∀ (j : Nat) t v, fn.params[j]? = some t → args[j]? = some v → Value.okWide C.prog W .any base t v) →
      DataW.Whole enc C.prog fn.params.toList s.vars apart W args.toList ds gs before →
      conds.all (PathCond.test C.prog ⟨fn.params.toList, ds, s.plain.varTypes C.prog, gs⟩) = true →
      (DataW.weightsEach C.prog (fn.params.toList ++ s.plain.varTypes C.prog) (ds ++ gs)).all (· ≤ reachBytes) = true → X W args → W.ShapedOpen C.prog →
      Calls C.prog f args W fun e W' => ∃ v, e = .returned v ∧ s.post enc C.prog fn apart fresh handsOn again W args v W') :
    ReturnsInHanded a C os f .any (fun w args => (s.pre enc C.prog fn conds apart w args ∧ X w args) ∧ sizedMet enc C.prog fn (OpenSpec.ofChange s) apart w args) (s.post enc C.prog fn apart fresh handsOn again) := by
  refine returnsInHanded_of_calls own started noInit witness ?_
  intro w tape i _ hsh _ hok hpre hholds
  obtain ⟨_, _, _, fn', hfn', _, _, _, _, hval⟩ := hok
  have e : fn' = fn := Option.some.inj (hfn'.symm.trans hfn)
  subst e
  obtain ⟨⟨⟨ds, gs, before, hw, hc⟩, hx⟩, hz⟩ := hpre
  have hw' := DataW.Whole.of_heap (w' := w.forCall tape i) (by rfl) hw
  refine (contract (w.forCall tape i) w.heap.size i.args ds gs before hval hw' hc (hz.weights hw) (hX _ _ _ (by rfl) hx) hsh).mono fun e W' ⟨v, he, hp⟩ => ?_
  subst he
  exact ChangeSpec.post_blind hp
/-! ### What is known of package variables -/
def gL (l : List (Nat × List AV)) (b : Nat) : Option (List AV) :=
  match l with
  | [] => none
  | e :: l => match Nat.beq b e.1 with
    | true => some e.2
    | false => gL l b
/-- A variable holds these values. -/
def Has (W : World) (g : Nat) (l : List AV) : Prop :=
  ∃ arr elem fr, W.heap[g]? = some (.cells arr elem fr) ∧ ∃ vs, VRL (fun _ => none) l vs ∧ ∀ (i : Nat) v, vs[i]? = some v → arr[i]? = some v
theorem glo_nil {W : World} : GloOK (Bas.of W) (gL []) := fun b l e => by cases e
theorem glo_cons {W : World} {g : Nat} {x : List AV} {l : List (Nat × List AV)} (h : Has W g x) (hl : GloOK (Bas.of W) (gL l)) : GloOK (Bas.of W) (gL ((g, x) :: l)) := by
  intro b y e
  unfold gL at e
  split at e
  · rename_i hb
    have hb : b = g := Nat.eq_of_beq_eq_true hb
    cases e
    subst hb
    obtain ⟨arr, elem, fr, h1, h2⟩ := h
    exact ⟨(Array.getElem?_eq_some_iff.1 h1).1, arr, elem, fr, h1, h2⟩
  · exact hl b y e
theorem has_of_var {P : Program} {W : World} {n : String} {g : Nat} {cs : Array Value} {l : List AV} (hg : P.globalNamed n = some g) (hv : W.var? P n = some cs) (h : VRL (fun _ => none) l cs.toList) : Has W g l := by
  unfold World.var? at hv
  rw [hg] at hv
  simp only [Option.bind_some] at hv
  split at hv
  · rename_i arr elem fr hh
    cases hv
    exact ⟨_, _, _, hh, _, h, fun i v e => by simpa using e⟩
  · cases hv
theorem vrl_ints {k : IntKind} : ∀ (zs : List Int), VRL (fun _ => none) (zs.map fun z => AV.int k z) (zs.map fun z => Value.int k z)
  | [] => VRL.nil
  | _ :: zs => VRL.cons rfl (vrl_ints zs)
/-- A table of integers. -/
theorem has_tab {P : Program} {W : World} {n : String} {g t e m : Nat} {k : IntKind} {zs : List Int} (h : VarReads P W n (tabData k zs)) (hg : P.globalNamed n = some g) (hty : (P.globals[g]?).map (·.type) = some t)
    (ht : P.underlying t = some (.array m e)) (he : P.underlying e = some (.int k)) (hce : P.cellsOf e = 1) (hct : P.cellsOf t = m) : Has W g (zs.map fun z => AV.int k z) := by
  obtain ⟨g', t', cs, fuel, p, h1, h2, h3, h4⟩ := h
  obtain rfl := Option.some.inj (hg.symm.trans h1)
  obtain rfl := Option.some.inj (hty.symm.trans h2)
  refine has_of_var hg h3 ?_
  rw [cells_of_tab ht he hce hct h4]
  exact vrl_ints zs
/-- A sentinel error. -/
theorem has_sent {P : Program} {n nm : String} {text : List UInt8} {r : List (String × DataW Unit)} {W : World} {g : Nat} {ti tp te ts : TypeId} {ms : Array (String × TypeId)} {f : Field}
    (h : laidMet P ((n, .iface nm (.ptr (.agg [.lit (.string text)]))) :: r) W)
    (hg : P.globalNamed n = some g) (ht : (P.globals[g]?).map (·.type) = some ti) (hi : P.underlying ti = some (.interface ms)) (hrow : ∀ u, P.typeName? 3 u = some nm → u = tp)
    (hp : P.underlying tp = some (.pointer te)) (he : P.underlying te = some (.struct #[f])) (hft : f.type = ts) (hfo : f.offset = 0) (hs : P.underlying ts = some .string) (hc : P.cellsOf te = 1) (hcs : P.cellsOf ts = 1) :
    ∃ b o : Nat, Has W g [.iface tp (.glob b o)] := by
  obtain ⟨a, s, h1, h2, _, _⟩ := laid_sentinel h hg ht hi hrow hp he hft hfo hs hc hcs
  obtain ⟨b, o, sp⟩ := a
  have : sp = none := by
    unfold World.cell? at h2
    split at h2
    · split at h2
      · cases h2
      · rename_i hn; simpa using hn
    · cases h2
  subst this
  exact ⟨b, o, has_of_var hg h1 (VRL.cons ⟨_, rfl, rfl⟩ VRL.nil)⟩
end Go.Fr

namespace Go.Proofs.YtfmnemcnonbkfaaGreatDoor
open Go.RowKit Go.Ev Go.Fr Go.Lib Go.ChangeShapes
theorem fol : Tryz.prog.follows .mixedOrders = true := by kernel_rfl
theorem own : ownKnob Tryz.prog.godebug = none := by kernel_rfl
abbrev laidL : List (String × DataW Unit) := Rows.resolvParseRow.laid
noncomputable def exts : List (Nat × ExtK) := []
def tab6 : List Int := [0, 1, 28, 2, 29, 14, 24, 3, 30, 22, 20, 15, 25, 17, 4, 8, 31, 27, 13, 23, 21, 19, 16, 7, 26, 12, 18, 6, 11, 5, 10, 9]
def tab7 : List Int := [0, 1, 56, 2, 57, 49, 28, 3, 61, 58, 42, 50, 38, 29, 17, 4, 62, 47, 59, 36, 45, 43, 51, 22, 53, 39, 33, 30, 24, 18, 12, 5, 63, 55, 48, 27, 60, 41, 37, 16, 46, 35, 44, 21, 52, 32, 23, 11, 54, 26, 40, 15, 34, 20, 31, 10, 25, 14, 19, 9, 13, 8, 7, 6]
def tab5 : List Int := [1, 10, 100, 1000, 10000, 100000, 1000000, 10000000, 100000000, 1000000000, 10000000000, 100000000000, 1000000000000, 10000000000000, 100000000000000, 1000000000000000, 10000000000000000, 100000000000000000, 1000000000000000000, 10000000000000000000]
def glos (b1 o1 b2 o2 : Nat) : List (Nat × List AV) :=
  [(2, [.iface 129 (.glob b1 o1)]), (1, [.iface 129 (.glob b2 o2)]), (6, tab6.map fun z => .int .u8 z), (7, tab7.map fun z => .int .u8 z), (5, tab5.map fun z => .int .u64 z)]
/-- The reckoner's surroundings. -/
noncomputable def E0 (b1 o1 b2 o2 : Nat) : Env := { P := Tryz.prog, ext := extL exts, G := gL (glos b1 o1 b2 o2) }
theorem star : "*" ++ "errors.errorString" = "*errors.errorString" := by decide
theorem rowSent (u : TypeId) (h : Tryz.prog.typeName? 3 u = some "*errors.errorString") : u = 129 :=
  typeName_ptr_named (nm := "errors.errorString") (by rw [star]; kernel_rfl) (by kernel_rfl) (by decide) u (by rw [star]; exact h)
theorem fns (B : Bas) (W : World) (hB : B = Bas.of W) (hsh : W.ShapedOpen Tryz.prog) : FnsOK Tryz.prog B (extL exts) := by
  exact FnsOK.nil
theorem eok (W : World) (hL : laidMetH Tryz.prog laidL W) (hsh : W.ShapedOpen Tryz.prog) : ∃ b1 o1, ∃ b2 o2, EOK (E0 b1 o1 b2 o2) (Bas.of W) := by
  rw [MakeChecks.laidMetH_plain _ _ _ (by kernel_rfl)] at hL
  -- sentinels: types of variables looked up by hand if this fails
  have c_s : Tryz.prog.cellsOf 9 = 1 := by kernel_rfl
  have c_e : Tryz.prog.cellsOf 131 = 1 := by kernel_rfl
  obtain ⟨b1, o1, h2⟩ := has_sent (g := 2) hL.tail.tail.tail.tail (by kernel_rfl) (by kernel_rfl) Tryz.underlying83 rowSent Tryz.underlying129 Tryz.underlying131 rfl rfl Tryz.underlying9 c_e c_s
  obtain ⟨b2, o2, h1⟩ := has_sent (g := 1) hL.tail.tail.tail.tail.tail (by kernel_rfl) (by kernel_rfl) Tryz.underlying83 rowSent Tryz.underlying129 Tryz.underlying131 rfl rfl Tryz.underlying9 c_e c_s
  have h6 : Has W 6 (tab6.map fun z => .int .u8 z) := has_tab (Lib.laidMet.reads hL (n := "math/bits.deBruijn32tab") (d := tabData .u8 tab6) (.head _)) (by kernel_rfl) (by kernel_rfl) Tryz.underlying148 Tryz.underlying5 (by kernel_rfl) (by kernel_rfl)
  have h7 : Has W 7 (tab7.map fun z => .int .u8 z) := has_tab (Lib.laidMet.reads hL (n := "math/bits.deBruijn64tab") (d := tabData .u8 tab7) (.tail _ (.head _))) (by kernel_rfl) (by kernel_rfl) Tryz.underlying149 Tryz.underlying5 (by kernel_rfl) (by kernel_rfl)
  have h5 : Has W 5 (tab5.map fun z => .int .u64 z) := has_tab (Lib.laidMet.reads hL (n := "internal/strconv.uint64pow10") (d := tabData .u64 tab5) (.tail _ (.tail _ (.head _)))) (by kernel_rfl) (by kernel_rfl) Tryz.underlying143 Tryz.underlying81 (by kernel_rfl) (by kernel_rfl)
  exact ⟨b1, o1, b2, o2, extOK_nil, fns _ W rfl hsh, (glo_cons h2 (glo_cons h1 (glo_cons h6 (glo_cons h7 (glo_cons h5 glo_nil)))))⟩
end Go.Proofs.YtfmnemcnonbkfaaGreatDoor

namespace Go.Sl
open Go Go.RowKit Go.ChangeShapes Go.ChangeMaps Go.WideShapes
/-- A slice of texts that came in: all texts up to its capacity. -/
def IsStrs (w : World) (a : Option Addr) (n c : Nat) (ss : List ByteArray) : Prop :=
  (a = none ∧ n = 0 ∧ c = 0 ∧ ss = []) ∨ ∃ x, a = some x ∧ n ≤ c ∧ c ≤ maxLen ∧ ss.length = c ∧ (∀ i, i < ss.length → w.cell? (x.add i) = some (.string (ss.getD i ByteArray.empty))) ∧ ∀ s ∈ ss, s.size ≤ maxLen
/-- A slice of numbers that came in: all numbers up to its capacity. -/
def IsInts (k : IntKind) (w : World) (a : Option Addr) (n c : Nat) (zs : List Int) : Prop :=
  (a = none ∧ n = 0 ∧ c = 0 ∧ zs = []) ∨ ∃ x, a = some x ∧ n ≤ c ∧ c ≤ maxLen ∧ zs.length = c ∧ (∀ i, i < zs.length → w.cell? (x.add i) = some (.int k (zs.getD i 0))) ∧ ∀ z ∈ zs, (Lit.int k z).wf = true
theorem isStrs_of {H : Type} {enc : TypeId × Value → H} {P : Program} {w : World} {t e : TypeId} {a : Option Addr} {n c : Nat} {d : DataW H} {ps : List MemPlace} (ht : P.underlying t = some (.slice e)) (he : P.underlying e = some .string) (hc : P.cellsOf e = 1)
    (h : DataW.Trod enc P w 0 (fun _ => true) true t (.slice a n c) d ps) : ∃ ss, IsStrs w a n c ss := by
  obtain ⟨fuel, hf⟩ := h
  rcases open_strings ht he hc hf with ⟨hcs, _⟩ | ⟨x, l, c', ss, hcs, _, hl, hm, hz, _, hcell, hws⟩
  · simp [Value.cells] at hcs
    obtain ⟨rfl, rfl, rfl⟩ := hcs
    exact ⟨[], .inl ⟨rfl, rfl, rfl, rfl⟩⟩
  · simp [Value.cells] at hcs
    obtain ⟨rfl, rfl, rfl⟩ := hcs
    exact ⟨ss, .inr ⟨_, rfl, hl, hm, by simpa using hz, hcell, hws⟩⟩
theorem isInts_of {H : Type} {enc : TypeId × Value → H} {P : Program} {w : World} {t e : TypeId} {k : IntKind} {a : Option Addr} {n c : Nat} {d : DataW H} {ps : List MemPlace} (ht : P.underlying t = some (.slice e)) (he : P.underlying e = some (.int k)) (hc : P.cellsOf e = 1)
    (h : DataW.Trod enc P w 0 (fun _ => true) true t (.slice a n c) d ps) : ∃ zs, IsInts k w a n c zs := by
  obtain ⟨fuel, hf⟩ := h
  rcases open_ints ht he hc hf with ⟨hcs, _⟩ | ⟨x, l, c', ss, hcs, _, hl, hm, hz, _, hcell, hws⟩
  · simp [Value.cells] at hcs
    obtain ⟨rfl, rfl, rfl⟩ := hcs
    exact ⟨[], .inl ⟨rfl, rfl, rfl, rfl⟩⟩
  · simp [Value.cells] at hcs
    obtain ⟨rfl, rfl, rfl⟩ := hcs
    exact ⟨ss, .inr ⟨_, rfl, hl, hm, by simpa using hz, hcell, hws⟩⟩
end Go.Sl

namespace Go.Tx
/-- The pieces between the bytes c; 'cur': what stands ahead. -/
def splitG (c : UInt8) : List UInt8 → List UInt8 → List (List UInt8)
  | cur, [] => [cur]
  | cur, d :: l => if d = c then cur :: splitG c [] l else splitG c (cur ++ [d]) l
def splitL (c : UInt8) (l : List UInt8) : List (List UInt8) := splitG c [] l
theorem splitG_len (c : UInt8) : ∀ (l cur : List UInt8), 1 ≤ (splitG c cur l).length ∧ (splitG c cur l).length ≤ l.length + 1
  | [], cur => by simp [splitG]
  | d :: l, cur => by
    unfold splitG
    split
    · have := splitG_len c l []
      simp; omega
    · have := splitG_len c l (cur ++ [d])
      simp; omega
theorem stake_succ (l : List UInt8) (k : Nat) (b : UInt8) (h : l[k]? = some b) : l.take (k + 1) = l.take k ++ [b] := by
  have hk := (List.getElem?_eq_some_iff.1 h).1
  rw [List.take_succ_eq_append_getElem hk]
  rw [List.getElem?_eq_getElem hk] at h
  cases h
  rfl
theorem sdrop_cons (l : List UInt8) (k : Nat) (b : UInt8) (h : l[k]? = some b) : l.drop k = b :: l.drop (k + 1) := by
  have hk := (List.getElem?_eq_some_iff.1 h).1
  rw [List.drop_eq_getElem_cons hk]
  rw [List.getElem?_eq_getElem hk] at h
  cases h
  rfl
theorem splitG_step {l : List UInt8} {k F : Nat} {b c : UInt8} (h : l[k]? = some b) (hF : F ≤ k) (hb : ¬ b = c) : splitG c ((l.take k).drop F) (l.drop k) = splitG c ((l.take (k + 1)).drop F) (l.drop (k + 1)) := by
  have hk := (List.getElem?_eq_some_iff.1 h).1
  rw [sdrop_cons l k b h, splitG, if_neg hb, stake_succ l k b h, List.drop_append_of_le_length (by rw [List.length_take]; omega)]
theorem splitG_cut {l : List UInt8} {k F : Nat} {b c : UInt8} (h : l[k]? = some b) (hb : b = c) : splitG c ((l.take k).drop F) (l.drop k) = (l.take k).drop F :: splitG c ((l.take (k + 1)).drop (k + 1)) (l.drop (k + 1)) := by
  have e2 : (l.take (k + 1)).drop (k + 1) = [] := List.drop_of_length_le (by rw [List.length_take]; omega)
  rw [sdrop_cons l k b h, splitG, if_pos hb, e2]
theorem splitG_last {l : List UInt8} {n F : Nat} {c : UInt8} (h : l.length = n) : splitG c ((l.take n).drop F) (l.drop n) = [(l.take n).drop F] := by
  have e : l.drop n = [] := List.drop_of_length_le (by omega)
  rw [e]
  rfl
/-- A hexadecimal digit; -1: none. -/
def hexV (c : UInt8) : Int :=
  if 48 ≤ (c.toNat : Int) ∧ (c.toNat : Int) ≤ 57 then (c.toNat : Int) - 48
  else if 97 ≤ (c.toNat : Int) ∧ (c.toNat : Int) ≤ 102 then (c.toNat : Int) - 87
  else if 65 ≤ (c.toNat : Int) ∧ (c.toNat : Int) ≤ 70 then (c.toNat : Int) - 55
  else -1
theorem hexV_bd (c : UInt8) : -1 ≤ hexV c ∧ hexV c ≤ 15 := by
  unfold hexV
  split
  · omega
  · split
    · omega
    · split <;> omega
end Go.Tx
namespace Go.Tx
theorem splitG_mem (c : UInt8) : ∀ (l cur x : List UInt8), x ∈ splitG c cur l → x.length ≤ cur.length + l.length
  | [], cur, x, h => by simp [splitG] at h; subst h; simp
  | d :: l, cur, x, h => by
    unfold splitG at h
    split at h
    · rcases List.mem_cons.1 h with h | h
      · subst h; simp
      · have := splitG_mem c l [] x h
        simp at this ⊢; omega
    · have := splitG_mem c l (cur ++ [d]) x h
      simp at this ⊢; omega
end Go.Tx

namespace Go.Tx
def dig (c : UInt8) : Bool := decide (48 ≤ (c.toNat : Int)) && decide ((c.toNat : Int) ≤ 57)
def valF (n : Nat) (l : List UInt8) : Nat := l.foldl (fun n c => 10 * n + (c.toNat - 48)) n
/-- The number that digits write. -/
def val (l : List UInt8) : Nat := valF 0 l
theorem val_nil : val [] = 0 := rfl
theorem val_snoc (l : List UInt8) (c : UInt8) : val (l ++ [c]) = 10 * val l + (c.toNat - 48) := by simp [val, valF]
theorem valF_lt : ∀ (l : List UInt8) (n : Nat), (∀ c ∈ l, dig c = true) → valF n l < (n + 1) * 10 ^ l.length := by
  intro l
  induction l with
  | nil => intro n _; simp [valF]
  | cons c l ih =>
    intro n h
    have h1 := ih (10 * n + (c.toNat - 48)) fun d hd => h d (by simp [hd])
    have h2 := h c (by simp)
    simp only [dig, Bool.and_eq_true, decide_eq_true_eq] at h2
    have h3 : valF n (c :: l) = valF (10 * n + (c.toNat - 48)) l := rfl
    rw [h3, List.length_cons, Nat.pow_succ]
    refine Nat.lt_of_lt_of_le h1 ?_
    rw [Nat.mul_comm (10 ^ l.length) 10, ← Nat.mul_assoc]
    exact Nat.mul_le_mul_right _ (by omega)
theorem val_lt (l : List UInt8) (h : ∀ c ∈ l, dig c = true) : val l < 10 ^ l.length := by
  have := valF_lt l 0 h
  simpa [val] using this
theorem val_lt9 (l : List UInt8) (h : ∀ c ∈ l, dig c = true) (hl : l.length ≤ 9) : val l < 1000000000 := by
  have h1 := val_lt l h
  have h2 : 10 ^ l.length ≤ 10 ^ 9 := Nat.pow_le_pow_right (by omega) hl
  omega
theorem take_snoc (s : ByteArray) (k : Nat) (h : k < s.size) : s.data.toList.take (k + 1) = s.data.toList.take k ++ [s[k]] := by
  rw [List.take_succ_eq_append_getElem (by simpa using h)]; rfl
theorem val_step (s : ByteArray) (k : Nat) (h : k < s.size) (hd : dig s[k] = true) : ((val (s.data.toList.take (k + 1)) : Nat) : Int) = (val (s.data.toList.take k) : Int) * 10 + ((s[k].toNat : Int) - 48) := by
  rw [take_snoc s k h, val_snoc]
  simp only [dig, Bool.and_eq_true, decide_eq_true_eq] at hd
  omega
theorem all_step (s : ByteArray) (k : Nat) (h : k < s.size) : (s.data.toList.take (k + 1)).all dig = ((s.data.toList.take k).all dig && dig s[k]) := by
  rw [take_snoc s k h, List.all_append]; simp
theorem all_no (s : ByteArray) (k : Nat) (h : k < s.size) (hd : dig s[k] = false) : s.data.toList.all dig = false := by
  cases hh : s.data.toList.all dig with
  | false => rfl
  | true =>
    rw [List.all_eq_true] at hh
    have := hh s[k] (Array.mem_toList_iff.2 (Array.getElem_mem (xs := s.data) h))
    rw [hd] at this; cases this
theorem take_all (s : ByteArray) (k : Nat) (h : s.size ≤ k) : s.data.toList.take k = s.data.toList := List.take_of_length_le (by simpa using h)
theorem val_bd (s : ByteArray) (k : Nat) (h : (s.data.toList.take k).all dig = true) (h9 : s.size ≤ 9) : val (s.data.toList.take k) < 1000000000 := by
  refine val_lt9 _ (by rw [List.all_eq_true] at h; exact h) ?_
  rw [List.length_take]
  have : s.data.toList.length = s.size := rfl
  omega
theorem dig_of (c : UInt8) (h1 : 48 ≤ (c.toNat : Int)) (h2 : (c.toNat : Int) ≤ 57) : dig c = true := by simp [dig, h1, h2]
theorem dig_lo (c : UInt8) (h1 : (c.toNat : Int) < 48) : dig c = false := by
  have : ¬ (48 ≤ (c.toNat : Int)) := by omega
  simp [dig, this]
theorem dig_hi (c : UInt8) (h1 : 57 < (c.toNat : Int)) : dig c = false := by
  have : ¬ ((c.toNat : Int) ≤ 57) := by omega
  simp [dig, this]
/-- What Num answers. -/
def numBad (l : List UInt8) : Bool := l.isEmpty || decide (9 < l.length) || (l.head? == some 48 && decide (1 < l.length)) || !l.all dig
def numRes (l : List UInt8) (most : Int) : Int × Bool := if numBad l = true then (0, false) else if most < (val l : Int) then (0, false) else (val l, true)
theorem numRes_nil (l : List UInt8) (m : Int) (h : l = []) : numRes l m = (0, false) := by subst h; rfl
theorem numRes_len (l : List UInt8) (m : Int) (h : 9 < l.length) : numRes l m = (0, false) := by simp [numRes, numBad, h]
theorem numRes_zero (l : List UInt8) (m : Int) (h : 1 < l.length) (h2 : l.head? = some 48) : numRes l m = (0, false) := by simp [numRes, numBad, h, h2]
theorem numRes_no (l : List UInt8) (m : Int) (h : l.all dig = false) : numRes l m = (0, false) := by simp [numRes, numBad, h]
theorem numRes_ok (l : List UInt8) (m : Int) (h0 : 1 ≤ l.length) (h1 : l.length ≤ 9) (h2 : ¬ (l.head? = some 48 ∧ 1 < l.length)) (h3 : l.all dig = true) : numRes l m = if m < (val l : Int) then (0, false) else ((val l : Int), true) := by
  have : numBad l = false := by
    cases l with
    | nil => simp at h0
    | cons c l => simp [numBad, h3]; simp at h1 h2; exact ⟨h1, h2⟩
  simp [numRes, this]
/-! ### Folding -/
def low (c : UInt8) : UInt8 := if 65 ≤ (c.toNat : Int) ∧ (c.toNat : Int) ≤ 90 then UInt8.ofNat (c.toNat + 32) else c
def lowTake (k : Nat) (l : List UInt8) : List UInt8 := (l.take k).map low ++ l.drop k
theorem lowTake_zero (l : List UInt8) : lowTake 0 l = l := by simp [lowTake]
theorem lowTake_len (k : Nat) (l : List UInt8) : (lowTake k l).length = l.length := by simp [lowTake]; omega
theorem lowTake_all (k : Nat) (l : List UInt8) (h : l.length ≤ k) : lowTake k l = l.map low := by
  simp [lowTake, List.take_of_length_le h, List.drop_of_length_le h]
theorem lowTake_at (k : Nat) (l : List UInt8) (h : k < l.length) : (lowTake k l)[k]? = some l[k] := by
  unfold lowTake
  rw [List.getElem?_append_right (by simp; omega)]
  have : k - (List.map low (List.take k l)).length = 0 := by simp; omega
  rw [this, List.getElem?_drop]
  simp
theorem lowTake_step (k : Nat) (l : List UInt8) (h : k < l.length) : lowTake (k + 1) l = (lowTake k l).set k (low l[k]) := by
  apply List.ext_getElem?
  intro j
  rw [List.getElem?_set]
  have hlen : (lowTake k l).length = l.length := lowTake_len k l
  unfold lowTake
  rw [List.getElem?_append, List.getElem?_append]
  simp only [List.length_map, List.length_take, List.getElem?_map, List.getElem?_take, List.getElem?_drop, List.length_append, List.length_drop]
  by_cases hj : k = j
  · subst hj
    rw [if_pos (by omega), if_pos (by omega), if_pos rfl, if_pos (by omega)]
    simp [h]
  · rw [if_neg hj]
    by_cases hlt : j < k
    · rw [if_pos (by omega), if_pos (by omega), if_pos (by omega), if_pos (by omega)]
    · rw [if_neg (by omega), if_neg (by omega)]
      congr 1
      omega
theorem lowTake_skip (k : Nat) (l : List UInt8) (h : k < l.length) (hl : low l[k] = l[k]) : lowTake (k + 1) l = lowTake k l := by
  rw [lowTake_step k l h, hl]
  apply List.ext_getElem?
  intro j
  rw [List.getElem?_set]
  split
  · rename_i e
    subst e
    rw [lowTake_at k l h, lowTake_len, if_pos h]
  · rfl
theorem low_up (c : UInt8) (h1 : 65 ≤ (c.toNat : Int)) (h2 : (c.toNat : Int) ≤ 90) : ((low c).toNat : Int) = (c.toNat : Int) + 32 := by
  unfold low
  rw [if_pos ⟨h1, h2⟩]
  have : (c.toNat + 32) % 256 = c.toNat + 32 := by omega
  simp [this]
theorem low_lo (c : UInt8) (h1 : (c.toNat : Int) < 65) : low c = c := by unfold low; rw [if_neg (by omega)]
theorem low_hi (c : UInt8) (h1 : 90 < (c.toNat : Int)) : low c = c := by unfold low; rw [if_neg (by omega)]
end Go.Tx

namespace Go.Tx
open Go.Lib
/-! ### The library's pieces are the document's -/
def pre (x : List UInt8) : List (List UInt8) → List (List UInt8)
  | [] => []
  | h :: t => (x ++ h) :: t
theorem splitG_pre (c : UInt8) (x : List UInt8) : ∀ (l y : List UInt8), splitG c (x ++ y) l = pre x (splitG c y l)
  | [], y => by simp [splitG, pre]
  | d :: l, y => by
    unfold splitG
    split
    · rfl
    · rw [List.append_assoc, splitG_pre c x l (y ++ [d])]
theorem splitK_pre {b c : UInt8} (h : b ≠ c) (k : Nat) (l : List UInt8) : splitK [c] 0 k (b :: l) = pre [b] (splitK [c] 0 k l) := by
  cases k with
  | zero => rfl
  | succ k =>
    have hp : ([c] : List UInt8).isPrefixOf (b :: l) = false := by simp [List.isPrefixOf, Ne.symm h]
    have hix : index (b :: l) [c] = if index l [c] == -1 then -1 else index l [c] + 1 := by rw [index, hp]; simp
    unfold splitK
    by_cases hm : index l [c] = -1
    · rw [hix, hm]; simp [pre]
    · have hge := index_ge l [c]
      obtain ⟨j, hj⟩ : ∃ j : Nat, index l [c] = j := ⟨(index l [c]).toNat, by omega⟩
      have h1 : ((j : Int) == -1) = false := by rw [beq_eq_false_iff_ne]; omega
      have h2 : ((j : Int) + 1 == -1) = false := by rw [beq_eq_false_iff_ne]; omega
      have h3 : ((j : Int) + 1).toNat = j + 1 := by omega
      rw [hix, hj]
      simp [h1, h2, h3, pre]
theorem splitK_one (c : UInt8) : ∀ l : List UInt8, splitK [c] 0 (count l [c]) l = splitL c l
  | [] => by
    have : count ([] : List UInt8) [c] = 0 := by rw [count_one]; rfl
    rw [this]; rfl
  | b :: l => by
    by_cases h : b = c
    · subst h
      have hix : index (b :: l) [b] = 0 := by rw [index]; simp [List.isPrefixOf]
      rw [count_cons_eq, Nat.add_comm, splitK, hix, splitL, splitG, if_pos rfl]
      simp only [List.take_zero, List.length_singleton]
      have := splitK_one b l
      simpa [splitL] using this
    · rw [count_cons_ne b c l h, splitK_pre h, splitK_one c l, splitL, splitL, splitG, if_neg h]
      exact (splitG_pre c [b] l []).symm
theorem split_pieces (s : ByteArray) (c : UInt8) : (splitB ⟨#[c]⟩ 0 (countB s ⟨#[c]⟩) s).map Value.string = (splitL c s.data.toList).map fun l => Value.string ⟨l.toArray⟩ := by
  have h := splitB_data ⟨#[c]⟩ 0 (countB s ⟨#[c]⟩) s
  have h2 : countB s ⟨#[c]⟩ = count s.data.toList [c] := rfl
  rw [h2] at h ⊢
  have h3 := splitK_one c s.data.toList
  have h4 : (ByteArray.data ⟨#[c]⟩).toList = [c] := rfl
  rw [h4, h3] at h
  rw [← h, List.map_map]
  rfl
theorem split_count (s : ByteArray) (c : UInt8) : countB s ⟨#[c]⟩ + 1 = (splitL c s.data.toList).length := by
  have h := splitB_all ⟨#[c]⟩ (Nat.le_refl 1) 0 _ s rfl
  have h2 := congrArg List.length (split_pieces s c)
  simp only [List.length_map] at h2
  omega
/-! ### A rune that is foreign is a byte that is -/
theorem idxFrom_any (p : Nat → Bool) (hp : ∀ x, 128 ≤ x → p x = true) (s : ByteArray) : ∀ (f pos : Nat), s.size - pos ≤ f →
    decide (0 ≤ idxFuncFrom p true s f pos) = (s.data.toList.drop pos).any fun b => p b.toNat
  | 0, pos, h => by
    have e : s.data.toList.drop pos = [] := List.drop_of_length_le (by rw [← size_eq]; omega)
    simp [idxFuncFrom, e]
  | f + 1, pos, h => by
    unfold idxFuncFrom
    by_cases hlt : pos < s.size
    · rw [if_pos hlt]
      have hd : s.data.toList.drop pos = s[pos] :: s.data.toList.drop (pos + 1) := List.drop_eq_getElem_cons (by rw [← size_eq]; exact hlt)
      rw [hd, List.any_cons]
      by_cases ha : s[pos].toNat < 128
      · rw [decode_ascii s pos hlt ha]
        simp only
        by_cases hb : p s[pos].toNat = true
        · rw [if_pos hb, hb]; simp
        · have hb' : p s[pos].toNat = false := by simpa using hb
          rw [if_neg hb, hb', Bool.false_or]
          exact idxFrom_any p hp s f (pos + 1) (by omega)
      · obtain ⟨h1, h2⟩ := decode_high s pos hlt (by omega)
        rw [if_pos (hp _ h1), hp _ (by omega)]
        simp
    · have e : s.data.toList.drop pos = [] := List.drop_of_length_le (by rw [← size_eq]; omega)
      rw [if_neg hlt, e]; simp
theorem idx_anyR (p : Nat → Bool) (hp : ∀ x, 128 ≤ x → p x = true) (s : ByteArray) : decide (0 ≤ idxFunc p true s) = s.data.toList.any fun b => p b.toNat := by
  exact idxFrom_any p hp s s.size 0 (by omega)
/-! ### Names -/
/-- What labels are made of, by number. -/
def sign (x : Nat) : Bool := (decide (97 ≤ x) && decide (x ≤ 122)) || (decide (65 ≤ x) && decide (x ≤ 90)) || (decide (48 ≤ x) && decide (x ≤ 57)) || decide (x = 45) || decide (x = 95)
theorem sign_high (x : Nat) (h : 128 ≤ x) : sign x = false := by
  simp only [sign, Bool.or_eq_false_iff, Bool.and_eq_false_iff, decide_eq_false_iff_not]
  omega
def labelB (l : List UInt8) : Bool := decide (l ≠ []) && decide (l.length ≤ 63) && l.all fun b => sign b.toNat
def nameB (l : List UInt8) : Bool := decide (l.length ≤ 253) && (splitL 46 l).all labelB
/-- Without a point at its end. -/
def bare (l : List UInt8) : List UInt8 := trimSuffix l [46]
def isRoot (l : List UInt8) : Bool := hasSuffix l [46]
def cleanV (l : List UInt8) : Value := if nameB (bare l) = true then .tuple #[.string ⟨((bare l).map low).toArray⟩, .bool (isRoot l), .bool true] else .tuple #[.string ⟨#[]⟩, .bool false, .bool false]
theorem bare_len (l : List UInt8) : (bare l).length ≤ l.length := by
  unfold bare trimSuffix
  split
  · simp
  · exact Nat.le_refl _
theorem noLabel (l : List UInt8) : (decide (l = []) || (decide (63 < l.length) || l.any fun b => !sign b.toNat)) = !labelB l := by
  have h1 : (decide (63 < l.length)) = !decide (l.length ≤ 63) := by by_cases h : l.length ≤ 63 <;> simp [h] <;> omega
  have h2 : (l.any fun b => !sign b.toNat) = !(l.all fun b => sign b.toNat) := by simp [List.any_eq_not_all_not]
  rw [h1, h2]
  unfold labelB
  by_cases h : l = [] <;> simp [h]
end Go.Tx

namespace Go.Rb
open Go.RowKit
/-- Block b is a row of bytes of some capacity, of which the first are l. -/
def RowB (e : TypeId) (w : World) (b cap : Nat) (l : List UInt8) : Prop :=
  ∃ arr lo hi, w.heap[b]? = some (.cells arr e (lo, hi)) ∧ (cap ≤ lo ∨ hi = 0) ∧ arr.size = cap ∧ l.length ≤ cap ∧ ∀ (j : Nat) (c : UInt8), l[j]? = some c → arr[j]? = some (Value.int .u8 (c.toNat : Int))
theorem RowB.cell {e : TypeId} {w : World} {b cap : Nat} {l : List UInt8} (h : RowB e w b cap l) {j : Nat} {c : UInt8} (hj : l[j]? = some c) : w.cell? ⟨b, j, none⟩ = some (.int .u8 (c.toNat : Int)) := by
  obtain ⟨arr, lo, hi, h1, h2, h3, h4, h5⟩ := h
  unfold World.cell?
  rw [h1]
  simp only
  exact h5 j c hj
theorem RowB.frozen {e : TypeId} {w : World} {b cap : Nat} {l : List UInt8} (h : RowB e w b cap l) {j : Nat} (hj : j < cap) : w.frozen? ⟨b, j, none⟩ = false := by
  obtain ⟨arr, lo, hi, h1, h2, h3, h4, h5⟩ := h
  unfold World.frozen?
  rw [h1]
  simp only [Bool.and_eq_false_iff, decide_eq_false_iff_not]
  omega
theorem RowB.drew {e : TypeId} {w : World} {b cap : Nat} {l : List UInt8} (h : RowB e w b cap l) : RowB e w.drew b cap l := by
  obtain ⟨arr, lo, hi, h1, h2⟩ := h
  exact ⟨arr, lo, hi, h1, h2⟩
theorem RowB.set {e : TypeId} {w : World} {b cap : Nat} {l : List UInt8} (h : RowB e w b cap l) {j : Nat} (hj : j < l.length) (c : UInt8) : RowB e (w.setCell ⟨b, j, none⟩ (.int .u8 (c.toNat : Int))) b cap (l.set j c) := by
  obtain ⟨arr, lo, hi, h1, h2, h3, h4, h5⟩ := h
  have hb : b < w.heap.size := (Array.getElem?_eq_some_iff.1 h1).1
  refine ⟨arr.setIfInBounds j (.int .u8 (c.toNat : Int)), lo, hi, ?_, h2, by simpa using h3, by simpa using h4, fun i d hi => ?_⟩
  · show (w.heap.modify b _)[b]? = _
    rw [Array.getElem?_modify]
    simp [h1]
  · rw [List.getElem?_set] at hi
    rw [Array.getElem?_setIfInBounds]
    split at hi
    · rename_i e1
      subst e1
      rw [if_pos rfl, if_pos (by omega)]
      cases hi
      rfl
    · rename_i e1
      rw [if_neg e1]
      exact h5 i d hi
theorem RowB.alloc {e : TypeId} {w : World} {b cap : Nat} {l : List UInt8} (h : RowB e w b cap l) (o : Obj) : RowB e (w.alloc o) b cap l := by
  obtain ⟨arr, lo, hi, h1, h2⟩ := h
  have hb : b < w.heap.size := (Array.getElem?_eq_some_iff.1 h1).1
  exact ⟨arr, lo, hi, by show (w.heap.push o)[b]? = _; rw [Array.getElem?_push, if_neg (by omega)]; exact h1, h2⟩
theorem RowB.below {e : TypeId} {w w' : World} {b cap B : Nat} {l : List UInt8} (h : RowB e w b cap l) (hb : Below B w w') (hlt : b < B) : RowB e w' b cap l := by
  obtain ⟨arr, lo, hi, h1, h2⟩ := h
  exact ⟨arr, lo, hi, by rw [hb.block b hlt]; exact h1, h2⟩
theorem RowB.str {e : TypeId} {w : World} {b cap : Nat} {l : List UInt8} (h : RowB e w b cap l) {P : Program} {src dst : TypeId} (c : Nat) (hs : P.underlying src = some (.slice e)) (he : P.underlying e = some (.int .u8)) (hd : P.underlying dst = some .string) :
    (convert src dst (.slice (some ⟨b, 0, none⟩) l.length c)).run P w = .ok (.string ⟨l.toArray⟩) w :=
  run_convert_bytes_back w src dst e _ c l hs he hd fun j hj => by
    have ha : (⟨b, 0, none⟩ : Addr).add j = ⟨b, j, none⟩ := by unfold Addr.add; split <;> simp_all
    rw [ha]
    exact h.cell (List.getElem?_eq_getElem hj)
theorem RowB.made {P : Program} {src dst e : TypeId} (s : ByteArray) (w : World) (hs : P.underlying src = some .string) (hd : P.underlying dst = some (.slice e)) (he : P.underlying e = some (.int .u8)) :
    ∃ (cap : Nat) (o : Obj), (convert src dst (.string s)).run P w = .ok (.slice (some ⟨w.heap.size, 0, none⟩) s.size cap) (w.drew.alloc o) ∧ s.size ≤ cap ∧ RowB e (w.alloc o) w.heap.size cap s.data.toList := by
  have hge := grownCap_ge w s.size 0 e
  have hsz : s.data.size = s.size := rfl
  have hC : (bytesRow s (grownCap w s.size 0 e)).size = grownCap w s.size 0 e := by simp [bytesRow, hsz]; omega
  refine ⟨grownCap w s.size 0 e, _, run_bytes_of_string w src dst e s hs hd he, hge, _, _, _, heap_alloc_new w _, .inl (by rw [hC]; exact Nat.le_refl _), hC, by simpa [hsz] using hge, fun j c hj => ?_⟩
  have hj' : j < s.data.size := by
    have := (List.getElem?_eq_some_iff.1 hj).1
    simpa using this
  rw [bytesRow_at s _ j hj']
  rw [Array.getElem?_toList, Array.getElem?_eq_getElem hj'] at hj
  cases hj
  rfl
end Go.Rb

namespace Go.Tx
open Go.Lib
/-- One byte more: the word that stands open, and the words that are closed. -/
def stepW (p : Nat → Bool) (st : List UInt8 × List (List UInt8)) (c : UInt8) : List UInt8 × List (List UInt8) :=
  if p c.toNat = true then (if st.1 = [] then ([], st.2) else ([], st.2 ++ [st.1])) else (st.1 ++ [c], st.2)
def closeW (st : List UInt8 × List (List UInt8)) : List (List UInt8) := if st.1 = [] then st.2 else st.2 ++ [st.1]
/-- The words of bytes. -/
def wordsL (p : Nat → Bool) (l : List UInt8) : List (List UInt8) := closeW (l.foldl (stepW p) ([], []))
theorem take_size (s : ByteArray) : s.data.toList.take s.size = s.data.toList := List.take_of_length_le (Nat.le_refl _)
theorem stepW_nil {p : Nat → Bool} {u : List UInt8 × List (List UInt8)} {c : UInt8} (h : p c.toNat = true) (hu : u.1 = []) : stepW p u c = ([], u.2) := by simp [stepW, h, hu]
theorem stepW_end {p : Nat → Bool} {u : List UInt8 × List (List UInt8)} {c : UInt8} (h : p c.toNat = true) (hu : ¬ u.1 = []) : stepW p u c = ([], u.2 ++ [u.1]) := by simp [stepW, h, hu]
theorem stepW_in {p : Nat → Bool} {u : List UInt8 × List (List UInt8)} {c : UInt8} (h : ¬ p c.toNat = true) : stepW p u c = (u.1 ++ [c], u.2) := by simp [stepW, h]
theorem foldl_take_succ (p : Nat → Bool) (s : ByteArray) (k : Nat) (h : k < s.size) : (s.data.toList.take (k + 1)).foldl (stepW p) ([], []) = stepW p ((s.data.toList.take k).foldl (stepW p) ([], [])) s[k] := by
  rw [List.take_succ_eq_append_getElem (by simpa using h), List.foldl_append]
  rfl
/-- Spans and words tell the same. -/
def SameW (s : ByteArray) (pos : Nat) (st : Option Nat) (acc : List (Nat × Nat)) (u : List UInt8 × List (List UInt8)) : Prop :=
  (acc.map fun x => (s.extract x.1 x.2).data.toList) = u.2 ∧
  match st with
  | none => u.1 = []
  | some a => a < pos ∧ u.1 = (s.extract a pos).data.toList
theorem ext_list (s : ByteArray) (a b : Nat) : (s.extract a b).data.toList = (s.data.toList.take b).drop a := by
  simp [ByteArray.extract, ByteArray.copySlice, List.drop_take, List.extract]
theorem spans_words (p : Nat → Bool) (s : ByteArray) (ha : ∀ (k : Nat) (h : k < s.size), s[k].toNat < 128) : ∀ (f pos : Nat) (st : Option Nat) (acc : List (Nat × Nat)), pos ≤ s.size → s.size - pos ≤ f →
    SameW s pos st acc ((s.data.toList.take pos).foldl (stepW p) ([], [])) →
    SameW s s.size (spansFromP p s f pos st acc).2 (spansFromP p s f pos st acc).1 (s.data.toList.foldl (stepW p) ([], [])) := by
  intro f
  induction f with
  | zero =>
    intro pos st acc h1 h2 h3
    have : pos = s.size := by omega
    subst this
    simp only [spansFromP]
    rw [take_size] at h3
    exact h3
  | succ f ih =>
    intro pos st acc h1 h2 h3
    unfold spansFromP
    by_cases hp : pos < s.size
    · rw [if_pos hp, decode_ascii s pos hp (ha pos hp)]
      simp only
      have hstep := foldl_take_succ p s pos hp
      have hsnoc : ∀ a, a ≤ pos → (s.extract a (pos + 1)).data.toList = (s.extract a pos).data.toList ++ [s[pos]] := by
        intro a hle
        rw [ext_list, ext_list, List.take_succ_eq_append_getElem (by simpa using hp), List.drop_append_of_le_length (by simp; omega)]
        rfl
      obtain ⟨e1, e2⟩ := h3
      by_cases hc : p s[pos].toNat = true
      · rw [if_pos hc]
        cases st with
        | none =>
          simp only at e2 ⊢
          refine ih _ _ _ hp (by omega) ?_
          rw [hstep, stepW_nil hc e2]
          exact ⟨e1, rfl⟩
        | some a =>
          simp only at e2 ⊢
          refine ih _ _ _ hp (by omega) ?_
          have hne : ¬ ((s.data.toList.take pos).foldl (stepW p) ([], [])).1 = [] := by
            rw [e2.2, ext_list]
            intro hh
            have := congrArg List.length hh
            simp at this
            omega
          rw [hstep, stepW_end hc hne]
          refine ⟨?_, rfl⟩
          rw [List.map_append, e1, e2.2]
          rfl
      · rw [if_neg hc]
        cases st with
        | none =>
          simp only at e2 ⊢
          refine ih _ _ _ hp (by omega) ?_
          rw [hstep, stepW_in hc]
          refine ⟨e1, by omega, ?_⟩
          rw [e2, hsnoc pos (Nat.le_refl _), ext_list, List.drop_of_length_le (by simp; omega)]
        | some a =>
          simp only at e2 ⊢
          refine ih _ _ _ hp (by omega) ?_
          rw [hstep, stepW_in hc]
          refine ⟨e1, by omega, ?_⟩
          rw [e2.2, hsnoc a (by omega)]
    · have : pos = s.size := by omega
      subst this
      rw [if_neg hp]
      rw [take_size] at h3
      exact h3
theorem fields_words (p : Nat → Bool) (s : ByteArray) (ha : ∀ (k : Nat) (h : k < s.size), s[k].toNat < 128) : (goFieldsP p s).map (fun x => x.data.toList) = wordsL p s.data.toList := by
  have h := spans_words p s ha s.size 0 none [] (Nat.zero_le _) (by omega) ⟨rfl, rfl⟩
  unfold goFieldsP spansOfP wordsL closeW
  obtain ⟨e1, e2⟩ := h
  generalize spansFromP p s s.size 0 none [] = r at e1 e2
  obtain ⟨acc, st⟩ := r
  cases st with
  | none =>
    simp only at e1 e2
    rw [if_pos e2, ← e1]
    simp [closeSpans]
  | some a =>
    simp only at e1 e2
    have hne : ¬ (s.data.toList.foldl (stepW p) ([], [])).1 = [] := by
      rw [e2.2, ext_list]
      intro hh
      have := congrArg List.length hh
      simp at this
      omega
    rw [if_neg hne, ← e1, e2.2]
    simp [closeSpans]
end Go.Tx

namespace Go.Tx
open Go.RowKit
def blankN (x : Nat) : Bool := x == 32 || x == 9 || x == 13
def forB (c : UInt8) : Bool := decide (127 ≤ c.toNat) || (decide (c.toNat < 32) && !blankN c.toNat)
/-- A slice of bytes that reads as l. -/
structure BA (w : World) (a : Option Addr) (n c : Nat) (l : List UInt8) : Prop where
  len : l.length = n
  cap : n ≤ c
  max : c ≤ 9223372036854775807
  none : a = none → c = 0
  cell : ∀ x, a = some x → ∀ j b, l[j]? = some b → w.cell? (x.add j) = some (.int .u8 (b.toNat : Int))
theorem BA.below {w w' : World} {a : Option Addr} {n c : Nat} {l : List UInt8} (h : BA w a n c l) {B : Nat} (hb : Below B w w') (hlt : ∀ x, a = some x → x.block < B) : BA w' a n c l :=
  ⟨h.len, h.cap, h.max, h.none, fun x hx j b hj => by
    have hblk : (x.add j).block = x.block := by unfold Addr.add; split <;> rfl
    rw [hb.cell (by rw [hblk]; exact hlt x hx)]; exact h.cell x hx j b hj⟩
end Go.Tx
namespace Go.Proofs.YtfmnemcnonbkfaaGreatDoor
open Go.RowKit Go.Lib Go.Tx
theorem ret_bool {a b : Bool} (h : a = b) : Ending.returned (.bool a) = .returned (.bool b) := by rw [h]
theorem isBlank_any (x : Nat) (w : World) :
    Calls Tryz.prog 36 #[.int .i32 x] w fun e w' => e = .returned (.bool (blankN x)) ∧ w' = w := by
  by_cases h1 : x = 32
  · subst h1
    go_enter Tryz.func36, Tryz.ntmps36
    go_wp2
    all_goals (go_ret; exact ⟨rfl, rfl⟩)
  by_cases h2 : x = 9
  · subst h2
    go_enter Tryz.func36, Tryz.ntmps36
    go_wp2
    all_goals (go_ret; exact ⟨rfl, rfl⟩)
  by_cases h3 : x = 13
  · subst h3
    go_enter Tryz.func36, Tryz.ntmps36
    go_wp2
    all_goals (go_ret; exact ⟨rfl, rfl⟩)
  have e0 : blankN x = false := by simp [blankN, h1, h2, h3]
  have e1 : ((x : Int) == 32) = false := by rw [beq_eq_false_iff_ne]; omega
  have e2 : ((x : Int) == 9) = false := by rw [beq_eq_false_iff_ne]; omega
  have e3 : ((x : Int) == 13) = false := by rw [beq_eq_false_iff_ne]; omega
  clear h1 h2 h3
  have E0 := Lib.hid e0
  clear e0
  go_enter Tryz.func36, Tryz.ntmps36
  go_wp2
  all_goals (go_ret; exact ⟨ret_bool E0.out.symm, rfl⟩)
set_option maxRecDepth 100000 in
theorem isForeign_any (c : UInt8) (w : World) :
    Calls Tryz.prog 34 #[.int .u8 (c.toNat : Int)] w fun e w' => e = .returned (.bool (forB c)) ∧ w' = w := by
  by_cases h1 : 127 ≤ (c.toNat : Int)
  · have E0 : Hid (forB c = true) := Lib.hid (by have : 127 ≤ c.toNat := by omega
                                                 simp [forB, this])
    go_enter Tryz.func34, Tryz.ntmps34
    go_wp2
    all_goals (go_ret; exact ⟨ret_bool E0.out.symm, rfl⟩)
  by_cases h2 : (c.toNat : Int) < 32
  · have E0 : Hid (forB c = !blankN c.toNat) := Lib.hid (by have a1 : ¬ 127 ≤ c.toNat := by omega
                                                            have a2 : c.toNat < 32 := by omega
                                                            simp [forB, a1, a2])
    have h3 : (c.toNat : Int) < 127 := by omega
    clear h1
    go_enter Tryz.func34, Tryz.ntmps34
    go_wp2_with (go_at_call 36; refine (isBlank_any c.toNat _).mono ?_; rintro e w' ⟨rfl, rfl⟩)
    all_goals (go_ret; exact ⟨ret_bool (by rw [E0.out, show decide (127 ≤ (c.toNat : Int)) = false from by rw [decide_eq_false_iff_not]; omega]; rfl), rfl⟩)
  · have E0 : Hid (forB c = false) := Lib.hid (by have a1 : ¬ 127 ≤ c.toNat := by omega
                                                  have a2 : ¬ c.toNat < 32 := by omega
                                                  simp [forB, a1, a2])
    have h3 : (c.toNat : Int) < 127 := by omega
    have h4 : 32 ≤ (c.toNat : Int) := by omega
    clear h1 h2
    go_enter Tryz.func34, Tryz.ntmps34
    go_wp2
    all_goals (go_ret; exact ⟨ret_bool (by rw [E0.out, decide_eq_false_iff_not]; omega), rfl⟩)
end Go.Proofs.YtfmnemcnonbkfaaGreatDoor

namespace Go.Tx
open Go.Lib
def hashCut (l : List UInt8) : List UInt8 := l.takeWhile (· != 35)
theorem hashCut_eq (l : List UInt8) : hashCut l = if 0 ≤ indexByte l 35 then l.take (indexByte l 35).toNat else l := by
  induction l with
  | nil => simp [hashCut, indexByte]
  | cons c l ih =>
    have hge := indexByte_ge l 35
    unfold hashCut at ih ⊢
    by_cases hc : c = 35
    · subst hc; simp [indexByte]
    · have hb : (c == 35) = false := beq_eq_false_iff_ne.2 hc
      have hb2 : (c != 35) = true := by simp [hc]
      simp only [List.takeWhile_cons, hb2, if_true, indexByte, hb, Bool.false_eq_true, if_false]
      rw [ih]
      by_cases hr : 0 ≤ indexByte l 35
      · have h1 : (indexByte l 35 == -1) = false := beq_eq_false_iff_ne.2 (by omega)
        have h2 : (indexByte l 35 + 1).toNat = (indexByte l 35).toNat + 1 := by omega
        have h3 : 0 ≤ indexByte l 35 + 1 := by omega
        simp [hr, h1, h2, h3]
      · have h1 : (indexByte l 35 == -1) = true := by simp; omega
        simp [hr, h1]
theorem hashCut_snoc (l : List UInt8) (c : UInt8) : hashCut (l ++ [c]) = if (35 : UInt8) ∈ l ∨ c = 35 then hashCut l else l ++ [c] := by
  unfold hashCut
  induction l with
  | nil =>
    by_cases hc : c = 35 <;> simp [hc]
  | cons d l ih =>
    by_cases hd : d = 35
    · subst hd; simp
    · have hd' : ¬ (35 : UInt8) = d := fun h => hd h.symm
      have hb2 : (d != 35) = true := by simp [hd]
      simp only [List.cons_append, List.takeWhile_cons, hb2, if_true, ih, List.mem_cons, hd', false_or]
      split <;> rfl
theorem hashCut_none (l : List UInt8) (h : ¬ (35 : UInt8) ∈ l) : hashCut l = l := by
  unfold hashCut
  induction l with
  | nil => rfl
  | cons d l ih =>
    simp only [List.mem_cons, not_or] at h
    have hb2 : (d != 35) = true := by simp; exact fun h' => h.1 h'.symm
    simp only [List.takeWhile_cons, hb2, if_true, ih h.2]
def badSeg (l : List UInt8) : Bool := decide (512 < l.length) || l.any forB
def wordsOf (l : List UInt8) : List (List UInt8) := if badSeg l = true then [] else wordsL blankN (hashCut l)
theorem wordsOf_nil : wordsOf [] = [] := by decide
def tell (no : Nat) (l : List UInt8) : List (Nat × List (List UInt8)) := if wordsOf l = [] then [] else [(no, wordsOf l)]
/-- The lines that are told; 'cur': what stands ahead in the line. -/
def toldG : Nat → List UInt8 → List UInt8 → List (Nat × List (List UInt8))
  | no, cur, [] => tell no cur
  | no, cur, c :: l => if c = 10 then tell no cur ++ toldG (no + 1) [] l else toldG no (cur ++ [c]) l
theorem toldG_nl (i : Nat) : ∀ (l : List UInt8) (no : Nat) (cur : List UInt8), indexByte l 10 = i → toldG no cur l = tell no (cur ++ l.take i) ++ toldG (no + 1) [] (l.drop (i + 1)) := by
  induction i with
  | zero =>
    intro l no cur h
    cases l with
    | nil => simp [indexByte] at h
    | cons c l =>
      have hge := indexByte_ge l 10
      by_cases hc : c = 10
      · simp [toldG, hc]
      · have hb : (c == 10) = false := beq_eq_false_iff_ne.2 hc
        simp only [indexByte, hb, Bool.false_eq_true, if_false] at h
        split at h
        · cases h
        · rename_i h1
          have h1 : ¬ indexByte l 10 = -1 := by simpa using h1
          simp at h
          omega
  | succ i ih =>
    intro l no cur h
    cases l with
    | nil => simp [indexByte] at h; omega
    | cons c l =>
      by_cases hc : c = 10
      · subst hc; simp [indexByte] at h; omega
      · have hb : (c == 10) = false := beq_eq_false_iff_ne.2 hc
        simp only [indexByte, hb, Bool.false_eq_true, if_false] at h
        split at h
        · omega
        · have h' : indexByte l 10 = (i : Int) := by omega
          rw [toldG, if_neg hc, ih l no (cur ++ [c]) h']
          simp
theorem toldG_no : ∀ (l : List UInt8) (no : Nat) (cur : List UInt8), indexByte l 10 < 0 → toldG no cur l = tell no (cur ++ l) := by
  intro l
  induction l with
  | nil => intro no cur _; simp [toldG]
  | cons c l ih =>
    intro no cur h
    have hge := indexByte_ge l 10
    by_cases hc : c = 10
    · subst hc; simp [indexByte] at h
    · have hb : (c == 10) = false := beq_eq_false_iff_ne.2 hc
      simp only [indexByte, hb, Bool.false_eq_true, if_false] at h
      have h' : indexByte l 10 < 0 := by
        split at h
        · rename_i h1; have : indexByte l 10 = -1 := by simpa using h1
          omega
        · omega
      rw [toldG, if_neg hc, ih no (cur ++ [c]) h']
      simp
end Go.Tx

namespace Go.Proofs.YtfmnemcnonbkfaaGreatDoor
open Go.RowKit Go.Lib Go.Tx Go.Proofs
theorem slcut_no (s : ByteArray) (w : World) (hs : s.size ≤ 4294967296) (hi : Lib.indexByte s.data.toList 35 < 0) :
    Calls Tryz.prog 43 #[.string s, .string ⟨#[35]⟩] w fun e w' => e = .returned (.tuple #[.string s, .string ⟨#[]⟩, .bool false]) ∧ w' = w := by
  go_enter Tryz.func43, Tryz.ntmps43
  go_wp2_with (go_at_call 63; refine (Tryz.stringslite_Index_one s 35 _).mono ?_; rintro e w' ⟨rfl, rfl⟩)
  go_ret3
  exact ⟨rfl, rfl⟩
theorem slcut_yes (s : ByteArray) (i : Nat) (w : World) (hs : s.size ≤ 4294967296) (hi : Lib.indexByte s.data.toList 35 = i) (hlt : i < s.size) :
    Calls Tryz.prog 43 #[.string s, .string ⟨#[35]⟩] w fun e w' => e = .returned (.tuple #[.string (s.extract 0 i), .string (s.extract (i + 1) s.size), .bool true]) ∧ ∃ q, w' = w.drewN q := by
  go_enter Tryz.func43, Tryz.ntmps43
  go_wp2_with (go_at_call 63; refine (Tryz.stringslite_Index_one s 35 _).mono ?_; rintro e w' ⟨rfl, rfl⟩)
  go_quiet (fail)
  go_wp2
  go_ret3
  exact ⟨rfl, _, rfl⟩
def CutR (s : ByteArray) (w : World) (e : Ending) (w' : World) : Prop := ∃ x y, e = .returned (.tuple #[.string ⟨(hashCut s.data.toList).toArray⟩, x, y]) ∧ ∃ q, w' = w.drewN q
theorem ret_cut {s t : ByteArray} {x y : Value} (h : s = t) : Ending.returned (.tuple #[.string s, x, y]) = .returned (.tuple #[.string t, x, y]) := by rw [h]
theorem indexByte_lt (l : List UInt8) (c : UInt8) : Lib.indexByte l c < l.length ∨ l = [] := by
  induction l with
  | nil => exact .inr rfl
  | cons d l ih =>
    left
    unfold Lib.indexByte
    have hge := Lib.indexByte_ge l c
    split
    · simp
    · split
      · simp; omega
      · rcases ih with h | h
        · simp; omega
        · subst h; simp [Lib.indexByte] at *
theorem slcut_any (s : ByteArray) (w : World) (hs : s.size ≤ 4294967296) : Calls Tryz.prog 43 #[.string s, .string ⟨#[35]⟩] w (CutR s w) := by
  have hl : s.data.toList.length = s.size := rfl
  by_cases hi : Lib.indexByte s.data.toList 35 < 0
  · refine (slcut_no s w hs hi).mono ?_
    rintro e w' ⟨rfl, rfl⟩
    refine ⟨_, _, ret_cut ?_, 0, rfl⟩
    rw [hashCut_eq, if_neg (by omega)]
  · have hlt := indexByte_lt s.data.toList 35
    have hlt : (Lib.indexByte s.data.toList 35).toNat < s.size := by
      rcases hlt with h | h
      · omega
      · rw [h] at hi; simp [Lib.indexByte] at hi
    refine (slcut_yes s (Lib.indexByte s.data.toList 35).toNat w hs (by omega) hlt).mono ?_
    rintro e w' ⟨rfl, q, rfl⟩
    refine ⟨_, _, ret_cut ?_, q, rfl⟩
    rw [hashCut_eq, if_pos (by omega)]
    have : s.extract 0 (Lib.indexByte s.data.toList 35).toNat = ⟨(s.data.toList.take (Lib.indexByte s.data.toList 35).toNat).toArray⟩ := by
      have := ext_list s 0 (Lib.indexByte s.data.toList 35).toNat
      rw [List.drop_zero] at this
      rw [← this]
    rw [this]
theorem scut_any (s : ByteArray) (w : World) (hs : s.size ≤ 4294967296) : Calls Tryz.prog 23 #[.string s, .string ⟨#[35]⟩] w (CutR s w) := by
  go_enter Tryz.func23, Tryz.ntmps23
  go_wp2_with (go_at_call 43; refine (slcut_any s _ hs).mono ?_; rintro e w' ⟨x, y, rfl, q, rfl⟩)
  go_ret3
  exact ⟨_, _, rfl, q, rfl⟩
def IdxR (l : List UInt8) (w : World) (e : Ending) (w' : World) : Prop := ∃ r : Int, e = .returned (.int .i64 r) ∧ (decide (0 ≤ r) = l.any forB) ∧ w' = w
theorem any_no (l : List UInt8) (k : Nat) (hk : l.length ≤ k) (h : ∀ j b, j < k → l[j]? = some b → forB b = false) : l.any forB = false := by
  rw [List.any_eq_false]
  intro b hb
  obtain ⟨j, hj, rfl⟩ := List.getElem_of_mem hb
  rw [h j _ (by omega) (List.getElem?_eq_getElem hj)]
  simp
theorem any_yes (l : List UInt8) (k : Nat) (b : UInt8) (hk : l[k]? = some b) (h : forB b = true) : l.any forB = true := by
  rw [List.any_eq_true]
  exact ⟨b, List.mem_of_getElem? hk, h⟩
set_option maxHeartbeats 1000000 in
set_option maxRecDepth 100000 in
theorem idx_any (a : Option Addr) (n c : Nat) (l : List UInt8) (w : World) (h : BA w a n c l) :
    Calls Tryz.prog 52 #[.slice a n c, .func (.func 34) #[] #[]] w (IdxR l w) := by
  have hcap := h.cap
  have hmax := h.max
  have hlen := h.len
  go_enter Tryz.func52, Tryz.ntmps52
  go_wp2
  go_loop [8] (fun i => ∃ k : Nat, k ≤ n ∧ i = .int .i64 k ∧ Hid (∀ j b, j < k → l[j]? = some b → forB b = false)) (fun i => n - (intOf i).toNat)
  case atStart => exact ⟨0, Nat.zero_le _, rfl, Lib.hid (by omega)⟩
  case round =>
    obtain ⟨k, hk, rfl, hall⟩ := hrel
    by_cases hlt : k < n
    · have hkl : k < l.length := by omega
      obtain ⟨x, rfl⟩ : ∃ x, a = some x := by
        cases a with
        | none => have := h.none rfl; omega
        | some x => exact ⟨x, rfl⟩
      have hcell := h.cell x rfl k l[k] (List.getElem?_eq_getElem hkl)
      have HK := Lib.hid (List.getElem?_eq_getElem hkl)
      clear hlen
      generalize l[k] = b at hcell HK
      cases hb : forB b with
      | true =>
        have HB := Lib.hid hb
        clear hb
        go_wp2_with (go_at_call 34; refine (isForeign_any b _).mono ?_; rw [HB.out]; rintro e w' ⟨rfl, rfl⟩)
        go_ret
        exact ⟨k, rfl, by rw [any_yes l k b HK.out HB.out]; simp, rfl⟩
      | false =>
        have HB := Lib.hid hb
        clear hb
        go_wp2_with (go_at_call 34; refine (isForeign_any b _).mono ?_; rw [HB.out]; rintro e w' ⟨rfl, rfl⟩)
        go_round
        case rel => exact ⟨k + 1, hlt, by go_num, Lib.hid (by
          intro j d hj hd
          by_cases e : j = k
          · subst e
            have := HK.out
            rw [this] at hd
            cases hd
            exact HB.out
          · exact hall.out j d (by omega) hd)⟩
        case measure => simp [intOf]; omega
    · go_wp2
      go_ret
      exact ⟨-1, rfl, by rw [any_no l k (by omega) hall.out]; rfl, rfl⟩
end Go.Proofs.YtfmnemcnonbkfaaGreatDoor

namespace Go.Tx
/-- A slice of texts that reads as ws: nil, or a row from block B on. -/
def Strs (B : Nat) (w : World) (v : Value) (ws : List (List UInt8)) : Prop :=
  (v = .slice none 0 0 ∧ ws = []) ∨
  ∃ A, v = .slice (some ⟨A, 0, none⟩) ws.length ws.length ∧ B ≤ A ∧ w.ownsRow B 9 1 v ws.length (ws.map fun l => .string ⟨l.toArray⟩)
end Go.Tx
namespace Go.Proofs.YtfmnemcnonbkfaaGreatDoor
open Go.RowKit Go.Lib Go.Tx Go.Proofs
theorem cf_any (a : Option Addr) (n c : Nat) (l : List UInt8) (w : World) (h : BA w a n c l) :
    Calls Tryz.prog 33 #[.slice a n c, .func (.func 34) #[] #[]] w fun e w' => e = .returned (.bool (l.any forB)) ∧ w' = w := by
  go_enter Tryz.func33, Tryz.ntmps33
  go_wp2_with (go_at_call 52; refine (idx_any a n c l _ h).mono ?_; rintro e w' ⟨r, rfl, hr, rfl⟩)
  go_ret
  exact ⟨rfl, rfl⟩
theorem ba_str (a : Option Addr) (n c : Nat) (l : List UInt8) (w : World) (h : BA w a n c l) : (convert 22 9 (.slice a n c)).run Tryz.prog w = .ok (.string ⟨l.toArray⟩) w := by
  have hlen := h.len
  cases a with
  | none =>
    have := h.none rfl
    have hcap := h.cap
    obtain rfl : c = 0 := by omega
    obtain rfl : n = 0 := by omega
    obtain rfl : l = [] := List.eq_nil_of_length_eq_zero hlen
    rw [run_convert_bytes_string w 22 9 5 none 0 0 Tryz.underlying22 Tryz.underlying5 Tryz.underlying9]
    rfl
  | some x =>
    subst hlen
    exact run_convert_bytes_back w 22 9 5 x c l Tryz.underlying22 Tryz.underlying5 Tryz.underlying9 fun j hj => h.cell x rfl j _ (List.getElem?_eq_getElem hj)
def WordsR (w : World) (ws : List (List UInt8)) (e : Ending) (w' : World) : Prop := ∃ v, e = .returned v ∧ Strs w.heap.size w' v ws ∧ Below w.heap.size w w'
theorem blank_pays (w : World) : PredAt Tryz.prog 36 #[] encR blankN w := fun W x _ => by
  unfold FnGives
  refine (isBlank_any x W).mono ?_
  rintro e w' ⟨rfl, rfl⟩
  exact ⟨rfl, 0, rfl⟩
theorem enter72 (args : Array Value) (w : World) : (callFunc 36 args).run Tryz.prog w = .ok (.enter 36 args) w := Go.Ev.enters_run (by kernel_rfl) args w
theorem ff_any (l : List UInt8) (w : World) (hl : l.length ≤ 512) (ha : ∀ b ∈ l, forB b = false) :
    Calls Tryz.prog 35 #[.string ⟨l.toArray⟩, .func (.func 36) #[] #[]] w (WordsR w (wordsL blankN l)) := by
  refine (Tryz.strings_FieldsFunc 36 #[] enter72 blankN ⟨l.toArray⟩ w (by show l.toArray.size ≤ _; simp; omega) (blank_pays w)).mono ?_
  rintro e w' ⟨A, rfl, hA, hown, hb⟩
  have hf := fields_words blankN ⟨l.toArray⟩ (fun k h => by
    have hk : k < l.length := by have h2 : k < l.toArray.size := h; simpa using h2
    have := ha l[k] (List.getElem_mem hk)
    have h2 : l[k].toNat < 127 := by
      simp only [forB, Bool.or_eq_false_iff, decide_eq_false_iff_not] at this
      omega
    show l.toArray[k].toNat < 128
    simp; omega)
  have hg : (goFieldsP blankN ⟨l.toArray⟩).map Value.string = (wordsL blankN l).map fun l => Value.string ⟨l.toArray⟩ := by
    have h1 : (⟨l.toArray⟩ : ByteArray).data.toList = l := by simp
    rw [h1] at hf
    rw [← hf, List.map_map]
    apply List.map_congr_left
    intro x _
    simp
  have hlen : (goFieldsP blankN ⟨l.toArray⟩).length = (wordsL blankN l).length := by
    have := congrArg List.length hg
    simpa using this
  rw [hg, hlen] at hown
  rw [hlen]
  exact ⟨_, rfl, .inr ⟨A, rfl, hA, hown⟩, hb⟩
theorem words_long (a : Option Addr) (n c : Nat) (l : List UInt8) (w : World) (h : BA w a n c l) (hn : 512 < n) :
    Calls Tryz.prog 20 #[.slice a n c] w (WordsR w (wordsOf l)) := by
  have hb : Hid (wordsOf l = []) := Lib.hid (by have := h.len; simp [wordsOf, badSeg, this, hn])
  have hcap := h.cap
  have hmax := h.max
  go_enter Tryz.func20, Tryz.ntmps20
  go_wp2
  go_ret
  exact ⟨_, rfl, .inl ⟨rfl, hb.out⟩, Below.refl _ _⟩
theorem words_bad (a : Option Addr) (n c : Nat) (l : List UInt8) (w : World) (h : BA w a n c l) (hn : n ≤ 512) (hf : l.any forB = true) :
    Calls Tryz.prog 20 #[.slice a n c] w (WordsR w (wordsOf l)) := by
  have hb : Hid (wordsOf l = []) := Lib.hid (by simp [wordsOf, badSeg, hf])
  have HF := Lib.hid hf
  clear hf
  go_enter Tryz.func20, Tryz.ntmps20
  go_wp2_with (go_at_call 33; refine (cf_any a n c l _ h).mono ?_; rw [HF.out]; rintro e w' ⟨rfl, rfl⟩)
  go_ret
  exact ⟨_, rfl, .inl ⟨rfl, hb.out⟩, Below.refl _ _⟩
theorem cut_any (l : List UInt8) (w : World) (hl : l.length ≤ 512) : Calls Tryz.prog 23 #[.string ⟨l.toArray⟩, .string ⟨#[35]⟩] w fun e w' => ∃ x y, e = .returned (.tuple #[.string ⟨(hashCut l).toArray⟩, x, y]) ∧ ∃ q, w' = w.drewN q := by
  refine (scut_any ⟨l.toArray⟩ w (by show l.toArray.size ≤ _; simp; omega)).mono ?_
  rintro e w' ⟨x, y, rfl, q, rfl⟩
  exact ⟨x, y, by simp, q, rfl⟩
theorem takeWhile_len {α : Type} (p : α → Bool) : ∀ l : List α, (l.takeWhile p).length ≤ l.length
  | [] => Nat.le_refl _
  | x :: l => by
    unfold List.takeWhile
    split
    · simp; exact takeWhile_len p l
    · simp
theorem takeWhile_mem {α : Type} (p : α → Bool) : ∀ (l : List α) (x : α), x ∈ l.takeWhile p → x ∈ l
  | [], x, h => by simp at h
  | y :: l, x, h => by
    unfold List.takeWhile at h
    split at h
    · rcases List.mem_cons.1 h with h | h
      · simp [h]
      · simp [takeWhile_mem p l x h]
    · simp at h
set_option maxRecDepth 100000 in
theorem words_ok (a : Option Addr) (n c : Nat) (l : List UInt8) (w : World) (h : BA w a n c l) (hn : n ≤ 512) (hf : l.any forB = false) :
    Calls Tryz.prog 20 #[.slice a n c] w (WordsR w (wordsOf l)) := by
  have hlen := h.len
  have hb : wordsOf l = wordsL blankN (hashCut l) := by
    have : ¬ 512 < l.length := by omega
    simp [wordsOf, badSeg, hf, this]
  have hl : l.length ≤ 512 := by omega
  have hl2 : (hashCut l).length ≤ 512 := Nat.le_trans (takeWhile_len _ l) hl
  have ha : ∀ b ∈ hashCut l, forB b = false := fun b hb => by
    rw [List.any_eq_false] at hf
    simpa using hf b (takeWhile_mem _ l b hb)
  have HF := Lib.hid hf
  have HA := Lib.hid ha
  rw [hb]
  have hconv := ba_str a n c l w h
  clear hf ha hb hlen
  go_enter Tryz.func20, Tryz.ntmps20
  go_wp2_with (first | (go_at_call 33; refine (cf_any a n c l _ h).mono ?_; rw [HF.out]; rintro e w' ⟨rfl, rfl⟩) | (go_at_call 23; refine (cut_any l _ hl).mono ?_; rintro e w' ⟨x, y, rfl, q, rfl⟩) | (go_at_call 35; refine (ff_any (hashCut l) _ hl2 HA.out).mono ?_; rintro e w' ⟨v, rfl, hs, hbel⟩))
  go_ret
  exact ⟨_, rfl, hs, ⟨hbel.os, hbel.tape, hbel.output, hbel.size, hbel.block⟩⟩
theorem words_any (a : Option Addr) (n c : Nat) (l : List UInt8) (w : World) (h : BA w a n c l) :
    Calls Tryz.prog 20 #[.slice a n c] w (WordsR w (wordsOf l)) := by
  by_cases hn : 512 < n
  · exact words_long a n c l w h hn
  · cases hf : l.any forB with
    | true => exact words_bad a n c l w h (by omega) hf
    | false => exact words_ok a n c l w h (by omega) hf
end Go.Proofs.YtfmnemcnonbkfaaGreatDoor

namespace Go.Tx
open Go.RowKit
theorem own_below {B : Nat} {e : TypeId} {size n : Nat} {v : Value} {xs : List Value} {w w' : World} (h : w.ownsRow B e size v n xs) (hb : Below w.heap.size w w') : w'.ownsRow B e size v n xs := by
  refine ⟨h.1, ?_⟩
  rcases h.2 with h | ⟨g, cap, cur, h1, h2, h3, h4⟩
  · exact .inl h
  · exact .inr ⟨g, cap, cur, h1, h2, by rw [hb.block g (Array.getElem?_eq_some_iff.1 h3).1]; exact h3, h4⟩
theorem Strs.below {B : Nat} {v : Value} {ws : List (List UInt8)} {w w' : World} (h : Strs B w v ws) (hb : Below w.heap.size w w') : Strs B w' v ws := by
  rcases h with h | ⟨A, h1, h2, h3⟩
  · exact .inl h
  · exact .inr ⟨A, h1, h2, own_below h3 hb⟩
theorem own_base {B B' : Nat} {e : TypeId} {size n : Nat} {v : Value} {xs : List Value} {w : World} (h : w.ownsRow B e size v n xs) (hb : B' ≤ B) : w.ownsRow B' e size v n xs := by
  refine ⟨h.1, ?_⟩
  rcases h.2 with h | ⟨g, cap, cur, h1, h2, h4⟩
  · exact .inl h
  · exact .inr ⟨g, cap, cur, h1, Nat.le_trans hb h2, h4⟩
theorem Strs.base {B B' : Nat} {v : Value} {ws : List (List UInt8)} {w : World} (h : Strs B w v ws) (hb : B' ≤ B) : Strs B' w v ws := by
  rcases h with h | ⟨A, h1, h2, h3⟩
  · exact .inl h
  · exact .inr ⟨A, h1, Nat.le_trans hb h2, own_base h3 hb⟩
theorem Strs.shape {B : Nat} {v : Value} {ws : List (List UInt8)} {w : World} (h : Strs B w v ws) : ∃ p, v = .slice p ws.length ws.length := by
  rcases h with ⟨h, h2⟩ | ⟨A, h1, _⟩
  · subst h2; exact ⟨none, h⟩
  · exact ⟨_, h1⟩
theorem Strs.grown {B : Nat} {v : Value} {ws : List (List UInt8)} {w w' : World} {row : Option Nat} (h : Strs B w v ws) (hg : w.grownBy w' row) (hr : ∀ g, row = some g → ∃ cur fr, w.heap[g]? = some (.cells cur 35 fr)) : Strs B w' v ws := by
  rcases h with h | ⟨A, h1, h2, h3⟩
  · exact .inl h
  · refine .inr ⟨A, h1, h2, h3.kept hg ?_⟩
    cases row with
    | none => right; rw [h1]; simp [Value.ownBlock]
    | some g =>
      right
      rw [h1]
      simp only [Value.ownBlock, ne_eq, Option.some.injEq]
      rintro rfl
      obtain ⟨cur, fr, hc⟩ := hr A rfl
      rcases h3.2 with ⟨h4, _⟩ | ⟨g', cap, cur', h5, _, h6, _⟩
      · rw [h1] at h4; cases h4
      · rw [h1] at h5
        cases h5
        rw [hc] at h6
        cases h6
/-- A slice of lines that reads as T, in rows from block B on. -/
def LinesAt (B : Nat) (w : World) (v : Value) (T : List (Nat × List (List UInt8))) : Prop :=
  ∃ xs, w.ownsRow B 35 2 v T.length xs ∧ ∀ i no ws, T[i]? = some (no, ws) → xs[2 * i]? = some (.int .i64 (no : Int)) ∧ ∃ wv, xs[2 * i + 1]? = some wv ∧ Strs B w wv ws
theorem LinesAt.nil (B : Nat) (w : World) : LinesAt B w (.slice none 0 0) [] := ⟨[], World.ownsRow_nil w B 35 2, by simp⟩
theorem LinesAt.below {B : Nat} {v : Value} {T : List (Nat × List (List UInt8))} {w w' : World} (h : LinesAt B w v T) (hb : Below w.heap.size w w') : LinesAt B w' v T := by
  obtain ⟨xs, h1, h2⟩ := h
  refine ⟨xs, own_below h1 hb, fun i no ws hi => ?_⟩
  obtain ⟨a, wv, b, c⟩ := h2 i no ws hi
  exact ⟨a, wv, b, c.below hb⟩
theorem LinesAt.shape {B : Nat} {v : Value} {T : List (Nat × List (List UInt8))} {w : World} (h : LinesAt B w v T) : ∃ p c, v = .slice p T.length c := by
  obtain ⟨xs, h1, _⟩ := h
  rcases h1.2 with ⟨a, b⟩ | ⟨g, cap, cur, a, _⟩
  · exact ⟨none, 0, by rw [a, b]⟩
  · exact ⟨_, _, a⟩
/-- One line more. -/
theorem LinesAt.push {B : Nat} {v v' wv : Value} {T : List (Nat × List (List UInt8))} {w w' : World} {xs : List Value} {no : Nat} {ws : List (List UInt8)}
    (h1 : w.ownsRow B 35 2 v T.length xs) (h2 : ∀ i no ws, T[i]? = some (no, ws) → xs[2 * i]? = some (.int .i64 (no : Int)) ∧ ∃ wv, xs[2 * i + 1]? = some wv ∧ Strs B w wv ws)
    (hs : Strs B w wv ws) (ho : w'.ownsRow B 35 2 v' (T.length + 1) (xs ++ [.int .i64 (no : Int), wv])) (hg : w.grownBy w' v.ownBlock) : LinesAt B w' v' (T ++ [(no, ws)]) := by
  have hr : ∀ g, v.ownBlock = some g → ∃ cur fr, w.heap[g]? = some (.cells cur 35 fr) := by
    intro g hg
    rcases h1.2 with ⟨a, _⟩ | ⟨g', cap, cur, a, _, c, _⟩
    · rw [a] at hg; cases hg
    · rw [a] at hg
      cases hg
      exact ⟨cur, _, c⟩
  have hlen : xs.length = T.length * 2 := h1.1
  refine ⟨_, by simpa using ho, fun i no' ws' hi => ?_⟩
  by_cases hlt : i < T.length
  · rw [List.getElem?_append_left hlt] at hi
    obtain ⟨a, wv', b, c⟩ := h2 i no' ws' hi
    exact ⟨by rw [List.getElem?_append_left (by omega)]; exact a, wv', by rw [List.getElem?_append_left (by omega)]; exact b, c.grown hg hr⟩
  · have hle : i < (T ++ [(no, ws)]).length := (List.getElem?_eq_some_iff.1 hi).1
    have : i = T.length := by simp at hle; omega
    subst this
    rw [List.getElem?_append_right (Nat.le_refl _), Nat.sub_self] at hi
    cases hi
    refine ⟨?_, wv, ?_, hs.grown hg hr⟩
    · rw [List.getElem?_append_right (by omega), show 2 * T.length - xs.length = 0 from by omega]; rfl
    · rw [List.getElem?_append_right (by omega), show 2 * T.length + 1 - xs.length = 1 from by omega]; rfl
end Go.Tx

namespace Go.Tx
open Go.RowKit
def strV (l : List UInt8) : Value := .string ⟨l.toArray⟩
/-- A slice of texts that reads as ws, of whatever capacity. -/
def StrC (B : Nat) (w : World) (v : Value) (ws : List (List UInt8)) : Prop := w.ownsRow B 9 1 v ws.length (ws.map strV)
theorem StrC.shape {B : Nat} {w : World} {v : Value} {ws : List (List UInt8)} (h : StrC B w v ws) : ∃ p c, v = .slice p ws.length c := by
  rcases h.2 with ⟨a, b⟩ | ⟨g, cap, cur, a, _⟩
  · exact ⟨none, 0, by rw [a, b]⟩
  · exact ⟨_, _, a⟩
theorem StrC.read {B : Nat} {w : World} {v : Value} {ws : List (List UInt8)} (h : StrC B w v ws) :
    ∃ p c, v = .slice p ws.length c ∧ ws.length ≤ c ∧ c ≤ 9223372036854775807 ∧ ∀ (i : Nat) (l : List UInt8), ws[i]? = some l → ∃ g, p = some ⟨g, 0, none⟩ ∧ g < w.heap.size ∧ w.cell? ⟨g, i, none⟩ = some (.string ⟨l.toArray⟩) := by
  rcases h.2 with ⟨a, b⟩ | ⟨g, cap, cur, a, a2, a3, a4, a5, _⟩
  · refine ⟨none, 0, by rw [a, b], by omega, by omega, fun i l hi => ?_⟩
    have := (List.getElem?_eq_some_iff.1 hi).1
    omega
  · subst a
    refine ⟨_, cap, rfl, a4, a5, fun i l hi => ⟨g, rfl, (Array.getElem?_eq_some_iff.1 a3).1, ?_⟩⟩
    have hlt := (List.getElem?_eq_some_iff.1 hi).1
    rw [World.ownsRow.cellAt h i (by omega), List.getElem?_map, hi]
    rfl
end Go.Tx

namespace Go.Proofs.YtfmnemcnonbkfaaGreatDoor
open Go.RowKit Go.Lib Go.Tx
theorem ret_int {k : IntKind} {a b : Int} (h : a = b) : Ending.returned (.int k a) = .returned (.int k b) := by rw [h]
theorem hex_any (c : UInt8) (w : World) : Calls Tryz.prog 46 #[.int .u8 (c.toNat : Int)] w fun e w' => e = .returned (.int .i64 (hexV c)) ∧ w = w' := by
  have hlt : (c.toNat : Int) ≤ 255 := by have := c.toNat_lt; omega
  by_cases h1 : 48 ≤ (c.toNat : Int) ∧ (c.toNat : Int) ≤ 57
  · obtain ⟨a1, a2⟩ := h1
    have HV : Hid (hexV c = (c.toNat : Int) - 48) := Lib.hid (by unfold hexV; rw [if_pos ⟨a1, a2⟩])
    go_enter Tryz.func46, Tryz.ntmps46
    go_wp2
    all_goals (go_ret; exact ⟨ret_int (by rw [HV.out]), rfl⟩)
  by_cases h2 : 97 ≤ (c.toNat : Int) ∧ (c.toNat : Int) ≤ 102
  · obtain ⟨a1, a2⟩ := h2
    have HV : Hid (hexV c = (c.toNat : Int) - 87) := Lib.hid (by unfold hexV; rw [if_neg (by omega), if_pos ⟨a1, a2⟩])
    clear h1
    go_enter Tryz.func46, Tryz.ntmps46
    go_wp2
    all_goals (go_ret; exact ⟨ret_int (by rw [HV.out]; omega), rfl⟩)
  by_cases h3 : 65 ≤ (c.toNat : Int) ∧ (c.toNat : Int) ≤ 70
  · obtain ⟨a1, a2⟩ := h3
    have HV : Hid (hexV c = (c.toNat : Int) - 55) := Lib.hid (by unfold hexV; rw [if_neg (by omega), if_neg (by omega), if_pos ⟨a1, a2⟩])
    clear h1 h2
    go_enter Tryz.func46, Tryz.ntmps46
    go_wp2
    all_goals (go_ret; exact ⟨ret_int (by rw [HV.out]; omega), rfl⟩)
  have HV : Hid (hexV c = -1) := Lib.hid (by unfold hexV; rw [if_neg h1, if_neg h2, if_neg h3])
  have hc : (c.toNat : Int) < 48 ∨ (57 < (c.toNat : Int) ∧ (c.toNat : Int) < 65) ∨ (70 < (c.toNat : Int) ∧ (c.toNat : Int) < 97) ∨ 102 < (c.toNat : Int) := by omega
  clear h1 h2 h3
  rcases hc with h | ⟨h, h'⟩ | ⟨h, h'⟩ | h
  all_goals
    go_enter Tryz.func46, Tryz.ntmps46
    go_wp2
    all_goals (go_ret; exact ⟨ret_int (by rw [HV.out]), rfl⟩)
theorem info9 : (Tryz.prog.info? 9).map (fun i => (i.zero, i.size, i.bytes)) = some (some (.string ⟨#[]⟩), 1, 16) := by kernel_rfl
theorem one_cell (w : World) (s : ByteArray) (e : TypeId) : ∀ j u, [Value.string s][j]? = some u → (w.alloc (.cells #[.string s] e)).cell? ((⟨w.heap.size, 0, none⟩ : Addr).add j) = some u := by
  intro j u hj
  have ha : (⟨w.heap.size, 0, none⟩ : Addr).add j = ⟨w.heap.size, j, none⟩ := by unfold Addr.add; split <;> simp_all
  rw [ha, World.cell?_alloc_new]
  simpa using hj
/-- What holds at the head of a round. -/
structure PI (w : World) (l : List UInt8) (c : UInt8) (n k F : Nat) (out fr : Value) (wr : World) (T : List (List UInt8)) : Prop where
  fr : fr = .int .i64 (F : Int)
  told : StrC w.heap.size wr out T
  go : k ≤ n → F ≤ k ∧ splitL c l = T ++ splitG c ((l.take k).drop F) (l.drop k)
  done : n < k → splitL c l = T
  few : T.length ≤ k
  bel : Below w.heap.size w wr
def SplitR (w : World) (T : List (List UInt8)) (e : Ending) (w' : World) : Prop := ∃ v, e = .returned v ∧ StrC w.heap.size w' v T ∧ Below w.heap.size w w'
theorem ext_drop (s : ByteArray) (F k : Nat) : Value.string (s.extract F k) = strV ((s.data.toList.take k).drop F) := by
  unfold strV
  congr 1
  apply ByteArray.ext
  apply Array.ext'
  simp [ByteArray.extract, ByteArray.copySlice, List.drop_take, List.extract]
theorem PI.skip {w wr : World} {l : List UInt8} {c b : UInt8} {n k F : Nat} {out fr : Value} {T : List (List UInt8)} (h : PI w l c n k F out fr wr T) (hl : l.length = n) (hb : l[k]? = some b) (hc : ¬ b = c) : PI w l c n (k + 1) F out fr wr T := by
  have hk := (List.getElem?_eq_some_iff.1 hb).1
  obtain ⟨h1, h2⟩ := h.go (by omega)
  exact ⟨h.fr, h.told, fun _ => ⟨by omega, by rw [h2, splitG_step hb h1 hc]⟩, fun h => by omega, by have := h.few; omega, h.bel⟩
theorem PI.push {w wr w5 : World} {s : ByteArray} {c : UInt8} {n k F : Nat} {out out' fr : Value} {T : List (List UInt8)} (h : PI w s.data.toList c n k F out fr wr T) (hl : s.data.toList.length = n) (hk : k ≤ n) (hb : k < n → s.data.toList[k]? = some c)
    (ho : w5.ownsRow w.heap.size 9 1 out' (T.length + 1) (T.map strV ++ [.string (s.extract F k)])) (hbel : Below w.heap.size w w5) : PI w s.data.toList c n (k + 1) (k + 1) out' (.int .i64 ((k + 1 : Nat) : Int)) w5 (T ++ [(s.data.toList.take k).drop F]) := by
  obtain ⟨h1, h2⟩ := h.go hk
  refine ⟨rfl, ?_, fun h3 => ⟨Nat.le_refl _, ?_⟩, fun h3 => ?_, by have := h.few; simp; omega, hbel⟩
  · unfold StrC
    rw [List.length_append, List.map_append]
    rw [ext_drop] at ho
    exact ho
  · rw [h2, splitG_cut (hb (by omega)) rfl, List.append_assoc]
    rfl
  · have : k = n := by omega
    subst this
    rw [h2, splitG_last hl]
set_option maxHeartbeats 2000000 in
set_option maxRecDepth 100000 in
theorem split_any (s : ByteArray) (c : UInt8) (w : World) (hn : s.size ≤ 1000000) :
    Calls Tryz.prog 28 #[.string s, .int .u8 (c.toNat : Int)] w (SplitR w (splitL c s.data.toList)) := by
  obtain ⟨i9, hi, hz0, hz1, hz2⟩ := info_parts info9
  have HL : Hid (s.data.toList.length = s.size) := Lib.hid rfl
  go_enter Tryz.func28, Tryz.ntmps28
  go_wp2
  go_loopw [5, 6, 7] (fun out fr i wr => ∃ k F T, k ≤ s.size + 1 ∧ i = .int .i64 (k : Nat) ∧ PI w s.data.toList c s.size k F out fr wr T) (fun _ _ i _ => s.size + 1 - (intOf i).toNat)
  case atStart => exact ⟨0, 0, [], Nat.zero_le _, rfl, rfl, World.ownsRow_nil _ _ _ _, fun _ => ⟨Nat.le_refl _, by simp [splitL]⟩, fun h => by omega, Nat.zero_le _, Below.refl _ _⟩
  case round =>
    obtain ⟨k, F, T, hk, rfl, hI⟩ := hrel
    have hfr := hI.fr
    subst hfr
    have hws := hI.bel.size
    have hfew := hI.few
    have HI := Lib.hid hI
    clear hI
    by_cases hlt : k ≤ s.size
    · have hF := (HI.out.go hlt).1
      by_cases hkn : k < s.size
      · have hb : s.data.toList[k]? = some s[k] := List.getElem?_eq_getElem hkn
        by_cases hc : s[k] = c
        · have HB := Lib.hid hb
          have HC := Lib.hid hc
          have ec : ((s[k].toNat : Int) == (c.toNat : Int)) = true := by rw [hc]; simp
          clear hb hc
          go_wp2_with (at_builtin; refine wpList_append_own _ rfl _ _ 26 rfl w.heap.size 9 i9 (.string ⟨#[]⟩) 1 16 Tryz.underlying26 hi hz0 hz1 hz2 rfl (by decide) _ _ _ rfl (HI.out.told.alloc _) ⟨wr.heap.size, 0, none⟩ 1 1 [.string (s.extract F k)] rfl rfl (one_cell _ _ _) (by simp [Value.oneCell']) (by unfold maxLen; omega) (by omega) (by show w.heap.size ≤ (wr.heap.push _).size; simp; omega) ?_; intro v' w5 hown5 hg5 _)
          go_roundw
          case rel => exact ⟨k + 1, k + 1, _, by omega, by go_num, HI.out.push HL.out hlt (fun _ => by rw [HB.out, HC.out]) hown5 ((HI.out.bel.alloc hws _).grown hg5 (by show w.heap.size ≤ (wr.heap.push _).size; simp; omega) (fun g hg => (HI.out.told.lt g hg).1))⟩
          case measure => simp [intOf]; omega
        · have HB := Lib.hid hb
          have HC := Lib.hid hc
          have ec : ((s[k].toNat : Int) == (c.toNat : Int)) = false := by rw [beq_eq_false_iff_ne]; intro h; exact hc (UInt8.toNat_inj.1 (by omega))
          clear hb hc
          go_wp2
          go_roundw
          case rel => exact ⟨k + 1, F, T, by omega, by go_num, HI.out.skip HL.out HB.out HC.out⟩
          case measure => simp [intOf]; omega
      · obtain rfl : k = s.size := by omega
        go_wp2_with (at_builtin; refine wpList_append_own _ rfl _ _ 26 rfl w.heap.size 9 i9 (.string ⟨#[]⟩) 1 16 Tryz.underlying26 hi hz0 hz1 hz2 rfl (by decide) _ _ _ rfl (HI.out.told.alloc _) ⟨wr.heap.size, 0, none⟩ 1 1 [.string (s.extract F s.size)] rfl rfl (one_cell _ _ _) (by simp [Value.oneCell']) (by unfold maxLen; omega) (by omega) (by show w.heap.size ≤ (wr.heap.push _).size; simp; omega) ?_; intro v' w5 hown5 hg5 _)
        go_roundw
        case rel => exact ⟨s.size + 1, s.size + 1, _, by omega, by go_num, HI.out.push HL.out hlt (fun h => by omega) hown5 ((HI.out.bel.alloc hws _).grown hg5 (by show w.heap.size ≤ (wr.heap.push _).size; simp; omega) (fun g hg => (HI.out.told.lt g hg).1))⟩
        case measure => simp [intOf]
    · obtain rfl : k = s.size + 1 := by omega
      have HE := Lib.hid (HI.out.done (by omega))
      go_wp2
      go_ret
      exact ⟨_, rfl, by rw [HE.out]; exact HI.out.told, HI.out.bel⟩
end Go.Proofs.YtfmnemcnonbkfaaGreatDoor

namespace Go.Proofs.YtfmnemcnonbkfaaGreatDoor
open Go.RowKit Go.Lib Go.Tx
theorem ret_num {l : List UInt8} {m a : Int} {b : Bool} (h : numRes l m = (a, b)) : Ending.returned (.tuple #[.int .i64 a, .bool b]) = .returned (.tuple #[.int .i64 (numRes l m).1, .bool (numRes l m).2]) := by rw [h]
theorem head_eq (s : ByteArray) (h1 : 1 ≤ s.size) : s.data.toList.head? = some s[0] := by
  rw [List.head?_eq_getElem?]
  have : s.data.toList.length = s.size := rfl
  rw [List.getElem?_eq_getElem (by omega)]
  rfl
theorem u8_48 (c : UInt8) : ((c.toNat : Int) == 48) = (c == 48) := by
  by_cases h : c = 48
  · subst h; rfl
  · rw [beq_eq_false_iff_ne.2 h, beq_eq_false_iff_ne]
    intro h2
    exact h (UInt8.toNat_inj.1 (by show c.toNat = 48; omega))
theorem rnum_nil (s : ByteArray) (m : Int) (w : World) (h : s.size = 0) :
    Calls Tryz.prog 31 #[.string s, .int .i64 m] w fun e w' => e = .returned (.tuple #[.int .i64 0, .bool false]) ∧ w' = w := by
  go_enter Tryz.func31, Tryz.ntmps31
  go_wp2
  all_goals (go_ret2; exact ⟨rfl, rfl⟩)
theorem rnum_len (s : ByteArray) (m : Int) (w : World) (hs : s.size ≤ maxLen) (h : 9 < s.size) :
    Calls Tryz.prog 31 #[.string s, .int .i64 m] w fun e w' => e = .returned (.tuple #[.int .i64 0, .bool false]) ∧ w' = w := by
  unfold maxLen at hs
  go_enter Tryz.func31, Tryz.ntmps31
  go_wp2
  all_goals (go_ret2; exact ⟨rfl, rfl⟩)
theorem rnum_zero (s : ByteArray) (m : Int) (w : World) (h1 : 1 < s.size) (h9 : s.size ≤ 9) (h0 : (s[0].toNat : Int) = 48) :
    Calls Tryz.prog 31 #[.string s, .int .i64 m] w fun e w' => e = .returned (.tuple #[.int .i64 0, .bool false]) ∧ w' = w := by
  have h48 : ((s[0].toNat : Int) == 48) = true := by simp [h0]
  clear h0
  go_enter Tryz.func31, Tryz.ntmps31
  go_wp2
  all_goals (go_ret2; exact ⟨rfl, rfl⟩)
theorem rnum_loop (s : ByteArray) (m : Int) (w : World) (h1 : 1 ≤ s.size) (h9 : s.size ≤ 9) (h0 : ((s[0].toNat : Int) == 48) = false ∨ (((s[0].toNat : Int) == 48) = true ∧ (s.size : Int) ≤ 1)) :
    Calls Tryz.prog 31 #[.string s, .int .i64 m] w fun e w' => e = .returned (.tuple #[.int .i64 (numRes s.data.toList m).1, .bool (numRes s.data.toList m).2]) ∧ w' = w := by
  have HZ : Hid (¬ (s.data.toList.head? = some 48 ∧ 1 < s.data.toList.length)) := Lib.hid (by
    rintro ⟨h2, h3⟩
    rw [head_eq s h1] at h2
    have : s.data.toList.length = s.size := rfl
    rcases h0 with h0 | ⟨_, h0⟩
    · rw [u8_48] at h0
      simp at h0 h2
      exact h0 h2
    · omega)
  rcases h0 with h0 | ⟨h0, h0'⟩
  all_goals
    go_enter Tryz.func31, Tryz.ntmps31
    go_wp2
    go_loop [6, 7] (fun n i => ∃ k : Nat, k ≤ s.size ∧ i = .int .i64 k ∧ n = .int .i64 (val (s.data.toList.take k)) ∧ (s.data.toList.take k).all dig = true) (fun _ i => s.size - (intOf i).toNat)
    case atStart => exact ⟨0, Nat.zero_le _, rfl, rfl, rfl⟩
    case round =>
      obtain ⟨k, hk, rfl, rfl, hall⟩ := hrel
      have hbd := val_bd s k hall h9
      have HALL := Lib.hid hall
      clear hall
      by_cases hlt : k < s.size
      · by_cases hlo : (s[k].toNat : Int) < 48
        · go_wp2
          go_ret2
          exact ⟨ret_num (numRes_no _ _ (all_no s k hlt (dig_lo _ hlo))), rfl⟩
        · by_cases hhi : 57 < (s[k].toNat : Int)
          · have hlo : 48 ≤ (s[k].toNat : Int) := by omega
            go_wp2
            go_ret2
            exact ⟨ret_num (numRes_no _ _ (all_no s k hlt (dig_hi _ hhi))), rfl⟩
          · have hlo : 48 ≤ (s[k].toNat : Int) := by omega
            have hhi : (s[k].toNat : Int) ≤ 57 := by omega
            have HS := Lib.hid (val_step s k hlt (dig_of _ hlo hhi))
            have HA := Lib.hid (all_step s k hlt)
            have hk1 : k + 1 ≤ s.size := hlt
            have HK1 := Lib.hid hk1
            clear hk1
            go_wp2
            go_round
            case rel => exact ⟨k + 1, HK1.out, by go_num, by rw [HS.out, Int.mul_comm], by rw [HA.out, HALL.out, dig_of _ hlo hhi]; rfl⟩
            case measure => simp [intOf]; omega
      · go_wp2
        all_goals
          go_ret2
          have hkk : k = s.size := by omega
          have hall : s.data.toList.all dig = true := by rw [← take_all s k (by omega)]; exact HALL.out
          refine ⟨ret_num ?_, rfl⟩
          have ht := take_all s k (by omega)
          rw [numRes_ok _ _ h1 h9 HZ.out hall]
          try rw [ht]
          rw [← ht]
          first | rw [if_pos (by assumption)] | rw [if_neg (by omega)]
theorem size_len (s : ByteArray) : s.data.toList.length = s.size := rfl
theorem rnum_any (s : ByteArray) (m : Int) (w : World) (hs : s.size ≤ maxLen) :
    Calls Tryz.prog 31 #[.string s, .int .i64 m] w fun e w' => e = .returned (.tuple #[.int .i64 (numRes s.data.toList m).1, .bool (numRes s.data.toList m).2]) ∧ w' = w := by
  have hl := size_len s
  by_cases h0 : s.size = 0
  · refine (rnum_nil s m w h0).mono ?_
    rintro e w' ⟨rfl, rfl⟩
    exact ⟨ret_num (numRes_nil _ _ (List.eq_nil_of_length_eq_zero (by omega))), rfl⟩
  by_cases h9 : 9 < s.size
  · refine (rnum_len s m w hs h9).mono ?_
    rintro e w' ⟨rfl, rfl⟩
    exact ⟨ret_num (numRes_len _ _ (by omega)), rfl⟩
  cases hz : ((s[0].toNat : Int) == 48) with
  | false => exact rnum_loop s m w (by omega) (by omega) (.inl hz)
  | true =>
    by_cases h1 : 1 < s.size
    · refine (rnum_zero s m w h1 (by omega) (eq_of_beq hz)).mono ?_
      rintro e w' ⟨rfl, rfl⟩
      refine ⟨ret_num (numRes_zero _ _ (by omega) ?_), rfl⟩
      rw [head_eq s (by omega)]
      rw [u8_48] at hz
      rw [eq_of_beq hz]
    · exact rnum_loop s m w (by omega) (by omega) (.inr ⟨hz, by omega⟩)
end Go.Proofs.YtfmnemcnonbkfaaGreatDoor

namespace Go.Tx
def okN (l : List UInt8) : Bool := (numRes l 255).2
def byN (l : List UInt8) : UInt8 := UInt8.ofNat (numRes l 255).1.toNat
def fourP (p : List (List UInt8)) : Option (List UInt8) := if p.length = 4 ∧ p.all okN = true then some (p.map byN) else none
theorem numRes_bd (l : List UInt8) (h : okN l = true) : 0 ≤ (numRes l 255).1 ∧ (numRes l 255).1 ≤ 255 := by
  unfold okN at h
  unfold numRes at h ⊢
  split
  · simp
  · split
    · simp
    · rename_i h1 h2
      simp
      omega
theorem byN_int (l : List UInt8) (h : okN l = true) : ((byN l).toNat : Int) = (numRes l 255).1 := by
  have := numRes_bd l h
  unfold byN
  simp
  omega
def u8V (l : List UInt8) : List Value := l.map fun c => .int .u8 (c.toNat : Int)
end Go.Tx
namespace Go.Proofs.YtfmnemcnonbkfaaGreatDoor
open Go.RowKit Go.Lib Go.Tx
def FourR (w : World) (r : Option (List UInt8)) (e : Ending) (w' : World) : Prop := e = .returned (.tuple #[.string ⟨(r.getD []).toArray⟩, .bool r.isSome]) ∧ Below w.heap.size w w'
theorem info5 : (Tryz.prog.info? 5).map (fun i => (i.zero, i.size, i.bytes)) = some (some (.int .u8 0), 1, 1) := by kernel_rfl
theorem byte_cell (w : World) (x : Int) (e : TypeId) : ∀ j u, [Value.int .u8 x][j]? = some u → (w.alloc (.cells #[.int .u8 x] e)).cell? ((⟨w.heap.size, 0, none⟩ : Addr).add j) = some u := by
  intro j u hj
  have ha : (⟨w.heap.size, 0, none⟩ : Addr).add j = ⟨w.heap.size, j, none⟩ := by unfold Addr.add; split <;> simp_all
  rw [ha, World.cell?_alloc_new]
  simpa using hj
/-- string(b) of a row of bytes of the call's own. -/
theorem own_str {w : World} {B : Nat} {v : Value} {l : List UInt8} (h : w.ownsRow B 5 1 v l.length (u8V l)) : (convert 22 9 v).run Tryz.prog w = .ok (.string ⟨l.toArray⟩) w := by
  rcases h.2 with ⟨rfl, h2⟩ | ⟨g, cap, cur, rfl, _⟩
  · obtain rfl : l = [] := List.eq_nil_of_length_eq_zero h2
    rw [run_convert_bytes_string w 22 9 5 none 0 0 Tryz.underlying22 Tryz.underlying5 Tryz.underlying9]
    rfl
  · refine run_convert_bytes_back w 22 9 5 ⟨g, 0, none⟩ cap l Tryz.underlying22 Tryz.underlying5 Tryz.underlying9 fun j hj => ?_
    have ha : (⟨g, 0, none⟩ : Addr).add j = ⟨g, j, none⟩ := by unfold Addr.add; split <;> simp_all
    rw [ha, h.cellAt j (by omega)]
    simp [u8V, hj]
theorem fourP_no {p : List (List UInt8)} {k : Nat} {l : List UInt8} (h : p[k]? = some l) (hn : okN l = false) : fourP p = none := by
  unfold fourP
  rw [if_neg]
  rintro ⟨_, h2⟩
  rw [List.all_eq_true] at h2
  have := h2 l (List.mem_of_getElem? h)
  rw [hn] at this
  cases this
theorem num_yes (l : List UInt8) (x : Int) (w : World) (hl : l.length ≤ 1000000) (hx : numRes l 255 = (x, true)) : Calls Tryz.prog 31 #[.string ⟨l.toArray⟩, .int .i64 255] w fun e w' => e = .returned (.tuple #[.int .i64 x, .bool true]) ∧ w = w' := by
  refine (rnum_any ⟨l.toArray⟩ 255 w (by show l.toArray.size ≤ _; unfold maxLen; simp; omega)).mono ?_
  rintro e w' ⟨rfl, rfl⟩
  have e : (⟨l.toArray⟩ : ByteArray).data.toList = l := by simp
  rw [e, hx]
  exact ⟨rfl, rfl⟩
theorem num_no (l : List UInt8) (x : Int) (w : World) (hl : l.length ≤ 1000000) (hx : numRes l 255 = (x, false)) : Calls Tryz.prog 31 #[.string ⟨l.toArray⟩, .int .i64 255] w fun e w' => e = .returned (.tuple #[.int .i64 x, .bool false]) ∧ w = w' := by
  refine (rnum_any ⟨l.toArray⟩ 255 w (by show l.toArray.size ≤ _; unfold maxLen; simp; omega)).mono ?_
  rintro e w' ⟨rfl, rfl⟩
  have e : (⟨l.toArray⟩ : ByteArray).data.toList = l := by simp
  rw [e, hx]
  exact ⟨rfl, rfl⟩
theorem own_push {w' : World} {B k : Nat} {v' : Value} {P : List (List UInt8)} {l : List UInt8} {x : Int} (hl : P[k]? = some l) (hx : ((byN l).toNat : Int) = x)
    (h : w'.ownsRow B 5 1 v' (k + 1) (u8V ((P.take k).map byN) ++ [.int .u8 x])) : w'.ownsRow B 5 1 v' (k + 1) (u8V ((P.take (k + 1)).map byN)) := by
  have hk := (List.getElem?_eq_some_iff.1 hl).1
  have e : P.take (k + 1) = P.take k ++ [l] := by
    rw [List.take_succ_eq_append_getElem hk]
    rw [List.getElem?_eq_getElem hk] at hl
    cases hl
    rfl
  rw [e]
  unfold u8V at h ⊢
  rw [List.map_append, List.map_append]
  rw [← hx] at h
  exact h
theorem all_push {P : List (List UInt8)} {k : Nat} {l : List UInt8} (hl : P[k]? = some l) (h : (P.take k).all okN = true) (ho : okN l = true) : (P.take (k + 1)).all okN = true := by
  have hk := (List.getElem?_eq_some_iff.1 hl).1
  have e : P.take (k + 1) = P.take k ++ [l] := by
    rw [List.take_succ_eq_append_getElem hk]
    rw [List.getElem?_eq_getElem hk] at hl
    cases hl
    rfl
  rw [e, List.all_append, h]
  simp [ho]
set_option maxHeartbeats 2000000 in
set_option maxRecDepth 100000 in
theorem four_any (s : ByteArray) (w : World) (hn : s.size ≤ 1000000) :
    Calls Tryz.prog 26 #[.string s] w (FourR w (fourP (splitL 46 s.data.toList))) := by
  obtain ⟨i5, hi, hz0, hz1, hz2⟩ := info_parts info5
  have hbnd := splitG_len 46 s.data.toList []
  have hlen : s.data.toList.length = s.size := rfl
  obtain ⟨P, hP⟩ : ∃ P, splitL 46 s.data.toList = P := ⟨_, rfl⟩
  have hP' : splitG 46 [] s.data.toList = P := hP
  rw [hP', hlen] at hbnd
  have HP := Lib.hid hP
  have hmem : ∀ l ∈ P, l.length ≤ s.size := fun l hl => by
    rw [← hP'] at hl
    have := splitG_mem 46 s.data.toList [] l hl
    rw [hlen] at this
    simpa using this
  rw [hP]
  clear hP hP' hlen
  have hsplit : ∀ W, Calls Tryz.prog 28 #[.string s, .int .u8 46] W (SplitR W P) := fun W => by
    have := split_any s 46 W hn
    rw [HP.out] at this
    exact this
  have HS := Lib.hid hsplit
  have HM := Lib.hid hmem
  clear hsplit hmem
  by_cases h4 : P.length = 4
  · have H4 := Lib.hid h4
    go_enter Tryz.func26, Tryz.ntmps26
    go_wp2_with (go_at_call 28; refine (HS.out _).mono ?_; rintro e w2 ⟨v, rfl, hs, hb⟩; obtain ⟨p, c, rfl, hc, hm, hr⟩ := hs.read; rw [H4.out] at hc ⊢; have HR := Lib.hid hr; clear hr hs)
    have HBW := Lib.hid hb
    go_loopw [5, 6] (fun bv i wr => ∃ k : Nat, k ≤ 4 ∧ i = .int .i64 k ∧ wr.ownsRow w2.heap.size 5 1 bv k (u8V ((P.take k).map byN)) ∧ Hid ((P.take k).all okN = true) ∧ Below w2.heap.size w2 wr) (fun _ i _ => 4 - (intOf i).toNat)
    case atStart => exact ⟨0, Nat.zero_le _, rfl, World.ownsRow_nil _ _ _ _, Lib.hid rfl, Below.refl _ _⟩
    case round =>
      obtain ⟨k, hk, rfl, hown, hall, hbw⟩ := hrel
      have hwr : w.heap.size ≤ wr.heap.size := Nat.le_trans hb.size hbw.size
      by_cases hlt : k < 4
      · obtain ⟨l, hl⟩ : ∃ l, P[k]? = some l := ⟨_, List.getElem?_eq_getElem (by rw [H4.out]; exact hlt)⟩
        obtain ⟨g, rfl, hg, hcell0⟩ := HR.out k l hl
        have hcell : wr.cell? ⟨g, k, none⟩ = some (.string ⟨l.toArray⟩) := (hbw.cell (p := ⟨g, k, none⟩) hg).trans hcell0
        have hll : l.length ≤ 1000000 := Nat.le_trans (HM.out l (List.mem_of_getElem? hl)) hn
        have HL := Lib.hid hl
        have HO := Lib.hid hown
        clear hcell0 hl hown
        obtain ⟨x, hx⟩ : ∃ x, (numRes l 255).1 = x := ⟨_, rfl⟩
        cases ho : okN l with
        | false =>
          have HX : Hid (numRes l 255 = (x, false)) := Lib.hid (by rw [← hx]; unfold okN at ho; rw [← ho])
          have HN := Lib.hid ho
          clear ho hx
          go_wp2_with (go_at_call 31; refine (num_no l x _ hll HX.out).mono ?_; rintro e w' ⟨rfl, rfl⟩)
          go_ret2
          exact ⟨by rw [fourP_no HL.out HN.out]; rfl, hb.trans (hbw.mono hb.size)⟩
        | true =>
          have HX : Hid (numRes l 255 = (x, true)) := Lib.hid (by rw [← hx]; unfold okN at ho; rw [← ho])
          obtain ⟨hx0, hx1⟩ := numRes_bd l ho
          rw [hx] at hx0 hx1
          have HB : Hid (((byN l).toNat : Int) = x) := Lib.hid ((byN_int l ho).trans hx)
          have HN := Lib.hid ho
          clear ho hx
          go_wp2_with (first | (go_at_call 31; refine (num_yes l x _ hll HX.out).mono ?_; rintro e w' ⟨rfl, rfl⟩) | (at_builtin; refine wpList_append_own _ rfl _ _ 22 rfl w2.heap.size 5 i5 (.int .u8 0) 1 1 Tryz.underlying22 hi hz0 hz1 hz2 rfl (by decide) _ _ _ rfl (HO.out.alloc _) ⟨wr.heap.size, 0, none⟩ 1 1 [.int .u8 x] rfl rfl (byte_cell _ _ _) (by simp [Value.oneCell']) (by unfold maxLen; omega) (by omega) (by have := hbw.size; show w2.heap.size ≤ (wr.heap.push _).size; simp; omega) ?_; intro v' w5 hown5 hg5 _))
          go_roundw
          case rel => exact ⟨k + 1, hlt, by go_num, own_push HL.out HB.out hown5, Lib.hid (all_push HL.out hall.out HN.out), (hbw.alloc hbw.size _).grown hg5 (by have := hbw.size; show w2.heap.size ≤ (wr.heap.push _).size; simp; omega) (fun g hg => (HO.out.lt g hg).1)⟩
          case measure => simp [intOf]; omega
      · obtain rfl : k = 4 := by omega
        have hf : Hid (fourP P = some (P.map byN)) := Lib.hid (by
          have e : P.take 4 = P := List.take_of_length_le (by rw [H4.out]; omega)
          have := hall.out
          rw [e] at this
          unfold fourP
          rw [if_pos ⟨H4.out, this⟩])
        have hstr : (convert 22 9 u5).run Tryz.prog wr = .ok (.string ⟨(P.map byN).toArray⟩) wr := by
          have e : P.take 4 = P := List.take_of_length_le (by rw [H4.out]; omega)
          rw [e] at hown
          refine own_str (B := w2.heap.size) (l := P.map byN) ?_
          rw [List.length_map, H4.out]
          exact hown
        clear hown
        go_wp2
        go_ret2
        exact ⟨by rw [hf.out]; rfl, hb.trans (hbw.mono hb.size)⟩
  · have HF : Hid (fourP P = none) := Lib.hid (by unfold fourP; rw [if_neg (fun h => h4 h.1)])
    have h4' : ((P.length : Int) != 4) = true := by simp; omega
    go_enter Tryz.func26, Tryz.ntmps26
    go_wp2_with (go_at_call 28; refine (HS.out _).mono ?_; rintro e w2 ⟨v, rfl, hs, hb⟩; obtain ⟨p, c, rfl, hc, hm, hr⟩ := hs.read; clear hr hs)
    go_ret2
    exact ⟨by rw [HF.out]; rfl, hb⟩
end Go.Proofs.YtfmnemcnonbkfaaGreatDoor

namespace Go.Tx
def hexA (l : List UInt8) : Int := l.foldl (fun n c => 16 * n + hexV c) 0
def hexOk (l : List UInt8) : Bool := l.all fun c => decide (0 ≤ hexV c)
def hexG (l : List UInt8) : Option (List UInt8) :=
  if l.length < 1 ∨ 4 < l.length then none else if hexOk l = true then some [UInt8.ofNat ((hexA l).toNat / 256), UInt8.ofNat ((hexA l).toNat % 256)] else none
def partG (lst : Bool) (l : List UInt8) : Option (List UInt8) :=
  if lst = true then (match fourP (splitL 46 l) with | some f => some f | none => hexG l) else hexG l
def accG (last : Bool) (P : List (List UInt8)) : Nat → Option (List UInt8)
  | 0 => some []
  | k + 1 => match accG last P k with
    | none => none
    | some a => match partG (last && decide (k + 1 = P.length)) (P.getD k []) with
      | none => none
      | some x => some (a ++ x)
def groupsP (last : Bool) (s : List UInt8) : Option (List UInt8) := if s = [] then some [] else accG last (splitL 58 s) (splitL 58 s).length
theorem hexA_snoc (l : List UInt8) (c : UInt8) : hexA (l ++ [c]) = 16 * hexA l + hexV c := by simp [hexA, List.foldl_append]
theorem hexOk_snoc (l : List UInt8) (c : UInt8) : hexOk (l ++ [c]) = (hexOk l && decide (0 ≤ hexV c)) := by simp [hexOk, List.all_append]
theorem hexA_bd4 : ∀ l : List UInt8, l.length ≤ 4 → hexOk l = true → 0 ≤ hexA l ∧ hexA l ≤ 65535
  | [], _, _ => by simp [hexA]
  | [a], _, h => by
    have := hexV_bd a
    simp [hexOk, hexA] at h ⊢
    omega
  | [a, b], _, h => by
    have := hexV_bd a
    have := hexV_bd b
    simp [hexOk, hexA] at h ⊢
    omega
  | [a, b, c], _, h => by
    have := hexV_bd a
    have := hexV_bd b
    have := hexV_bd c
    simp [hexOk, hexA] at h ⊢
    omega
  | [a, b, c, d], _, h => by
    have := hexV_bd a
    have := hexV_bd b
    have := hexV_bd c
    have := hexV_bd d
    simp [hexOk, hexA] at h ⊢
    omega
  | a :: b :: c :: d :: e :: l, h, _ => by simp at h
/-- Once none, none at the end. -/
theorem accG_none {last : Bool} {P : List (List UInt8)} {k : Nat} (h : accG last P k = none) : ∀ j, k ≤ j → accG last P j = none
  | 0, hj => by
    obtain rfl : k = 0 := by omega
    exact h
  | j + 1, hj => by
    by_cases e : k = j + 1
    · rw [← e]; exact h
    · have := accG_none h j (by omega)
      simp [accG, this]
theorem accG_step {last : Bool} {P : List (List UInt8)} {k : Nat} {a l x : List UInt8} {t : Bool} (h : accG last P k = some a) (hl : P[k]? = some l) (ht : (last && decide (k + 1 = P.length)) = t) (hx : partG t l = some x) : accG last P (k + 1) = some (a ++ x) := by
  simp only [accG, h, ht, List.getD_eq_getElem?_getD, hl, Option.getD_some, hx]
theorem accG_stop {last : Bool} {P : List (List UInt8)} {k : Nat} {l : List UInt8} {t : Bool} (hl : P[k]? = some l) (ht : (last && decide (k + 1 = P.length)) = t) (hx : partG t l = none) : accG last P P.length = none := by
  have hk := (List.getElem?_eq_some_iff.1 hl).1
  refine accG_none (k := k + 1) ?_ _ hk
  simp only [accG, List.getD_eq_getElem?_getD, hl, Option.getD_some, ht, hx]
  cases accG last P k <;> rfl
theorem partG_four {l f : List UInt8} (h : fourP (splitL 46 l) = some f) : partG true l = some f := by simp [partG, h]
theorem partG_hex {l : List UInt8} {t : Bool} (h : t = true → fourP (splitL 46 l) = none) : partG t l = hexG l := by
  unfold partG
  cases t with
  | false => rfl
  | true => simp [h rfl]
theorem hexG_len {l : List UInt8} (h : l.length < 1 ∨ 4 < l.length) : hexG l = none := by unfold hexG; rw [if_pos h]
theorem hexG_bad {l : List UInt8} {k : Nat} {c : UInt8} (h : l[k]? = some c) (hc : hexV c < 0) : hexG l = none := by
  have hno : ¬ hexOk l = true := by
    unfold hexOk
    rw [List.all_eq_true]
    intro h2
    have := h2 c (List.mem_of_getElem? h)
    simp at this
    omega
  unfold hexG
  rw [if_neg hno]
  split <;> rfl
theorem hexG_ok {l : List UInt8} (h : ¬ (l.length < 1 ∨ 4 < l.length)) (h2 : hexOk l = true) : hexG l = some [UInt8.ofNat ((hexA l).toNat / 256), UInt8.ofNat ((hexA l).toNat % 256)] := by
  unfold hexG; rw [if_neg h, if_pos h2]
theorem partG_len {t : Bool} {l x : List UInt8} (h : partG t l = some x) : x.length ≤ 4 := by
  unfold partG at h
  have hh : ∀ x, hexG l = some x → x.length ≤ 4 := by
    intro x hx
    unfold hexG at hx
    split at hx
    · cases hx
    · split at hx
      · cases hx; simp
      · cases hx
  split at h
  · cases e : fourP (splitL 46 l) with
    | some f =>
      rw [e] at h
      cases h
      unfold fourP at e
      split at e
      · rename_i h4
        cases e
        rw [List.length_map]
        omega
      · cases e
    | none =>
      rw [e] at h
      exact hh _ h
  · exact hh _ h
theorem accG_len {last : Bool} {P : List (List UInt8)} : ∀ {k : Nat} {a : List UInt8}, accG last P k = some a → a.length ≤ 4 * k
  | 0, a, h => by simp [accG] at h; subst h; simp
  | k + 1, a, h => by
    unfold accG at h
    split at h
    · cases h
    · rename_i b hb
      split at h
      · cases h
      · rename_i x hx
        cases h
        have := accG_len hb
        have := partG_len hx
        simp
        omega
end Go.Tx

namespace Go.Rb
open Go.RowKit Go.Ev
def vbytes (l : List UInt8) : List Value := l.map fun c => .int .u8 (c.toNat : Int)
/-- What append reads: a text or a slice that reads as m. -/
structure Src (P : Program) (w : World) (v : Value) (m : List UInt8) : Prop where
  len : ∀ w' : World, (Builtin.lenOf v).run P w' = .ok m.length w'
  read : ∀ w' : World, w'.heap = w.heap → (Builtin.firstCells 1 m.length v).run P w' = .ok (vbytes m).toArray w'
theorem Src.str (P : Program) (w : World) (s : ByteArray) : Src P w (.string s) s.data.toList := by
  refine ⟨fun w' => by simp [Builtin.lenOf], fun w' _ => ?_⟩
  simp only [Builtin.firstCells, Sem.run_pure]
  congr 1
  apply Array.ext'
  simp [vbytes, ByteArray.extract, ByteArray.copySlice]
  exact List.take_of_length_le (by simp)
theorem Src.row {P : Program} {w : World} {b cap c : Nat} {l : List UInt8} (h : RowB 5 w b cap l) : Src P w (.slice (some ⟨b, 0, none⟩) l.length c) l := by
  refine ⟨fun w' => rfl, fun w' hw => ?_⟩
  refine run_firstCells_some w' 1 _ _ l.length c (vbytes l) (by simp [vbytes]) fun j v hj => ?_
  have ha : (⟨b, 0, none⟩ : Addr).add j = ⟨b, j, none⟩ := by unfold Addr.add; split <;> simp_all
  rw [ha]
  simp only [vbytes, List.getElem?_map, Option.map_eq_some_iff] at hj
  obtain ⟨c, hc, rfl⟩ := hj
  have := h.cell hc
  simpa [World.cell?, hw] using this
/-- Cells written over. -/
theorem run_stores' {P : Program} (b el : Nat) (fr : Nat × Nat) : ∀ (vs : List Value) (off i : Nat) (w : World) (arr : Array Value), w.heap[b]? = some (.cells arr el fr) → off + i + vs.length ≤ arr.size →
    (∀ i, i < arr.size → ¬ (fr.1 ≤ i ∧ i < fr.2)) → (∀ v ∈ vs, v.oneCell' = true) →
    ∃ w' arr', (storeCells ⟨b, off, none⟩ vs i).run P w = .ok () w' ∧ w'.heap[b]? = some (.cells arr' el fr) ∧ arr'.size = arr.size ∧ (∀ j, arr'[j]? = if off + i ≤ j ∧ j < off + i + vs.length then vs[j - (off + i)]? else arr[j]?) ∧
      (∀ k, k ≠ b → w'.heap[k]? = w.heap[k]?) ∧ w'.heap.size = w.heap.size ∧ w'.os = w.os ∧ w'.tape = w.tape ∧ w'.output = w.output
  | [], off, i, w, arr, hb, _, _, _ => ⟨w, arr, rfl, hb, rfl, fun j => by rw [if_neg (by simp <;> omega)], fun _ _ => rfl, rfl, rfl, rfl, rfl⟩
  | v :: vs, off, i, w, arr, hb, hl, hf, h1 => by
    simp only [List.length_cons] at hl
    have hcell : w.cell? ⟨b, off + i, none⟩ = some arr[off + i] := by simp [World.cell?, hb]
    have hfz : w.frozen? ⟨b, off + i, none⟩ = false := by
      simp only [World.frozen?, hb]
      have := hf (off + i) (by omega)
      cases h : decide (fr.1 ≤ off + i) && decide (off + i < fr.2)
      · rfl
      · simp at h; exact absurd h this
    have hb1 : (w.setCell ⟨b, off + i, none⟩ v).heap[b]? = some (.cells (arr.setIfInBounds (off + i) v) el fr) := by
      simp [World.setCell, Array.getElem?_modify, hb]
    obtain ⟨w', arr', e1, e2, e3, e4, e5, e6, e7, e8, e9⟩ := run_stores' b el fr vs off (i + 1) (w.setCell ⟨b, off + i, none⟩ v) (arr.setIfInBounds (off + i) v) hb1 (by simp; omega) (by simpa using hf) (fun u hu => h1 u (by simp [hu]))
    refine ⟨w', arr', ?_, e2, by simpa using e3, fun j => ?_, fun k hk => ?_, by simpa using e6, e7, e8, e9⟩
    · unfold storeCells
      simp only [Sem.run_bind]
      rw [add_off, run_store P w _ v .plain (h1 v (by simp)), hcell]
      simp only [hfz, Bool.false_eq_true, if_false, Result.andThen_ok]
      exact e1
    · rw [e4 j, Array.getElem?_setIfInBounds]
      simp only [List.length_cons]
      by_cases c1 : off + (i + 1) ≤ j ∧ j < off + (i + 1) + vs.length
      · rw [if_pos c1, if_pos (by omega), show j - (off + i) = (j - (off + (i + 1))) + 1 from by omega, List.getElem?_cons_succ]
      · rw [if_neg c1]
        by_cases c2 : off + i = j
        · rw [if_pos c2, if_pos (by omega), if_pos (by omega), show j - (off + i) = 0 from by omega]; rfl
        · rw [if_neg c2, if_neg (by omega)]
    · rw [e5 k hk]
      simp only [World.setCell, Array.getElem?_modify]
      rw [if_neg (by omega)]
theorem run_append_row {P : Program} {ts : Array TypeId} {ty t u : TypeId} {d : TypeDesc} {i : TypeInfo} {w : World} {b cap B : Nat} {l m : List UInt8} {v : Value}
    (h0 : ts[0]? = some t) (h1 : ts[1]? = some u) (ht : P.underlying t = some (.slice 5)) (hu : P.underlying u = some d) (hd : ∀ k, d ≠ .int k)
    (hi : P.info? 5 = some i) (hz0 : i.zero = some (.int .u8 0)) (hz1 : i.size = 1) (hz2 : i.bytes = 1)
    (hr : RowB 5 w b cap l) (hs : Src P w v m) (hB : B ≤ b) (hcap : cap ≤ 9223372036854775807) (hbd : l.length + m.length ≤ 1000000) :
    ∃ b' cap' w', (Builtin.append_ ts ty #[.slice (some ⟨b, 0, none⟩) l.length cap, v]).run P w = .ok (.slice (some ⟨b', 0, none⟩) (l.length + m.length) cap') w' ∧
      RowB 5 w' b' cap' (l ++ m) ∧ Below B w w' ∧ B ≤ b' ∧ cap' ≤ 9223372036854775807 ∧ l.length + m.length ≤ cap' := by
  have hr0 := hr
  obtain ⟨arr, lo, hi', hh, hmk, hsz, hle, hat⟩ := hr
  have hb : b < w.heap.size := (Array.getElem?_eq_some_iff.1 hh).1
  have hsrc := hs.read
  rw [← hz1] at hsrc
  by_cases hfit : l.length + m.length ≤ cap
  · have hrun := append_fits (P := P) (w := w) (ty := ty) (base := some ⟨b, 0, none⟩) (sLen := l.length) (sCap := cap) h0 h1 ht hu hd hi hs.len (hsrc w rfl) hfit
    have hadd : (⟨b, 0, none⟩ : Addr).add (l.length * i.size) = ⟨b, l.length, none⟩ := by
      rw [hz1]; unfold Addr.add; split <;> simp_all
    obtain ⟨w', arr', e1, e2, e3, e4, e5, e6, e7, e8, e9⟩ := run_stores' b 5 (lo, hi') (P := P) (vbytes m) l.length 0 w arr hh (by simp [vbytes]; omega) (fun j hj hc => by
        simp only at hc
        omega) (by simp [vbytes, Value.oneCell'])
    simp only [hadd, e1, Result.andThen_ok] at hrun
    refine ⟨b, cap, w', hrun, ⟨arr', lo, hi', e2, hmk, e3.trans hsz, by simpa using hfit, fun j c hj => ?_⟩, ⟨e7, e8, e9, by omega, fun k hk => e5 k (by omega)⟩, hB, hcap, hfit⟩
    rw [e4 j]
    have hjl := (List.getElem?_eq_some_iff.1 hj).1
    simp at hjl
    by_cases hlt : j < l.length
    · rw [if_neg (by omega)]
      rw [List.getElem?_append_left hlt] at hj
      exact hat j c hj
    · rw [if_pos (by simp [vbytes]; omega)]
      rw [List.getElem?_append_right (by omega)] at hj
      simp only [vbytes, List.getElem?_map, Nat.add_zero, hj, Option.map_some]
  · have hold := (Src.row (P := P) (c := cap) hr0).read
    rw [← hz1] at hold
    have hrun := append_grows (P := P) (w := w) (ty := ty) (base := some ⟨b, 0, none⟩) (sLen := l.length) (sCap := cap) (us := vbytes l) h0 h1 ht hu hd hi hz0 hs.len (hsrc w.drew rfl) (hold w.drew rfl) (by omega) (by rw [hz2]; omega) (by omega)
    have hge := grownCap_ge w (l.length + m.length) cap 5
    have hmx := grownCap_le_maxLen w (l.length + m.length) cap 5 (by unfold maxLen; omega)
    unfold maxLen at hmx
    refine ⟨w.heap.size, _, _, hrun, ⟨_, 0, 0, heap_alloc_new w.drew _, .inr rfl, ?_, by simpa using hge, fun j c hj => ?_⟩, (Below.refl _ _).drew.alloc (by show B ≤ w.heap.size; omega) _, by omega, by omega, hge⟩
    · simp [vbytes, Builtin.zeroCells, Value.cells]
      omega
    · have hjl := (List.getElem?_eq_some_iff.1 hj).1
      simp at hjl
      have e : (vbytes l).toArray ++ (vbytes m).toArray = (vbytes (l ++ m)).toArray := by simp [vbytes]
      rw [e, Array.getElem?_append_left (by simp [vbytes]; omega), List.getElem?_toArray]
      simp only [vbytes, List.getElem?_map, hj, Option.map_some]
end Go.Rb

namespace Go.Rb
open Go.RowKit Go.Ev
/-- A slice of bytes that reads as l: nil, or a row in a block from B on. -/
def RB (B : Nat) (w : World) (v : Value) (l : List UInt8) : Prop :=
  (v = .slice none 0 0 ∧ l = []) ∨ ∃ b cap, v = .slice (some ⟨b, 0, none⟩) l.length cap ∧ B ≤ b ∧ cap ≤ 9223372036854775807 ∧ RowB 5 w b cap l
theorem RB.nil (B : Nat) (w : World) : RB B w (.slice none 0 0) [] := .inl ⟨rfl, rfl⟩
theorem RB.alloc {B : Nat} {w : World} {v : Value} {l : List UInt8} (h : RB B w v l) (o : Obj) : RB B (w.alloc o) v l := by
  rcases h with h | ⟨b, cap, h1, h2, h3, h4⟩
  · exact .inl h
  · exact .inr ⟨b, cap, h1, h2, h3, h4.alloc o⟩
theorem RB.below {B : Nat} {w w' : World} {v : Value} {l : List UInt8} (h : RB B w v l) (hb : Below w.heap.size w w') : RB B w' v l := by
  rcases h with h | ⟨b, cap, h1, h2, h3, h4⟩
  · exact .inl h
  · refine .inr ⟨b, cap, h1, h2, h3, h4.below hb ?_⟩
    obtain ⟨_, _, _, hh, _⟩ := h4
    exact (Array.getElem?_eq_some_iff.1 hh).1
theorem RB.shape {B : Nat} {w : World} {v : Value} {l : List UInt8} (h : RB B w v l) : ∃ p c, v = .slice p l.length c ∧ l.length ≤ c ∧ c ≤ 9223372036854775807 := by
  rcases h with ⟨rfl, rfl⟩ | ⟨b, cap, h1, _, h3, _, _, _, _, _, _, h4, _⟩
  · exact ⟨none, 0, rfl, Nat.le_refl _, by decide⟩
  · exact ⟨_, cap, h1, h4, h3⟩
theorem RB.str {B : Nat} {w : World} {v : Value} {l : List UInt8} (h : RB B w v l) {P : Program} {src dst : TypeId} (hs : P.underlying src = some (.slice 5)) (he : P.underlying 5 = some (.int .u8)) (hd : P.underlying dst = some .string) :
    (convert src dst v).run P w = .ok (.string ⟨l.toArray⟩) w := by
  rcases h with ⟨rfl, rfl⟩ | ⟨b, cap, rfl, _, _, h4⟩
  · rw [run_convert_bytes_string w src dst 5 none 0 0 hs he hd]
    rfl
  · exact h4.str cap hs he hd
theorem run_append_rb {P : Program} {ts : Array TypeId} {ty t u : TypeId} {d : TypeDesc} {i : TypeInfo} {w : World} {B : Nat} {l m : List UInt8} {s v : Value}
    (h0 : ts[0]? = some t) (h1 : ts[1]? = some u) (ht : P.underlying t = some (.slice 5)) (hu : P.underlying u = some d) (hd : ∀ k, d ≠ .int k)
    (hi : P.info? 5 = some i) (hz0 : i.zero = some (.int .u8 0)) (hz1 : i.size = 1) (hz2 : i.bytes = 1)
    (hr : RB B w s l) (hs : Src P w v m) (hB : B ≤ w.heap.size) (hbd : l.length + m.length ≤ 1000000) :
    ∃ s' w', (Builtin.append_ ts ty #[s, v]).run P w = .ok s' w' ∧ RB B w' s' (l ++ m) ∧ Below B w w' := by
  rcases hr with ⟨rfl, rfl⟩ | ⟨b, cap, rfl, hb, hcap, hrow⟩
  · have hsrc := hs.read
    rw [← hz1] at hsrc
    by_cases hm : m = []
    · subst hm
      have hrun := append_fits (P := P) (w := w) (ty := ty) (base := none) (sLen := 0) (sCap := 0) h0 h1 ht hu hd hi hs.len (hsrc w rfl) (Nat.le_refl _)
      exact ⟨_, _, hrun, .inl ⟨rfl, rfl⟩, Below.refl _ _⟩
    · have hml : 0 < m.length := List.length_pos_iff.2 hm
      simp only [List.length_nil, Nat.zero_add] at hbd
      have hold : (Builtin.firstCells i.size 0 (.slice none 0 0)).run P w.drew = .ok ([] : List Value).toArray w.drew := run_firstCells_none w.drew i.size 0 0 0
      have hrun := append_grows (P := P) (w := w) (ty := ty) (base := none) (sLen := 0) (sCap := 0) (us := []) h0 h1 ht hu hd hi hz0 hs.len (hsrc w.drew rfl) hold (by omega) (by rw [hz2]; omega) (by omega)
      have hge := grownCap_ge w (0 + m.length) 0 5
      have hmx := grownCap_le_maxLen w (0 + m.length) 0 5 (by unfold maxLen; omega)
      unfold maxLen at hmx
      simp only [Nat.zero_add] at hrun hge hmx
      refine ⟨_, _, hrun, .inr ⟨w.heap.size, grownCap w m.length 0 5, by simp, hB, by omega, ⟨_, 0, 0, heap_alloc_new w.drew _, .inr rfl, ?_, by simpa using hge, fun j c hj => ?_⟩⟩, (Below.refl _ _).drew.alloc hB _⟩
      · simp [vbytes, Builtin.zeroCells, Value.cells]
        omega
      · have hjl := (List.getElem?_eq_some_iff.1 hj).1
        simp at hjl hj
        rw [Array.getElem?_append_left (by simp [vbytes]; omega), Array.getElem?_append_right (by simp)]
        simp [vbytes, hj]
  · obtain ⟨b', cap', w', e1, e2, e3, e4, e5, _⟩ := run_append_row (P := P) (ts := ts) (ty := ty) h0 h1 ht hu hd hi hz0 hz1 hz2 hrow hs hb hcap hbd
    exact ⟨_, w', e1, .inr ⟨b', cap', by rw [List.length_append], e4, e5, e2⟩, e3⟩
theorem wpList_append_rb {P : Program} {ops : Array Oper} {rest : List Oper} {o : Oper} {a : Act} {w : World} {Q : Exit → Act → World → Prop} (hgd : o.guard = none) (s x : Operand) (t u : TypeId)
    (ho : o.op = .call { callee := .builtin .append, args := #[s, x], argTypes := #[t, u] }) {d : TypeDesc} {i : TypeInfo}
    (ht : P.underlying t = some (.slice 5)) (hu : P.underlying u = some d) (hd : ∀ k, d ≠ .int k) (hi : P.info? 5 = some i) (hz0 : i.zero = some (.int .u8 0)) (hz1 : i.size = 1) (hz2 : i.bytes = 1)
    {B : Nat} {l m : List UInt8} {sv v : Value} (hs : a.eval s = sv) (hx : a.eval x = v) (hr : RB B w sv l) (hv : Src P w v m) (hB : B ≤ w.heap.size) (hbd : l.length + m.length ≤ 1000000)
    (h : ∀ s' w', RB B w' s' (l ++ m) → Below B w w' → wpList P ops Q rest (a.put o.dst s') w') : wpList P ops Q (o :: rest) a w :=
  wpList_plain hgd fun _ hK => by
    obtain ⟨s', w', e1, e2, e3⟩ := run_append_rb (P := P) (ts := #[t, u]) (ty := o.type) (t := t) (u := u) rfl rfl ht hu hd hi hz0 hz1 hz2 hr hv hB hbd
    unfold Oper.wp execOp
    simp only [ho, resolve, invoke, builtin, Sem.run_bind, Sem.run_pure, Result.andThen_ok, List.map_toArray, List.map_cons, List.map_nil, hs, hx, e1]
    exact hK _ _ (h s' w' e2 e3)
/-- A literal's row as a source. -/
theorem Src.lit (P : Program) (w : World) (l : List UInt8) : Src P (w.alloc (.cells (vbytes l).toArray 5)) (.slice (some ⟨w.heap.size, 0, none⟩) l.length l.length) l := by
  refine Src.row (cap := l.length) ⟨_, 0, 0, heap_alloc_new w _, .inr rfl, by simp [vbytes], Nat.le_refl _, fun j c hj => ?_⟩
  rw [List.getElem?_toArray]
  simp only [vbytes, List.getElem?_map, hj, Option.map_some]
end Go.Rb

namespace Go.Tx
/-- Digits before a text, until nothing is left of the number. -/
def decG (k : Nat) (s : List UInt8) : List UInt8 :=
  if h : k = 0 then (if s = [] then [48] else s) else decG (k / 10) (UInt8.ofNat (48 + k % 10) :: s)
termination_by k
decreasing_by omega
theorem decG_zero (s : List UInt8) (h : ¬ s = []) : decG 0 s = s := by unfold decG; simp [h]
theorem decG_pos {k : Nat} (s : List UInt8) (h : 0 < k) : decG k s = decG (k / 10) (UInt8.ofNat (48 + k % 10) :: s) := by
  rw [decG, dif_neg (by omega)]
theorem decG_nil : decG 0 [] = decG (0 / 10) (UInt8.ofNat (48 + 0 % 10) :: []) := by
  show decG 0 [] = decG 0 [48]
  rw [decG_zero [48] (by simp)]
  unfold decG; simp
def emptyN : Value → Nat
  | .string s => 1 - s.size
  | _ => 0
end Go.Tx
namespace Go.Proofs.YtfmnemcnonbkfaaGreatDoor
open Go.RowKit Go.Lib Go.Tx
theorem toList_data (s : ByteArray) : s.toList = s.data.toList := by
  exact Go.Lib.toList_data s
theorem byte_str (w : World) (c : UInt8) : (convert 22 9 (.slice (some ⟨w.heap.size, 0, none⟩) 1 1)).run Tryz.prog (w.alloc (.cells #[.int .u8 (c.toNat : Int)] 5)) = .ok (.string ⟨#[c]⟩) (w.alloc (.cells #[.int .u8 (c.toNat : Int)] 5)) := by
  have := run_convert_bytes_back (P := Tryz.prog) (w.alloc (.cells #[.int .u8 (c.toNat : Int)] 5)) 22 9 5 ⟨w.heap.size, 0, none⟩ 1 [c] Tryz.underlying22 Tryz.underlying5 Tryz.underlying9 (fun j hj => by
    have ha : (⟨w.heap.size, 0, none⟩ : Addr).add j = ⟨w.heap.size, j, none⟩ := by unfold Addr.add; split <;> simp_all
    rw [ha, World.cell?_alloc_new]
    have : j = 0 := by simpa using hj
    subst this
    rfl)
  exact this
def TextR (w : World) (l : List UInt8) (e : Ending) (w' : World) : Prop := e = .returned (.string ⟨l.toArray⟩) ∧ Below w.heap.size w w'
end Go.Proofs.YtfmnemcnonbkfaaGreatDoor

namespace Go.Rb
open Go.Ev
theorem RB.mono {B B' : Nat} {w : World} {v : Value} {l : List UInt8} (h : RB B w v l) (hB : B' ≤ B) : RB B' w v l := by
  rcases h with h | ⟨b, cap, h1, h2, h3, h4⟩
  · exact .inl h
  · exact .inr ⟨b, cap, h1, Nat.le_trans hB h2, h3, h4⟩
theorem lit2 {P : Program} {x y : Int} {c d : UInt8} (w : World) (ty : Unit) (hx : (c.toNat : Int) = x) (hy : (d.toNat : Int) = y) :
    Src P (w.alloc (.cells #[.int .u8 x, .int .u8 y] 5)) (.slice (some ⟨w.heap.size, 0, none⟩) 2 2) [c, d] := by
  subst hx hy
  exact Src.lit P w [c, d]
theorem src_text (P : Program) (w : World) (l : List UInt8) : Src P w (.string ⟨l.toArray⟩) l := Src.str P w ⟨l.toArray⟩
end Go.Rb
namespace Go.Proofs.YtfmnemcnonbkfaaGreatDoor
open Go.RowKit Go.Lib Go.Tx Go.Rb Go.Ev
def GroupsR (w : World) (r : Option (List UInt8)) (e : Ending) (w' : World) : Prop :=
  Below w.heap.size w w' ∧ match r with
    | none => e = .returned (.tuple #[.slice none 0 0, .bool false])
    | some l => ∃ v, e = .returned (.tuple #[v, .bool true]) ∧ RB w.heap.size w' v l
theorem four_call (l : List UInt8) (w : World) (hn : l.length ≤ 1000000) : Calls Tryz.prog 26 #[.string ⟨l.toArray⟩] w (FourR w (fourP (splitL 46 l))) := by
  have := four_any ⟨l.toArray⟩ w (by show l.toArray.size ≤ _; simpa using hn)
  simpa using this
theorem groups_nil (last : Bool) (s : ByteArray) (w : World) (h : s.data.toList = []) :
    Calls Tryz.prog 27 #[.string s, .bool last] w (GroupsR w (groupsP last s.data.toList)) := by
  have HG : Hid (groupsP last s.data.toList = some []) := Lib.hid (by unfold groupsP; rw [if_pos h])
  have e1 : s = ⟨#[]⟩ := by apply ByteArray.ext; apply Array.ext'; exact h
  subst e1
  clear h
  go_enter Tryz.func27, Tryz.ntmps27
  go_wp2
  go_ret2
  unfold GroupsR
  rw [HG.out]
  exact ⟨Below.refl _ _, _, rfl, RB.nil _ _⟩
set_option maxHeartbeats 4000000 in
set_option maxRecDepth 100000 in
theorem groups_any (last : Bool) (s : ByteArray) (w : World) (hn : s.size ≤ 100000) :
    Calls Tryz.prog 27 #[.string s, .bool last] w (GroupsR w (groupsP last s.data.toList)) := by
  by_cases h0 : s.data.toList = []
  · exact groups_nil last s w h0
  obtain ⟨i5, hi, hz0, hz1, hz2⟩ := info_parts info5
  have hbnd := splitG_len 58 s.data.toList []
  have hlen : s.data.toList.length = s.size := rfl
  obtain ⟨P, hP⟩ : ∃ P, splitL 58 s.data.toList = P := ⟨_, rfl⟩
  have hP' : splitG 58 [] s.data.toList = P := hP
  rw [hP', hlen] at hbnd
  have HG : Hid (groupsP last s.data.toList = accG last P P.length) := Lib.hid (by unfold groupsP; rw [if_neg h0, hP])
  have hmem : ∀ l ∈ P, l.length ≤ s.size := fun l hl => by
    rw [← hP'] at hl
    have := splitG_mem 58 s.data.toList [] l hl
    rw [hlen] at this
    simpa using this
  have hsplit : ∀ W, Calls Tryz.prog 28 #[.string s, .int .u8 58] W (SplitR W P) := fun W => by
    have := split_any s 58 W (by omega)
    rw [hP] at this
    exact this
  have HS := Lib.hid hsplit
  have HM := Lib.hid hmem
  have e1 : ¬ s.toList = [] := by rw [toList_data]; exact h0
  have e2 : s.toList.isEmpty = false := by cases hh : s.toList with | nil => exact absurd hh e1 | cons x y => rfl
  have H0 := Lib.hid h0
  clear hsplit hmem hP hP' hlen h0
  generalize hN : P.length = N at hbnd
  have HN := Lib.hid hN
  rw [hN] at HG
  clear hN
  go_enter Tryz.func27, Tryz.ntmps27
  go_wp2_with (go_at_call 28; refine (HS.out _).mono ?_; rintro e w2 ⟨v, rfl, hs, hb⟩; obtain ⟨p, c, rfl, hc, hm, hr⟩ := hs.read; rw [HN.out] at hc ⊢; have HR := Lib.hid hr; clear hr hs)
  have HBW := Lib.hid hb
  clear hb
  go_loopw [7, 8] (fun bv i wr => ∃ (k : Nat) (a : List UInt8), k ≤ N ∧ i = .int .i64 k ∧ RB w2.heap.size wr bv a ∧ Hid (accG last P k = some a) ∧ Below w2.heap.size w2 wr) (fun _ i _ => N - (intOf i).toNat)
  case atStart => exact ⟨0, [], Nat.zero_le _, rfl, RB.nil _ _, Lib.hid rfl, Below.refl _ _⟩
  case round =>
    obtain ⟨k, a, hk, rfl, hO, hacc, hbw⟩ := hrel
    have hws := hbw.size
    have HO := Lib.hid hO
    clear hO
    have hal := accG_len hacc.out
    by_cases hlt : k < N
    · obtain ⟨l, hl⟩ : ∃ l, P[k]? = some l := ⟨_, List.getElem?_eq_getElem (by rw [HN.out]; exact hlt)⟩
      obtain ⟨g, rfl, hg, hcell0⟩ := HR.out k l hl
      have hcell : wr.cell? ⟨g, k, none⟩ = some (.string ⟨l.toArray⟩) := (hbw.cell (p := ⟨g, k, none⟩) hg).trans hcell0
      have hll : l.length ≤ 100000 := Nat.le_trans (HM.out l (List.mem_of_getElem? hl)) hn
      have HL := Lib.hid hl
      clear hcell0 hl
      obtain ⟨T, hT⟩ : ∃ T, (last && decide (k + 1 = P.length)) = T := ⟨_, rfl⟩
      rw [HN.out] at hT
      by_cases hfour : T = true ∧ ∃ f, fourP (splitL 46 l) = some f
      · obtain ⟨rfl, f, hf⟩ := hfour
        obtain ⟨rfl, hk1⟩ : last = true ∧ k + 1 = N := by simpa using hT
        have hbq : ((k : Int) == (N : Int) - 1) = true := by simp; omega
        have HF := Lib.hid hf
        have hfl := partG_len (partG_four hf)
        have HA : Hid (accG true P (k + 1) = some (a ++ f)) := Lib.hid (accG_step hacc.out HL.out (by rw [HN.out]; simpa using hk1) (partG_four hf))
        clear hf hT
        go_wp2_with (first | (go_at_call 26; refine (four_call l _ (by omega)).mono ?_; rw [HF.out]; rintro e w3 ⟨rfl, hb3⟩; simp only [Option.getD_some, Option.isSome_some]) | (at_builtin; refine wpList_append_rb rfl _ _ 22 9 rfl Tryz.underlying22 Tryz.underlying9 (by intro k h; cases h) hi hz0 hz1 hz2 (B := w2.heap.size) (l := a) (m := f) rfl rfl (HO.out.below hb3) (src_text _ _ f) (Nat.le_trans hws hb3.size) (by omega) ?_; intro s' w4 hO4 hb4))
        go_roundw
        case rel => exact ⟨k + 1, a ++ f, hlt, by go_num, hO4, HA, (hbw.trans (hb3.mono hws)).trans hb4⟩
        case measure => simp [intOf]; omega
      · have hpg : partG T l = hexG l := partG_hex (fun h => by
          cases e : fourP (splitL 46 l) with
          | none => rfl
          | some f => exact absurd ⟨h, f, e⟩ hfour)
        have HK : Hid (hexG l = none → accG last P N = none) := Lib.hid (fun h => by
          have := accG_stop (last := last) HL.out (by rw [HN.out]; exact hT) (hpg.trans h)
          rwa [HN.out] at this)
        have HY : Hid (∀ x, hexG l = some x → accG last P (k + 1) = some (a ++ x)) := Lib.hid (fun x h => accG_step hacc.out HL.out (by rw [HN.out]; exact hT) (hpg.trans h))
        have hf4 : T = true → fourP (splitL 46 l) = none := fun h => by
          cases e : fourP (splitL 46 l) with
          | none => rfl
          | some f => exact absurd ⟨h, f, e⟩ hfour
        clear hfour hpg
        obtain ⟨q, rfl⟩ : ∃ q : ByteArray, l = q.data.toList := ⟨⟨l.toArray⟩, by simp⟩
        have hqe : (⟨q.data.toList.toArray⟩ : ByteArray) = q := by simp
        rw [hqe] at hcell
        clear hqe
        have hql : q.size ≤ 100000 := hll
        clear hll
        cases last with
        | false =>
          clear hf4 hT
          by_cases hq1 : q.size < 1
          · have HX : Hid (hexG q.data.toList = none) := Lib.hid (hexG_len (.inl hq1))
            go_wp2
            go_ret2
            exact ⟨HBW.out.trans (hbw.mono HBW.out.size), by rw [HG.out, HK.out HX.out]; rfl⟩
          by_cases hq4 : 4 < q.size
          · have HX : Hid (hexG q.data.toList = none) := Lib.hid (hexG_len (.inr hq4))
            go_wp2
            go_ret2
            exact ⟨HBW.out.trans (hbw.mono HBW.out.size), by rw [HG.out, HK.out HX.out]; rfl⟩
          have hq1 : 1 ≤ q.size := by omega
          have hq4 : q.size ≤ 4 := by omega
          go_wp2
          go_loop [11, 12, 13] (fun n j _ => ∃ x : Nat, x ≤ q.size ∧ j = .int .i64 x ∧ n = .int .i64 (hexA (q.data.toList.take x)) ∧ Hid (hexOk (q.data.toList.take x) = true)) (fun _ j _ => q.size - (intOf j).toNat)
          case atStart => exact ⟨0, Nat.zero_le _, rfl, rfl, Lib.hid rfl⟩
          case round =>
            obtain ⟨x, hx, rfl, rfl, hok⟩ := hrel
            have hbd := hexA_bd4 (q.data.toList.take x) (by rw [List.length_take]; omega) hok.out
            by_cases hxl : x < q.size
            · have hc : q.data.toList[x]? = some q[x] := List.getElem?_eq_getElem hxl
              have HC := Lib.hid hc
              have hvb := hexV_bd q[x]
              clear hc
              by_cases hneg : hexV q[x] < 0
              · have HX : Hid (hexG q.data.toList = none) := Lib.hid (hexG_bad HC.out hneg)
                go_wp2_with (go_at_call 46; refine (hex_any _ _).mono ?_; rintro e w5 ⟨rfl, rfl⟩)
                go_ret2
                exact ⟨HBW.out.trans (hbw.mono HBW.out.size), by rw [HG.out, HK.out HX.out]; rfl⟩
              · have hpos : 0 ≤ hexV q[x] := by omega
                have HT : Hid (q.data.toList.take (x + 1) = q.data.toList.take x ++ [q[x]]) := Lib.hid (stake_succ _ _ _ HC.out)
                go_wp2_with (go_at_call 46; refine (hex_any _ _).mono ?_; rintro e w5 ⟨rfl, rfl⟩)
                go_round
                case rel => exact ⟨x + 1, hxl, by go_num, by rw [HT.out, hexA_snoc], Lib.hid (by rw [HT.out, hexOk_snoc, hok.out]; simpa using hpos)⟩
                case measure => simp [intOf]; omega
            · obtain rfl : x = q.size := by omega
              have htk : q.data.toList.take q.size = q.data.toList := List.take_of_length_le (Nat.le_refl q.data.toList.length)
              rw [htk] at hbd hok ⊢
              obtain ⟨m, hm⟩ : ∃ m : Nat, hexA q.data.toList = m := ⟨(hexA q.data.toList).toNat, by omega⟩
              have HX : Hid (hexG q.data.toList = some [UInt8.ofNat (m / 256), UInt8.ofNat (m % 256)]) := Lib.hid (by
                rw [hexG_ok (by show ¬ (q.size < 1 ∨ 4 < q.size); omega) hok.out, hm]; rfl)
              have HY2 := Lib.hid (HY.out _ HX.out)
              rw [hm] at hbd ⊢
              clear htk hm
              go_wp2_with (at_builtin; refine wpList_append_rb rfl _ _ 22 22 rfl Tryz.underlying22 Tryz.underlying22 (by intro k h; cases h) hi hz0 hz1 hz2 (B := w2.heap.size) (l := a) (m := [UInt8.ofNat (m / 256), UInt8.ofNat (m % 256)]) rfl rfl (HO.out.alloc _) (lit2 _ () (by simp; omega) (by simp)) (Nat.le_trans hws (Nat.le_of_lt (by simp))) (by simp; omega) ?_; intro s' w5 hO5 hb5)
              go_roundw
              case rel => exact ⟨k + 1, a ++ [UInt8.ofNat (m / 256), UInt8.ofNat (m % 256)], hlt, by go_num, hO5, HY2, (hbw.alloc hws _).trans hb5⟩
              case measure => simp [intOf]; omega
        | true =>
          by_cases hk1 : k + 1 = N
          · have hbq : ((k : Int) == (N : Int) - 1) = true := by simp; omega
            have HF : Hid (fourP (splitL 46 q.data.toList) = none) := Lib.hid (hf4 (by rw [← hT]; simpa using hk1))
            clear hf4 hT
            by_cases hq1 : q.size < 1
            · have HX : Hid (hexG q.data.toList = none) := Lib.hid (hexG_len (.inl hq1))
              go_wp2_with (go_at_call 26; refine (four_any q _ (by omega)).mono ?_; rw [HF.out]; rintro e w3 ⟨rfl, hb3⟩; simp only [Option.getD_none, Option.isSome_none]; have hc3 := (hb3.cell (p := ⟨g, k, none⟩) (Nat.lt_of_lt_of_le hg hws)).trans hcell)
              go_ret2
              exact ⟨HBW.out.trans ((hbw.trans (hb3.mono hws)).mono HBW.out.size), by rw [HG.out, HK.out HX.out]; rfl⟩
            by_cases hq4 : 4 < q.size
            · have HX : Hid (hexG q.data.toList = none) := Lib.hid (hexG_len (.inr hq4))
              go_wp2_with (go_at_call 26; refine (four_any q _ (by omega)).mono ?_; rw [HF.out]; rintro e w3 ⟨rfl, hb3⟩; simp only [Option.getD_none, Option.isSome_none]; have hc3 := (hb3.cell (p := ⟨g, k, none⟩) (Nat.lt_of_lt_of_le hg hws)).trans hcell)
              go_ret2
              exact ⟨HBW.out.trans ((hbw.trans (hb3.mono hws)).mono HBW.out.size), by rw [HG.out, HK.out HX.out]; rfl⟩
            have hq1 : 1 ≤ q.size := by omega
            have hq4 : q.size ≤ 4 := by omega
            go_wp2_with (go_at_call 26; refine (four_any q _ (by omega)).mono ?_; rw [HF.out]; rintro e w3 ⟨rfl, hb3⟩; simp only [Option.getD_none, Option.isSome_none]; have hc3 := (hb3.cell (p := ⟨g, k, none⟩) (Nat.lt_of_lt_of_le hg hws)).trans hcell)
            go_loop [11, 12, 13] (fun n j _ => ∃ x : Nat, x ≤ q.size ∧ j = .int .i64 x ∧ n = .int .i64 (hexA (q.data.toList.take x)) ∧ Hid (hexOk (q.data.toList.take x) = true)) (fun _ j _ => q.size - (intOf j).toNat)
            case atStart => exact ⟨0, Nat.zero_le _, rfl, rfl, Lib.hid rfl⟩
            case round =>
              obtain ⟨x, hx, rfl, rfl, hok⟩ := hrel
              have hbd := hexA_bd4 (q.data.toList.take x) (by rw [List.length_take]; omega) hok.out
              by_cases hxl : x < q.size
              · have hc : q.data.toList[x]? = some q[x] := List.getElem?_eq_getElem hxl
                have HC := Lib.hid hc
                have hvb := hexV_bd q[x]
                clear hc
                by_cases hneg : hexV q[x] < 0
                · have HX : Hid (hexG q.data.toList = none) := Lib.hid (hexG_bad HC.out hneg)
                  go_wp2_with (go_at_call 46; refine (hex_any _ _).mono ?_; rintro e w5 ⟨rfl, rfl⟩)
                  go_ret2
                  exact ⟨HBW.out.trans ((hbw.trans (hb3.mono hws)).mono HBW.out.size), by rw [HG.out, HK.out HX.out]; rfl⟩
                · have hpos : 0 ≤ hexV q[x] := by omega
                  have HT : Hid (q.data.toList.take (x + 1) = q.data.toList.take x ++ [q[x]]) := Lib.hid (stake_succ _ _ _ HC.out)
                  go_wp2_with (go_at_call 46; refine (hex_any _ _).mono ?_; rintro e w5 ⟨rfl, rfl⟩)
                  go_round
                  case rel => exact ⟨x + 1, hxl, by go_num, by rw [HT.out, hexA_snoc], Lib.hid (by rw [HT.out, hexOk_snoc, hok.out]; simpa using hpos)⟩
                  case measure => simp [intOf]; omega
              · obtain rfl : x = q.size := by omega
                have htk : q.data.toList.take q.size = q.data.toList := List.take_of_length_le (Nat.le_refl q.data.toList.length)
                rw [htk] at hbd hok ⊢
                obtain ⟨m, hm⟩ : ∃ m : Nat, hexA q.data.toList = m := ⟨(hexA q.data.toList).toNat, by omega⟩
                have HX : Hid (hexG q.data.toList = some [UInt8.ofNat (m / 256), UInt8.ofNat (m % 256)]) := Lib.hid (by
                  rw [hexG_ok (by show ¬ (q.size < 1 ∨ 4 < q.size); omega) hok.out, hm]; rfl)
                have HY2 := Lib.hid (HY.out _ HX.out)
                rw [hm] at hbd ⊢
                clear htk hm
                go_wp2_with (at_builtin; refine wpList_append_rb rfl _ _ 22 22 rfl Tryz.underlying22 Tryz.underlying22 (by intro k h; cases h) hi hz0 hz1 hz2 (B := w2.heap.size) (l := a) (m := [UInt8.ofNat (m / 256), UInt8.ofNat (m % 256)]) rfl rfl ((HO.out.below hb3).alloc _) (lit2 _ () (by simp; omega) (by simp)) (Nat.le_trans (Nat.le_trans hws hb3.size) (Nat.le_of_lt (by simp))) (by simp; omega) ?_; intro s' w5 hO5 hb5)
                go_roundw
                case rel => exact ⟨k + 1, a ++ [UInt8.ofNat (m / 256), UInt8.ofNat (m % 256)], hlt, by go_num, hO5, HY2, ((hbw.trans (hb3.mono hws)).alloc (Nat.le_trans hws hb3.size) _).trans hb5⟩
                case measure => simp [intOf]; omega
          · have hbq : ((k : Int) == (N : Int) - 1) = false := by rw [beq_eq_false_iff_ne]; omega
            clear hf4 hT
            by_cases hq1 : q.size < 1
            · have HX : Hid (hexG q.data.toList = none) := Lib.hid (hexG_len (.inl hq1))
              go_wp2
              go_ret2
              exact ⟨HBW.out.trans (hbw.mono HBW.out.size), by rw [HG.out, HK.out HX.out]; rfl⟩
            by_cases hq4 : 4 < q.size
            · have HX : Hid (hexG q.data.toList = none) := Lib.hid (hexG_len (.inr hq4))
              go_wp2
              go_ret2
              exact ⟨HBW.out.trans (hbw.mono HBW.out.size), by rw [HG.out, HK.out HX.out]; rfl⟩
            have hq1 : 1 ≤ q.size := by omega
            have hq4 : q.size ≤ 4 := by omega
            go_wp2
            go_loop [11, 12, 13] (fun n j _ => ∃ x : Nat, x ≤ q.size ∧ j = .int .i64 x ∧ n = .int .i64 (hexA (q.data.toList.take x)) ∧ Hid (hexOk (q.data.toList.take x) = true)) (fun _ j _ => q.size - (intOf j).toNat)
            case atStart => exact ⟨0, Nat.zero_le _, rfl, rfl, Lib.hid rfl⟩
            case round =>
              obtain ⟨x, hx, rfl, rfl, hok⟩ := hrel
              have hbd := hexA_bd4 (q.data.toList.take x) (by rw [List.length_take]; omega) hok.out
              by_cases hxl : x < q.size
              · have hc : q.data.toList[x]? = some q[x] := List.getElem?_eq_getElem hxl
                have HC := Lib.hid hc
                have hvb := hexV_bd q[x]
                clear hc
                by_cases hneg : hexV q[x] < 0
                · have HX : Hid (hexG q.data.toList = none) := Lib.hid (hexG_bad HC.out hneg)
                  go_wp2_with (go_at_call 46; refine (hex_any _ _).mono ?_; rintro e w5 ⟨rfl, rfl⟩)
                  go_ret2
                  exact ⟨HBW.out.trans (hbw.mono HBW.out.size), by rw [HG.out, HK.out HX.out]; rfl⟩
                · have hpos : 0 ≤ hexV q[x] := by omega
                  have HT : Hid (q.data.toList.take (x + 1) = q.data.toList.take x ++ [q[x]]) := Lib.hid (stake_succ _ _ _ HC.out)
                  go_wp2_with (go_at_call 46; refine (hex_any _ _).mono ?_; rintro e w5 ⟨rfl, rfl⟩)
                  go_round
                  case rel => exact ⟨x + 1, hxl, by go_num, by rw [HT.out, hexA_snoc], Lib.hid (by rw [HT.out, hexOk_snoc, hok.out]; simpa using hpos)⟩
                  case measure => simp [intOf]; omega
              · obtain rfl : x = q.size := by omega
                have htk : q.data.toList.take q.size = q.data.toList := List.take_of_length_le (Nat.le_refl q.data.toList.length)
                rw [htk] at hbd hok ⊢
                obtain ⟨m, hm⟩ : ∃ m : Nat, hexA q.data.toList = m := ⟨(hexA q.data.toList).toNat, by omega⟩
                have HX : Hid (hexG q.data.toList = some [UInt8.ofNat (m / 256), UInt8.ofNat (m % 256)]) := Lib.hid (by
                  rw [hexG_ok (by show ¬ (q.size < 1 ∨ 4 < q.size); omega) hok.out, hm]; rfl)
                have HY2 := Lib.hid (HY.out _ HX.out)
                rw [hm] at hbd ⊢
                clear htk hm
                go_wp2_with (at_builtin; refine wpList_append_rb rfl _ _ 22 22 rfl Tryz.underlying22 Tryz.underlying22 (by intro k h; cases h) hi hz0 hz1 hz2 (B := w2.heap.size) (l := a) (m := [UInt8.ofNat (m / 256), UInt8.ofNat (m % 256)]) rfl rfl (HO.out.alloc _) (lit2 _ () (by simp; omega) (by simp)) (Nat.le_trans hws (Nat.le_of_lt (by simp))) (by simp; omega) ?_; intro s' w5 hO5 hb5)
                go_roundw
                case rel => exact ⟨k + 1, a ++ [UInt8.ofNat (m / 256), UInt8.ofNat (m % 256)], hlt, by go_num, hO5, HY2, (hbw.alloc hws _).trans hb5⟩
                case measure => simp [intOf]; omega
    · obtain rfl : k = N := by omega
      go_wp2
      go_ret2
      unfold GroupsR
      rw [HG.out, hacc.out]
      exact ⟨HBW.out.trans (hbw.mono HBW.out.size), _, rfl, HO.out.mono HBW.out.size⟩
end Go.Proofs.YtfmnemcnonbkfaaGreatDoor

namespace Go.Tx
def ccAt (l : List UInt8) (k : Nat) : Bool := decide (l[k]? = some 58) && decide (l[k + 1]? = some 58)
def dblP (l : List UInt8) (k : Nat) : Option (List UInt8) :=
  match groupsP false (l.take k), groupsP true (l.drop (k + 2)) with
  | some a, some b => if 14 < a.length + b.length then none else some (a ++ List.replicate (16 - a.length - b.length) 0 ++ b)
  | _, _ => none
def parseP (l : List UInt8) : Option (List UInt8) :=
  match fourP (splitL 46 l) with
  | some f => some f
  | none => match (List.range l.length).find? (ccAt l) with
    | some k => dblP l k
    | none => match groupsP true l with
      | some b => if b.length = 16 then some b else none
      | none => none
theorem cc_some {l : List UInt8} {k : Nat} (h : ∀ j, j < k → ccAt l j = false) (hk : ccAt l k = true) : (List.range l.length).find? (ccAt l) = some k := by
  rw [List.find?_range_eq_some]
  refine ⟨hk, ?_, fun j hj => by simp [h j hj]⟩
  unfold ccAt at hk
  simp only [Bool.and_eq_true, decide_eq_true_eq] at hk
  exact List.mem_range.2 (List.getElem?_eq_some_iff.1 hk.1).1
theorem cc_none {l : List UInt8} {k : Nat} (h : ∀ j, j < k → ccAt l j = false) (hk : l.length ≤ k + 1) : (List.range l.length).find? (ccAt l) = none := by
  rw [List.find?_eq_none]
  intro j hj
  have hj := List.mem_range.1 hj
  by_cases hjk : j < k
  · simp [h j hjk]
  · have : l[j + 1]? = none := List.getElem?_eq_none (by omega)
    simp [ccAt, this]
theorem cc_step {l : List UInt8} {k : Nat} (h : ∀ j, j < k → ccAt l j = false) (hk : ccAt l k = false) : ∀ j, j < k + 1 → ccAt l j = false := fun j hj => by
  by_cases e : j = k
  · rw [e]; exact hk
  · exact h j (by omega)
end Go.Tx
namespace Go.Proofs.YtfmnemcnonbkfaaGreatDoor
open Go.RowKit Go.Lib Go.Tx Go.Rb Go.Ev
theorem parse_four (s : ByteArray) (f : List UInt8) (w : World) (hn : s.size ≤ 100000) (hf : fourP (splitL 46 s.data.toList) = some f) :
    Calls Tryz.prog 16 #[.string s] w (FourR w (parseP s.data.toList)) := by
  have HX : Hid (parseP s.data.toList = some f) := Lib.hid (by unfold parseP; rw [hf])
  have HF := Lib.hid hf
  clear hf
  go_enter Tryz.func16, Tryz.ntmps16
  go_wp2_with (go_at_call 26; refine (four_any s _ (by omega)).mono ?_; rw [HF.out]; rintro e w3 ⟨rfl, hb3⟩; simp only [Option.getD_some, Option.isSome_some])
  go_ret2
  unfold FourR
  rw [HX.out]
  exact ⟨rfl, hb3⟩
theorem ext_take (s : ByteArray) (k : Nat) : (s.extract 0 k).data.toList = s.data.toList.take k := by
  simp [ByteArray.extract, ByteArray.copySlice, List.extract]
theorem ext_from (s : ByteArray) (k : Nat) : (s.extract k s.size).data.toList = s.data.toList.drop k := by
  simp [ByteArray.extract, ByteArray.copySlice, List.extract]
  apply List.take_of_length_le
  simp
theorem groupsR_none {w w' : World} {r : Option (List UInt8)} {e : Ending} (h : r = none) (hg : GroupsR w r e w') : e = .returned (.tuple #[.slice none 0 0, .bool false]) ∧ Below w.heap.size w w' := by
  subst h; exact ⟨hg.2, hg.1⟩
theorem groupsR_some {w w' : World} {r : Option (List UInt8)} {l : List UInt8} {e : Ending} (h : r = some l) (hg : GroupsR w r e w') : ∃ v, e = .returned (.tuple #[v, .bool true]) ∧ RB w.heap.size w' v l ∧ Below w.heap.size w w' := by
  subst h
  obtain ⟨h1, v, h2, h3⟩ := hg
  exact ⟨v, h2, h3, h1⟩
end Go.Proofs.YtfmnemcnonbkfaaGreatDoor

namespace Go.Tx
open Go.Lib
/-- Settings. -/
structure SetL where
  servers : List (List UInt8)
  search : List (List UInt8)
  dots : Int
  tmo : Int
  att : Int
  rot : Bool
def set0 : SetL := ⟨[], [], 1, 5, 2, false⟩
def kNs : List UInt8 := [110, 97, 109, 101, 115, 101, 114, 118, 101, 114]
def kSe : List UInt8 := [115, 101, 97, 114, 99, 104]
def kOp : List UInt8 := [111, 112, 116, 105, 111, 110, 115]
def kNd : List UInt8 := [110, 100, 111, 116, 115, 58]
def kTi : List UInt8 := [116, 105, 109, 101, 111, 117, 116, 58]
def kAt : List UInt8 := [97, 116, 116, 101, 109, 112, 116, 115, 58]
def kRo : List UInt8 := [114, 111, 116, 97, 116, 101]
/-- A word of options: its number, if it is that one. -/
def optN (w name : List UInt8) (lo hi : Int) : Option Int :=
  if name.length < w.length ∧ w.take name.length = name then (if (numRes (w.drop name.length) hi).2 = true ∧ lo ≤ (numRes (w.drop name.length) hi).1 then some (numRes (w.drop name.length) hi).1 else none) else none
def optS (S : SetL) (w : List UInt8) : SetL := ⟨S.servers, S.search, (optN w kNd 0 15).getD S.dots, (optN w kTi 1 30).getD S.tmo, (optN w kAt 1 5).getD S.att, S.rot || decide (w = kRo)⟩
/-- A name as it is asked for. -/
def nmC (l : List UInt8) : Option (List UInt8) := if nameB (bare l) = true then some ((bare l).map low) else none
def searchP (r : List (List UInt8)) : List (List UInt8) := (r.filterMap nmC).take 6
def srvS (S : SetL) : List (List UInt8) → SetL
  | [] => S
  | a :: _ => if S.servers.length < 3 then (match parseP a with | some x => ⟨S.servers ++ [x], S.search, S.dots, S.tmo, S.att, S.rot⟩ | none => S) else S
/-- What a line says. -/
def lineS (S : SetL) : List (List UInt8) → SetL
  | [] => S
  | h :: r => if h = kNs then srvS S r else if h = kSe then ⟨S.servers, searchP r, S.dots, S.tmo, S.att, S.rot⟩ else if h = kOp then r.foldl optS S else S
def setupP (T : List (Nat × List (List UInt8))) : SetL := T.foldl (fun S t => lineS S t.2) set0
theorem lineS_cons (S : SetL) (h : List UInt8) (r : List (List UInt8)) : lineS S (h :: r) = if h = kNs then srvS S r else if h = kSe then ⟨S.servers, searchP r, S.dots, S.tmo, S.att, S.rot⟩ else if h = kOp then r.foldl optS S else S := rfl
theorem setupP_snoc (T : List (Nat × List (List UInt8))) (t : Nat × List (List UInt8)) : setupP (T ++ [t]) = lineS (setupP T) t.2 := by
  unfold setupP
  rw [List.foldl_append]
  rfl
theorem opts_snoc (S : SetL) (r : List (List UInt8)) (w : List UInt8) : (r ++ [w]).foldl optS S = optS (r.foldl optS S) w := by rw [List.foldl_append]; rfl
/-- One word more of a search list. -/
theorem search_snoc (r : List (List UInt8)) (w : List UInt8) : searchP (r ++ [w]) = if (searchP r).length < 6 then searchP r ++ (nmC w).toList else searchP r := by
  unfold searchP
  rw [List.filterMap_append]
  have e : List.filterMap nmC [w] = (nmC w).toList := by cases h : nmC w <;> simp [h]
  rw [e, List.take_append]
  by_cases h : (r.filterMap nmC).length < 6
  · rw [if_pos (by rw [List.length_take]; omega)]
    congr 1
    refine List.take_of_length_le ?_
    cases nmC w <;> simp <;> omega
  · rw [if_neg (by rw [List.length_take]; omega)]
    rw [show 6 - (r.filterMap nmC).length = 0 by omega]
    simp
theorem search_few (r : List (List UInt8)) : (searchP r).length ≤ 6 := by unfold searchP; rw [List.length_take]; omega
theorem srv_few (S : SetL) (ws : List (List UInt8)) (h : S.servers.length ≤ 3) : (lineS S ws).servers.length ≤ 3 := by
  have hopt : ∀ (r : List (List UInt8)) (S : SetL), (r.foldl optS S).servers = S.servers := by
    intro r
    induction r with
    | nil => intro S; rfl
    | cons w r ih => intro S; rw [List.foldl_cons, ih]; rfl
  cases ws with
  | nil => exact h
  | cons a r =>
    rw [lineS_cons]
    by_cases h1 : a = kNs
    · rw [if_pos h1]
      cases r with
      | nil => exact h
      | cons b r =>
        unfold srvS
        simp only
        by_cases h3 : S.servers.length < 3
        · rw [if_pos h3]
          cases parseP b with
          | none => exact h
          | some x => simp only [List.length_append, List.length_singleton]; omega
        · rw [if_neg h3]; exact h
    · rw [if_neg h1]
      by_cases h2 : a = kSe
      · rw [if_pos h2]; exact h
      · rw [if_neg h2]
        by_cases h3 : a = kOp
        · rw [if_pos h3, hopt]; exact h
        · rw [if_neg h3]; exact h
theorem setup_few (T : List (Nat × List (List UInt8))) : (setupP T).servers.length ≤ 3 := by
  unfold setupP
  have : ∀ (T : List (Nat × List (List UInt8))) (S : SetL), S.servers.length ≤ 3 → (T.foldl (fun S t => lineS S t.2) S).servers.length ≤ 3 := by
    intro T
    induction T with
    | nil => intro S h; exact h
    | cons t T ih => intro S h; exact ih _ (srv_few S t.2 h)
  exact this T set0 (by decide)
end Go.Tx

namespace Go.Tx
open Go.Lib
def kNd5 : List UInt8 := [110, 100, 111, 116, 115]
def kTi7 : List UInt8 := [116, 105, 109, 101, 111, 117, 116]
def kAt8 : List UInt8 := [97, 116, 116, 101, 109, 112, 116, 115]
/-- A number as the program sets it. -/
def numV (l : List UInt8) (lo hi set : Int) : Int := if (numRes l hi).2 = true ∧ lo ≤ (numRes l hi).1 then (numRes l hi).1 else set
theorem numV_nil (lo hi set : Int) : numV [] lo hi set = set := by unfold numV; rw [numRes_nil _ _ rfl]; simp
/-- A word cut at its first colon. -/
def cutC (l : List UInt8) : List UInt8 × List UInt8 := ((Lib.cut l [58]).1, (Lib.cut l [58]).2.1)
theorem index58 : ∀ (l : List UInt8), (58 ∈ l → ∃ k v, l = k ++ 58 :: v ∧ 58 ∉ k ∧ Lib.index l [58] = (k.length : Int)) ∧ (58 ∉ l → Lib.index l [58] = -1)
  | [] => ⟨(fun h => by cases h), fun _ => by decide⟩
  | c :: l => by
    obtain ⟨h1, h2⟩ := index58 l
    by_cases hc : c = 58
    · subst hc
      refine ⟨fun _ => ⟨[], l, rfl, by simp, ?_⟩, fun h => absurd (by simp) h⟩
      simp [Lib.index]
    · have hp : ([58] : List UInt8).isPrefixOf (c :: l) = false := by simp [List.isPrefixOf, Ne.symm hc]
      refine ⟨fun h => ?_, fun h => ?_⟩
      · obtain ⟨k, v, e1, e2, e3⟩ := h1 (by simpa [Ne.symm hc] using h)
        refine ⟨c :: k, v, by rw [e1]; rfl, by simp [e2, Ne.symm hc], ?_⟩
        unfold Lib.index
        rw [hp, e3]
        simp only [Bool.false_eq_true, if_false, beq_iff_eq]
        rw [if_neg (by omega)]
        simp
      · unfold Lib.index
        rw [hp, h2 (fun h3 => h (List.mem_cons_of_mem _ h3))]
        simp
theorem cutC_some {k v : List UInt8} (h : 58 ∉ k) : cutC (k ++ 58 :: v) = (k, v) := by
  obtain ⟨k2, v2, e1, e2, e3⟩ := (index58 (k ++ 58 :: v)).1 (by simp)
  have hl : k.length = k2.length := by
    rcases Nat.lt_trichotomy k.length k2.length with hlt | heq | hgt
    · exfalso
      have e := congrArg (fun l => l[k.length]?) e1
      simp only [List.getElem?_append_right (Nat.le_refl _), Nat.sub_self, List.getElem?_append_left hlt] at e
      exact e2 (List.mem_of_getElem? e.symm)
    · exact heq
    · exfalso
      have e := congrArg (fun l => l[k2.length]?) e1
      simp only [List.getElem?_append_right (Nat.le_refl _), Nat.sub_self, List.getElem?_append_left hgt] at e
      exact h (List.mem_of_getElem? e)
  unfold cutC Lib.cut
  rw [e3, if_pos (by omega), ← hl]
  have e4 : k.length + ([58] : List UInt8).length = (k ++ [58]).length := by simp
  simp only [Int.toNat_natCast]
  rw [e4]
  refine Prod.ext ?_ ?_
  · exact List.take_left
  · show List.drop (k ++ [58]).length (k ++ 58 :: v) = v
    rw [show k ++ 58 :: v = (k ++ [58]) ++ v by simp]
    exact List.drop_left
theorem cutC_none {l : List UInt8} (h : 58 ∉ l) : cutC l = (l, []) := by
  unfold cutC Lib.cut
  rw [(index58 l).2 h, if_neg (by decide)]
theorem cutC_len (l : List UInt8) : (cutC l).1.length ≤ l.length ∧ (cutC l).2.length ≤ l.length := by
  unfold cutC Lib.cut
  split <;> simp <;> omega
theorem optN_cut (l nm : List UInt8) (lo hi set : Int) (h : 58 ∉ nm) : (optN l (nm ++ [58]) lo hi).getD set = if (cutC l).1 = nm then numV (cutC l).2 lo hi set else set := by
  have hn : (nm ++ [58]).length = nm.length + 1 := by simp
  by_cases hm : 58 ∈ l
  · obtain ⟨k, v, rfl, hk, _⟩ := (index58 l).1 hm
    rw [cutC_some hk]
    simp only
    by_cases hkn : k = nm
    · subst hkn
      rw [if_pos rfl]
      unfold optN numV
      have e1 : (k ++ 58 :: v).take (k ++ [58]).length = k ++ [58] := by
        rw [show k ++ 58 :: v = (k ++ [58]) ++ v by simp]
        exact List.take_left
      have e2 : (k ++ 58 :: v).drop (k ++ [58]).length = v := by
        rw [show k ++ 58 :: v = (k ++ [58]) ++ v by simp]
        exact List.drop_left
      rw [e1, e2]
      cases v with
      | nil =>
        rw [if_neg (by simp), numRes_nil _ _ rfl]
        simp
      | cons c v =>
        rw [if_pos ⟨by simp, rfl⟩]
        split
        · rfl
        · rfl
    · rw [if_neg hkn]
      unfold optN
      rw [if_neg]
      · rfl
      · rintro ⟨h1, h2⟩
        have e : k ++ 58 :: v = nm ++ 58 :: (k ++ 58 :: v).drop (nm ++ [58]).length := by
          have h3 := List.take_append_drop (nm ++ [58]).length (k ++ 58 :: v)
          rw [h2, List.append_assoc] at h3
          exact h3.symm
        have e2 := cutC_some (v := v) hk
        rw [e, cutC_some h] at e2
        exact hkn (congrArg Prod.fst e2).symm
  · rw [cutC_none hm]
    simp only
    have e : optN l (nm ++ [58]) lo hi = none := by
      unfold optN
      rw [if_neg]
      rintro ⟨h1, h2⟩
      apply hm
      apply List.mem_of_mem_take (i := (nm ++ [58]).length)
      rw [h2]
      simp
    rw [e, numV_nil]
    simp
theorem kNd_is : kNd = kNd5 ++ [58] := rfl
theorem kTi_is : kTi = kTi7 ++ [58] := rfl
theorem kAt_is : kAt = kAt8 ++ [58] := rfl
/-- What the program sets by a word. -/
def optC (S : SetL) (y : List UInt8) : SetL :=
  if y = kRo then ⟨S.servers, S.search, S.dots, S.tmo, S.att, true⟩
  else if (cutC y).1 = kNd5 then ⟨S.servers, S.search, numV (cutC y).2 0 15 S.dots, S.tmo, S.att, S.rot⟩
  else if (cutC y).1 = kTi7 then ⟨S.servers, S.search, S.dots, numV (cutC y).2 1 30 S.tmo, S.att, S.rot⟩
  else if (cutC y).1 = kAt8 then ⟨S.servers, S.search, S.dots, S.tmo, numV (cutC y).2 1 5 S.att, S.rot⟩
  else S
theorem optS_optC (S : SetL) (y : List UInt8) : optS S y = optC S y := by
  unfold optS optC
  rw [kNd_is, kTi_is, kAt_is, optN_cut _ _ _ _ _ (by decide), optN_cut _ _ _ _ _ (by decide), optN_cut _ _ _ _ _ (by decide)]
  by_cases h : y = kRo
  · subst h
    rw [if_pos rfl, cutC_none (by decide)]
    simp only
    rw [if_neg (by decide), if_neg (by decide), if_neg (by decide)]
    simp
  · rw [if_neg h, decide_eq_false h]
    by_cases h1 : (cutC y).1 = kNd5
    · rw [if_pos h1, if_pos h1, h1, if_neg (by decide), if_neg (by decide)]
      simp
    · rw [if_neg h1, if_neg h1]
      by_cases h2 : (cutC y).1 = kTi7
      · rw [if_pos h2, if_pos h2, h2, if_neg (by decide)]
        simp
      · rw [if_neg h2, if_neg h2]
        by_cases h3 : (cutC y).1 = kAt8
        · rw [if_pos h3, if_pos h3]
          simp
        · rw [if_neg h3, if_neg h3]
          simp
end Go.Tx

namespace Go.Tx
open Go.Lib
def ust (l : List UInt8) (k : Nat) : List UInt8 × List (List UInt8) := (hashCut (l.take k)).foldl (stepW blankN) ([], [])
theorem take_succ' (l : List UInt8) (k : Nat) (b : UInt8) (h : l[k]? = some b) : l.take (k + 1) = l.take k ++ [b] := by
  have hk := (List.getElem?_eq_some_iff.1 h).1
  rw [List.take_succ_eq_append_getElem hk]
  rw [List.getElem?_eq_getElem hk] at h
  cases h
  rfl
theorem ust_rest {l : List UInt8} {k : Nat} {b : UInt8} (h : l[k]? = some b) (hr : (35 : UInt8) ∈ l.take k ∨ b = 35) : ust l (k + 1) = ust l k := by
  unfold ust
  rw [take_succ' l k b h, hashCut_snoc, if_pos hr]
theorem ust_step {l : List UInt8} {k : Nat} {b : UInt8} (h : l[k]? = some b) (h1 : ¬ (35 : UInt8) ∈ l.take k) (h2 : ¬ b = 35) : ust l (k + 1) = stepW blankN (ust l k) b := by
  unfold ust
  rw [take_succ' l k b h, hashCut_snoc, if_neg (by rintro (h | h) <;> contradiction), hashCut_none _ h1, List.foldl_append]
  rfl
theorem stepW_len {u : List UInt8 × List (List UInt8)} {c : UInt8} : (stepW blankN u c).1.length ≤ u.1.length + 1 ∧ (stepW blankN u c).2.length ≤ u.2.length + 1 := by
  unfold stepW
  split
  · split <;> simp
  · simp
theorem fold_len (l : List UInt8) : ∀ u : List UInt8 × List (List UInt8), (l.foldl (stepW blankN) u).1.length ≤ u.1.length + l.length ∧ (l.foldl (stepW blankN) u).2.length ≤ u.2.length + l.length := by
  induction l with
  | nil => intro u; simp
  | cons c l ih =>
    intro u
    have h1 := ih (stepW blankN u c)
    have h2 := @stepW_len u c
    simp only [List.foldl_cons, List.length_cons]
    omega
theorem takeWhile_len' {α : Type} (p : α → Bool) : ∀ l : List α, (l.takeWhile p).length ≤ l.length
  | [] => Nat.le_refl _
  | x :: l => by
    unfold List.takeWhile
    split
    · simp; exact takeWhile_len' p l
    · simp
theorem ust_len (l : List UInt8) (k : Nat) : (ust l k).1.length ≤ k ∧ (ust l k).2.length ≤ k := by
  have h1 := fold_len (hashCut (l.take k)) ([], [])
  have h2 : (hashCut (l.take k)).length ≤ (l.take k).length := takeWhile_len' _ _
  have h3 := List.length_take_le k l
  unfold ust
  simp only [List.length_nil, Nat.zero_add] at h1
  omega
/-- What holds at the head of a round. -/
structure OneI (l : List UInt8) (w : World) (k : Nat) (rest word lv : Value) (wr : World) (s : ByteArray) : Prop where
  rest : rest = .bool (decide ((35 : UInt8) ∈ l.take k))
  word : word = .string s
  text : s.data.toList = (ust l k).1
  row : StrC w.heap.size wr lv (ust l k).2
  fine : (l.take k).any forB = false
  bel : Go.RowKit.Below w.heap.size w wr
theorem any_snoc {l : List UInt8} {k : Nat} {b : UInt8} (h : l[k]? = some b) (h1 : (l.take k).any forB = false) (h2 : forB b = false) : (l.take (k + 1)).any forB = false := by
  rw [take_succ' l k b h, List.any_append, h1]
  simp [h2]
theorem mem_snoc {l : List UInt8} {k : Nat} {b : UInt8} (h : l[k]? = some b) : ((35 : UInt8) ∈ l.take (k + 1)) ↔ ((35 : UInt8) ∈ l.take k ∨ b = 35) := by
  rw [take_succ' l k b h, List.mem_append]
  simp
  constructor
  · rintro (h | h)
    · exact .inl h
    · exact .inr h.symm
  · rintro (h | h)
    · exact .inl h
    · exact .inr h.symm
end Go.Tx
namespace Go.Proofs.YtfmnemcnonbkfaaGreatDoor
open Go.RowKit Go.Lib Go.Tx Go.Proofs
theorem blank_any (c : UInt8) (w : World) :
    Calls Tryz.prog 45 #[.int .u8 (c.toNat : Int)] w fun e w' => e = .returned (.bool (blankN c.toNat)) ∧ w = w' := by
  by_cases h1 : c = 32
  · subst h1
    go_enter Tryz.func45, Tryz.ntmps45
    go_wp2
    all_goals (go_ret; exact ⟨rfl, rfl⟩)
  by_cases h2 : c = 9
  · subst h2
    go_enter Tryz.func45, Tryz.ntmps45
    go_wp2
    all_goals (go_ret; exact ⟨rfl, rfl⟩)
  by_cases h3 : c = 13
  · subst h3
    go_enter Tryz.func45, Tryz.ntmps45
    go_wp2
    all_goals (go_ret; exact ⟨rfl, rfl⟩)
  have t1 : ¬ c.toNat = 32 := fun h => h1 (UInt8.toNat_inj.1 h)
  have t2 : ¬ c.toNat = 9 := fun h => h2 (UInt8.toNat_inj.1 h)
  have t3 : ¬ c.toNat = 13 := fun h => h3 (UInt8.toNat_inj.1 h)
  have e0 : blankN c.toNat = false := by simp [blankN, t1, t2, t3]
  have e1 : ((c.toNat : Int) == 32) = false := by rw [beq_eq_false_iff_ne]; omega
  have e2 : ((c.toNat : Int) == 9) = false := by rw [beq_eq_false_iff_ne]; omega
  have e3 : ((c.toNat : Int) == 13) = false := by rw [beq_eq_false_iff_ne]; omega
  clear h1 h2 h3 t1 t2 t3
  have E0 := Lib.hid e0
  clear e0
  go_enter Tryz.func45, Tryz.ntmps45
  go_wp2
  all_goals (go_ret; exact ⟨ret_bool E0.out.symm, rfl⟩)
theorem info9o : (Tryz.prog.info? 9).map (fun i => (i.zero, i.size, i.bytes)) = some (some (.string ⟨#[]⟩), 1, 16) := by kernel_rfl
end Go.Proofs.YtfmnemcnonbkfaaGreatDoor

namespace Go.Proofs.YtfmnemcnonbkfaaGreatDoor
open Go.RowKit Go.Lib Go.Tx Go.Proofs
theorem idx10 (a : Option Addr) (n c : Nat) (l : List UInt8) (b2 : Nat) (w : World) (h : BA w a n c l) (h2 : w.cell? ⟨b2, 0, none⟩ = some (.int .u8 10)) :
    Calls Tryz.prog 32 #[.slice a n c, .slice (some ⟨b2, 0, none⟩) 1 1] w fun e w' => e = .returned (.int .i64 (Lib.indexByte l 10)) ∧ ∃ q, w' = w.drewN q := by
  have hlen := h.len
  cases a with
  | none =>
    have := h.none rfl
    have hcap := h.cap
    obtain rfl : c = 0 := by omega
    obtain rfl : n = 0 := by omega
    obtain rfl : l = [] := List.eq_nil_of_length_eq_zero hlen
    refine (Tryz.bytes_Index_one_nil b2 0 1 10 w h2).mono ?_
    rintro e w' ⟨rfl, rfl⟩
    exact ⟨rfl, 0, rfl⟩
  | some x =>
    have := Tryz.bytes_Index_one_at x n c b2 0 1 (l.map fun b => (b.toNat : Int)) 10 w (by simpa using hlen) (fun i hi => by
      have hil : i < l.length := by omega
      rw [h.cell x rfl i _ (List.getElem?_eq_getElem hil)]
      simp [hil]) h2
    have e1 : Lib.bytesOf (l.map fun b => (b.toNat : Int)) = l := by
      simp [Lib.bytesOf, Function.comp_def]
    rw [e1] at this
    refine this.mono ?_
    rintro e w' ⟨rfl, rfl⟩
    exact ⟨rfl, 0, rfl⟩
theorem _root_.Go.Tx.BA.take {w : World} {a : Option Addr} {n c : Nat} {l : List UInt8} (h : BA w a n c l) {i : Nat} (hi : i ≤ n) : BA w a i c (l.take i) :=
  ⟨by rw [List.length_take, h.len]; omega, Nat.le_trans hi h.cap, h.max, h.none, fun x hx j b hj => h.cell x hx j b (by
    rw [List.getElem?_take] at hj
    split at hj
    · exact hj
    · cases hj)⟩
theorem add_add (x : Addr) (i j : Nat) : (x.add i).add j = x.add (i + j) := by
  unfold Addr.add
  by_cases h1 : i = 0
  · subst h1; simp
  · by_cases h2 : j = 0
    · subst h2; simp [h1]
    · simp [h1, h2]; omega
theorem _root_.Go.Tx.BA.from {w : World} {a : Option Addr} {n c : Nat} {l : List UInt8} (h : BA w a n c l) {j : Nat} (hj : j ≤ n) : BA w (if c = j then a else a.map fun x => x.add j) (n - j) (c - j) (l.drop j) := by
  have hcap := h.cap
  have hmax := h.max
  refine ⟨by rw [List.length_drop, h.len], by omega, by omega, fun ha => ?_, fun x hx k b hk => ?_⟩
  · split at ha
    · omega
    · have : a = none := by simpa using ha
      have := h.none this
      omega
  · rw [List.getElem?_drop] at hk
    have hlt := (List.getElem?_eq_some_iff.1 hk).1
    rw [h.len] at hlt
    split at hx
    · omega
    · cases a with
      | none => simp at hx
      | some y =>
        simp at hx
        subst hx
        rw [add_add]
        exact h.cell y rfl _ b hk
theorem cut10_yes (a : Option Addr) (n c : Nat) (l : List UInt8) (b2 i : Nat) (w : World) (h : BA w a n c l) (h2 : w.cell? ⟨b2, 0, none⟩ = some (.int .u8 10)) (hn : n ≤ 1000000) (hi : Lib.indexByte l 10 = i) :
    Calls Tryz.prog 19 #[.slice a n c, .slice (some ⟨b2, 0, none⟩) 1 1] w fun e w' => e = .returned (.tuple #[.slice a i c, .slice (if c = i + 1 then a else a.map fun x => x.add (i + 1)) (n - (i + 1)) (c - (i + 1)), .bool true]) ∧ ∃ q, w' = w.drewN q := by
  have hlt := indexByte_lt l 10
  have hlt : i < n := by
    rw [hi, h.len] at hlt
    rcases hlt with hlt | hlt
    · omega
    · rw [hlt] at hi; simp [Lib.indexByte] at hi
  have := Tryz.bytes_Cut_of a (some ⟨b2, 0, none⟩) n c 1 1 (Lib.indexByte l 10) w h.cap (Lib.indexByte_ge _ _) (by rw [hi]; omega) (by omega) (idx10 a n c l b2 w h h2)
  rw [hi] at this
  have e1 : Lib.cutV a n c 1 (i : Int) = .tuple #[.slice a i c, .slice (if c = i + 1 then a else a.map fun x => x.add (i + 1)) (n - (i + 1)) (c - (i + 1)), .bool true] := by
    unfold Lib.cutV Lib.fromV
    rw [if_pos (by omega)]
    simp
  rw [e1] at this
  exact this
theorem cut10_no (a : Option Addr) (n c : Nat) (l : List UInt8) (b2 : Nat) (w : World) (h : BA w a n c l) (h2 : w.cell? ⟨b2, 0, none⟩ = some (.int .u8 10)) (hn : n ≤ 1000000) (hi : Lib.indexByte l 10 < 0) :
    Calls Tryz.prog 19 #[.slice a n c, .slice (some ⟨b2, 0, none⟩) 1 1] w fun e w' => e = .returned (.tuple #[.slice a n c, .slice none 0 0, .bool false]) ∧ ∃ q, w' = w.drewN q := by
  have := Tryz.bytes_Cut_of a (some ⟨b2, 0, none⟩) n c 1 1 (Lib.indexByte l 10) w h.cap (Lib.indexByte_ge _ _) (by omega) (by omega) (idx10 a n c l b2 w h h2)
  have e1 : Lib.cutV a n c 1 (Lib.indexByte l 10) = .tuple #[.slice a n c, .slice none 0 0, .bool false] := by
    unfold Lib.cutV
    rw [if_neg (by omega)]
  rw [e1] at this
  exact this
theorem info68 : (Tryz.prog.info? 35).map (fun i => (i.zero, i.size, i.bytes)) = some (some (.agg #[.int .i64 0, .slice none 0 0]), 2, 32) := by kernel_rfl
theorem _root_.Go.Tx.BA.nil (w : World) : BA w none 0 0 [] := ⟨rfl, Nat.le_refl _, by decide, fun _ => rfl, fun x hx => by cases hx⟩
def LinesR (w : World) (T : List (Nat × List (List UInt8))) (e : Ending) (w' : World) : Prop := ∃ v, e = .returned v ∧ LinesAt w.heap.size w' v T ∧ Below w.heap.size w w'
theorem new_cells (w : World) (x y : Value) (e : TypeId) : ∀ j u, [x, y][j]? = some u → (w.alloc (.cells #[x, y] e)).cell? ((⟨w.heap.size, 0, none⟩ : Addr).add j) = some u := by
  intro j u hj
  have ha : (⟨w.heap.size, 0, none⟩ : Addr).add j = ⟨w.heap.size, j, none⟩ := by unfold Addr.add; split <;> simp_all
  rw [ha, World.cell?_alloc_new]
  simpa using hj
def lenOfV : Value → Nat
  | .slice _ n _ => n
  | _ => 0
/-- What holds at the head of each round. -/
structure LI (w : World) (l0 : List UInt8) (body told no : Value) (wr : World) (a : Option Addr) (n c N : Nat) (l : List UInt8) (T : List (Nat × List (List UInt8))) : Prop where
  body : body = .slice a n c
  no : no = .int .i64 N
  ba : BA w a n c l
  old : ∀ x, a = some x → x.block < w.heap.size
  told : LinesAt w.heap.size wr told T
  all : toldG 1 [] l0 = T ++ toldG N [] l
  few : T.length + 1 ≤ N
  sum : N + n ≤ l0.length + 1
  bel : Below w.heap.size w wr
theorem words_none (a : Option Addr) (n c : Nat) (l : List UInt8) (w : World) (h : BA w a n c l) (hw : wordsOf l = []) :
    Calls Tryz.prog 20 #[.slice a n c] w fun e w' => ∃ p, e = .returned (.slice p 0 0) ∧ Below w.heap.size w w' := by
  refine (words_any a n c l w h).mono ?_
  rintro e w' ⟨v, rfl, hs, hb⟩
  obtain ⟨p, rfl⟩ := hs.shape
  rw [hw]
  exact ⟨p, rfl, hb⟩
theorem words_some (a : Option Addr) (n c : Nat) (l : List UInt8) (w : World) (h : BA w a n c l) (hw : ¬ wordsOf l = []) :
    Calls Tryz.prog 20 #[.slice a n c] w fun e w' => ∃ p k, e = .returned (.slice p k k) ∧ 0 < k ∧ Hid (Strs w.heap.size w' (.slice p k k) (wordsOf l)) ∧ Below w.heap.size w w' := by
  refine (words_any a n c l w h).mono ?_
  rintro e w' ⟨v, rfl, hs, hb⟩
  obtain ⟨p, rfl⟩ := hs.shape
  exact ⟨p, _, rfl, List.length_pos_iff.2 hw, Lib.hid hs, hb⟩
theorem tell_none {no : Nat} {l : List UInt8} (h : wordsOf l = []) : tell no l = [] := by simp [tell, h]
theorem tell_some {no : Nat} {l : List UInt8} (h : ¬ wordsOf l = []) : tell no l = [(no, wordsOf l)] := by simp [tell, h]
theorem told_end (N : Nat) : toldG N [] [] = [] := by simp [toldG, tell_none wordsOf_nil]
/-- The world behind a cut and the words of a line. -/
theorem bel_words {w wr w3 : World} {o : Obj} {q : Nat} (hbel : Below w.heap.size w wr) (hb3 : Below ((wr.alloc o).drewN q).heap.size ((wr.alloc o).drewN q) w3) : Below w.heap.size w w3 :=
  (below_drewN' (hbel.alloc hbel.size o) q).trans (hb3.mono (by have := hbel.size; show w.heap.size ≤ (wr.heap.push o).size; simp; omega))
set_option maxHeartbeats 2000000 in
set_option maxRecDepth 100000 in
theorem lines_any (a : Option Addr) (n c : Nat) (l : List UInt8) (w : World) (h : BA w a n c l) (hold : ∀ x, a = some x → x.block < w.heap.size) (hn : n ≤ 1000000) :
    Calls Tryz.prog 11 #[.slice a n c] w (LinesR w (toldG 1 [] l)) := by
  obtain ⟨i0, hi, hz0, hz1, hz2⟩ := info_parts info68
  have hsum := h.len
  have HS := Lib.hid hsum
  clear hsum
  go_enter Tryz.func11, Tryz.ntmps11
  go_wp2
  go_loopw [0, 3, 4] (fun body told no wr => ∃ a n c N l' T, LI w l body told no wr a n c N l' T) (fun body _ _ _ => lenOfV body)
  case atStart => exact ⟨a, n, c, 1, l, [], rfl, rfl, h, hold, LinesAt.nil _ _, rfl, by simp, by rw [HS.out]; omega, Below.refl _ _⟩
  case round =>
    clear h hold
    obtain ⟨a', n', c', N, l', T, hL⟩ := hrel
    obtain ⟨rfl, rfl, hba, hold, htold, hall, hfew, hsum, hbel⟩ := hL
    have hw0 := hbel.size
    by_cases hpos : 0 < n'
    · have hn' : n' ≤ 1000000 := by have := HS.out; omega
      have hN : N ≤ 1000001 := by have := HS.out; omega
      have HBA : Hid (∀ o, BA (wr.alloc o) a' n' c' l') := Lib.hid fun o => hba.below (hbel.alloc hbel.size o) hold
      have HQ : Hid (∀ o q, BA ((wr.alloc o).drewN q) a' n' c' l') := Lib.hid fun o q => hba.below (below_drewN' (hbel.alloc hbel.size o) q) hold
      have hcap := hba.cap
      have hmax := hba.max
      obtain ⟨xs, hown, hent⟩ := htold
      have HE := Lib.hid hent
      have HO := Lib.hid hown
      have HALL := Lib.hid hall
      have HLEN := Lib.hid hba.len
      clear hent hown hall
      by_cases hidx : Lib.indexByte l' 10 < 0
      · have HI := Lib.hid hidx
        clear hidx
        by_cases hws : wordsOf l' = []
        · have HW := Lib.hid hws
          clear hws hba
          go_wp2_with (first | (go_at_call 19; refine (cut10_no a' n' c' l' wr.heap.size _ (HBA.out _) (World.cell?_alloc_new _ _ _ _) hn' HI.out).mono ?_; rintro e w2 ⟨rfl, q, rfl⟩) | (go_at_call 20; refine (words_none a' n' c' l' _ (HQ.out _ _) HW.out).mono ?_; rintro e w3 ⟨p, rfl, hb3⟩))
          go_roundw
          case rel => exact ⟨none, 0, 0, N + 1, [], T, rfl, by go_num, BA.nil w, (fun x hx => by cases hx), (show LinesAt w.heap.size wr _ T from ⟨xs, HO.out, HE.out⟩).below (bel_words (Below.refl _ _) hb3), by rw [HALL.out, toldG_no _ _ _ HI.out, List.nil_append, tell_none HW.out, told_end], by omega, by omega, bel_words hbel hb3⟩
          case measure => exact hpos
        · have HW := Lib.hid hws
          clear hws hba
          go_wp2_with (first | (go_at_call 19; refine (cut10_no a' n' c' l' wr.heap.size _ (HBA.out _) (World.cell?_alloc_new _ _ _ _) hn' HI.out).mono ?_; rintro e w2 ⟨rfl, q, rfl⟩) | (go_at_call 20; refine (words_some a' n' c' l' _ (HQ.out _ _) HW.out).mono ?_; rintro e w3 ⟨p, k, rfl, hk, hs, hb3⟩) | (at_builtin; refine wpList_append_own _ rfl _ _ 32 rfl w.heap.size 35 i0 (.agg #[.int .i64 0, .slice none 0 0]) 2 32 Tryz.underlying32 hi hz0 hz1 hz2 rfl (by decide) _ _ _ rfl ((own_below (own_drewN (HO.out.alloc _) q) hb3).alloc _) ⟨w3.heap.size, 0, none⟩ 1 1 [.int .i64 N, .slice p k k] rfl rfl (new_cells _ _ _ _) (by simp [Value.oneCell']) (by unfold maxLen; omega) (by omega) (by have := (bel_words hbel hb3).size; show w.heap.size ≤ (w3.heap.push _).size; simp; omega) ?_; intro v' w5 hown5 hg5 _))
          go_roundw
          case rel => exact ⟨none, 0, 0, N + 1, [], T ++ [(N, wordsOf l')], rfl, by go_num, BA.nil w, (fun x hx => by cases hx), LinesAt.push ((own_below (own_drewN (HO.out.alloc _) q) hb3).alloc _) (fun i no ws h => by obtain ⟨x1, wv, x2, x3⟩ := HE.out i no ws h; exact ⟨x1, wv, x2, (x3.below (bel_words (Below.refl _ _) hb3)).below (Below.alloc (Below.refl _ _) (Nat.le_refl _) _)⟩) ((hs.out.base (by show w.heap.size ≤ (wr.heap.push _).size; simp; omega)).below (Below.alloc (Below.refl _ _) (Nat.le_refl _) _)) hown5 hg5, by rw [HALL.out, toldG_no _ _ _ HI.out, List.nil_append, tell_some HW.out, told_end, List.append_nil], by simp; omega, by omega, ((bel_words hbel hb3).alloc (bel_words hbel hb3).size _).grown hg5 (by have := (bel_words hbel hb3).size; show w.heap.size ≤ (w3.heap.push _).size; simp; omega) (fun g hg => (HO.out.lt g hg).1)⟩
          case measure => exact hpos
      · obtain ⟨i, hi'⟩ : ∃ i : Nat, Lib.indexByte l' 10 = i := ⟨(Lib.indexByte l' 10).toNat, by omega⟩
        have hlt : i < n' := by
          have h1 := indexByte_lt l' 10
          have h2 := HLEN.out
          rcases h1 with h1 | h1
          · omega
          · rw [h1] at h2; simp at h2; omega
        have HI := Lib.hid hi'
        have HF := Lib.hid (hba.from (j := i + 1) hlt)
        have HOLD : Hid (∀ x, (if c' = i + 1 then a' else a'.map fun x => x.add (i + 1)) = some x → x.block < w.heap.size) := Lib.hid (by
          intro x hx
          split at hx
          · exact hold x hx
          · cases a' with
            | none => simp at hx
            | some y =>
              simp at hx
              subst hx
              have : (y.add (i + 1)).block = y.block := by unfold Addr.add; split <;> rfl
              rw [this]
              exact hold y rfl)
        have HLT := Lib.hid hlt
        clear hidx hi' hba
        by_cases hws : wordsOf (l'.take i) = []
        · have HW := Lib.hid hws
          clear hws
          go_wp2_with (first | (go_at_call 19; refine (cut10_yes a' n' c' l' wr.heap.size i _ (HBA.out _) (World.cell?_alloc_new _ _ _ _) hn' HI.out).mono ?_; rintro e w2 ⟨rfl, q, rfl⟩) | (go_at_call 20; refine (words_none a' i c' (l'.take i) _ ((HQ.out _ _).take (Nat.le_of_lt HLT.out)) HW.out).mono ?_; rintro e w3 ⟨p, rfl, hb3⟩))
          go_roundw
          case rel => exact ⟨_, _, _, N + 1, _, T, rfl, by go_num, HF.out, HOLD.out, (show LinesAt w.heap.size wr _ T from ⟨xs, HO.out, HE.out⟩).below (bel_words (Below.refl _ _) hb3), by rw [HALL.out, toldG_nl i _ _ _ HI.out, List.nil_append, tell_none HW.out, List.nil_append], by omega, by omega, bel_words hbel hb3⟩
          case measure => simp only [lenOfV]; omega
        · have HW := Lib.hid hws
          clear hws
          go_wp2_with (first | (go_at_call 19; refine (cut10_yes a' n' c' l' wr.heap.size i _ (HBA.out _) (World.cell?_alloc_new _ _ _ _) hn' HI.out).mono ?_; rintro e w2 ⟨rfl, q, rfl⟩) | (go_at_call 20; refine (words_some a' i c' (l'.take i) _ ((HQ.out _ _).take (Nat.le_of_lt HLT.out)) HW.out).mono ?_; rintro e w3 ⟨p, k, rfl, hk, hs, hb3⟩) | (at_builtin; refine wpList_append_own _ rfl _ _ 32 rfl w.heap.size 35 i0 (.agg #[.int .i64 0, .slice none 0 0]) 2 32 Tryz.underlying32 hi hz0 hz1 hz2 rfl (by decide) _ _ _ rfl ((own_below (own_drewN (HO.out.alloc _) q) hb3).alloc _) ⟨w3.heap.size, 0, none⟩ 1 1 [.int .i64 N, .slice p k k] rfl rfl (new_cells _ _ _ _) (by simp [Value.oneCell']) (by unfold maxLen; omega) (by omega) (by have := (bel_words hbel hb3).size; show w.heap.size ≤ (w3.heap.push _).size; simp; omega) ?_; intro v' w5 hown5 hg5 _))
          go_roundw
          case rel => exact ⟨_, _, _, N + 1, _, T ++ [(N, wordsOf (l'.take i))], rfl, by go_num, HF.out, HOLD.out, LinesAt.push ((own_below (own_drewN (HO.out.alloc _) q) hb3).alloc _) (fun i no ws h => by obtain ⟨x1, wv, x2, x3⟩ := HE.out i no ws h; exact ⟨x1, wv, x2, (x3.below (bel_words (Below.refl _ _) hb3)).below (Below.alloc (Below.refl _ _) (Nat.le_refl _) _)⟩) ((hs.out.base (by show w.heap.size ≤ (wr.heap.push _).size; simp; omega)).below (Below.alloc (Below.refl _ _) (Nat.le_refl _) _)) hown5 hg5, by rw [HALL.out, toldG_nl i _ _ _ HI.out, List.nil_append, tell_some HW.out, List.append_assoc], by simp; omega, by omega, ((bel_words hbel hb3).alloc (bel_words hbel hb3).size _).grown hg5 (by have := (bel_words hbel hb3).size; show w.heap.size ≤ (w3.heap.push _).size; simp; omega) (fun g hg => (HO.out.lt g hg).1)⟩
          case measure => simp only [lenOfV]; omega
    · have HALL := Lib.hid hall
      have HT := Lib.hid htold
      obtain rfl : l' = [] := List.eq_nil_of_length_eq_zero (by have := hba.len; omega)
      clear hall htold hba
      go_wp2
      go_ret
      exact ⟨_, rfl, by rw [HALL.out, told_end, List.append_nil]; exact HT.out, hbel⟩
end Go.Proofs.YtfmnemcnonbkfaaGreatDoor

namespace Go.Proofs.YtfmnemcnonbkfaaGreatDoor
open Go.RowKit Go.Lib Go.Tx Go.Proofs
def OneR (w : World) (ws : List (List UInt8)) (e : Ending) (w' : World) : Prop := ∃ v, e = .returned v ∧ StrC w.heap.size w' v ws ∧ Below w.heap.size w w'
theorem one_long (a : Option Addr) (n c : Nat) (l : List UInt8) (w : World) (h : BA w a n c l) (hn : 512 < n) :
    Calls Tryz.prog 25 #[.slice a n c] w (OneR w (wordsOf l)) := by
  have hb : Hid (wordsOf l = []) := Lib.hid (by have := h.len; simp [wordsOf, badSeg, this, hn])
  have hcap := h.cap
  have hmax := h.max
  go_enter Tryz.func25, Tryz.ntmps25
  go_wp2
  go_ret
  exact ⟨_, rfl, by rw [hb.out]; exact World.ownsRow_nil _ _ _ _, Below.refl _ _⟩
/-- A foreign byte in it. -/
theorem words_for {l : List UInt8} {k : Nat} {b : UInt8} (h : l[k]? = some b) (hb : forB b = true) : wordsOf l = [] := by
  have : l.any forB = true := any_yes l k b h hb
  simp [wordsOf, badSeg, this]
theorem nil_own (B : Nat) (w : World) (ws : List (List UInt8)) (h : ws = []) : StrC B w (.slice none 0 0) ws := by
  subst h; exact World.ownsRow_nil _ _ _ _
theorem forB_hi {c : UInt8} (h : 127 ≤ (c.toNat : Int)) : forB c = true := by
  have : 127 ≤ c.toNat := by omega
  simp [forB, this]
theorem forB_lo {c : UInt8} (h : (c.toNat : Int) < 32) (hb : blankN c.toNat = false) : forB c = true := by
  have : c.toNat < 32 := by omega
  simp [forB, this, hb]
theorem forB_blank {c : UInt8} (h : (c.toNat : Int) < 127) (hb : blankN c.toNat = true) : forB c = false := by
  have : ¬ 127 ≤ c.toNat := by omega
  simp [forB, this, hb]
theorem forB_mid {c : UInt8} (h : (c.toNat : Int) < 127) (h2 : 32 ≤ (c.toNat : Int)) : forB c = false := by
  have h1 : ¬ 127 ≤ c.toNat := by omega
  have h3 : ¬ c.toNat < 32 := by omega
  simp [forB, h1, h3]
/-- The sign, or what stands behind it: nothing turns. -/
theorem _root_.Go.Tx.OneI.stay {l : List UInt8} {w wr : World} {k : Nat} {rest word lv : Value} {s : ByteArray} {b : UInt8} (h : OneI l w k rest word lv wr s) (hb : l[k]? = some b) (hf : forB b = false) (hr : (35 : UInt8) ∈ l.take k ∨ b = 35) : OneI l w (k + 1) (.bool true) word lv wr s :=
  ⟨by rw [decide_eq_true ((mem_snoc hb).2 hr)], h.word, by rw [ust_rest hb hr]; exact h.text, by rw [ust_rest hb hr]; exact h.row, any_snoc hb h.fine hf, h.bel⟩
theorem _root_.Go.Tx.OneI.start (l : List UInt8) (w : World) : OneI l w 0 (.bool false) (.string ⟨#[]⟩) (.slice none 0 0) w ⟨#[]⟩ :=
  ⟨by simp, rfl, rfl, World.ownsRow_nil _ _ _ _, rfl, Below.refl _ _⟩
/-- A blank, no word open. -/
theorem _root_.Go.Tx.OneI.blank0 {l : List UInt8} {w wr : World} {k : Nat} {rest word lv : Value} {s : ByteArray} {b : UInt8} (h : OneI l w k rest word lv wr s) (hb : l[k]? = some b) (hf : forB b = false) (hr : ¬ (35 : UInt8) ∈ l.take k) (h35 : ¬ b = 35) (hbl : blankN b.toNat = true) (hs : s.data.toList = []) : OneI l w (k + 1) (.bool false) (.string ⟨#[]⟩) lv wr ⟨#[]⟩ := by
  have hu : (ust l k).1 = [] := by rw [← h.text]; exact hs
  have e := (ust_step hb hr h35).trans (stepW_nil hbl hu)
  exact ⟨by rw [decide_eq_false (fun hm => by rcases (mem_snoc hb).1 hm with h | h <;> contradiction)], rfl, by rw [e], by rw [e]; exact h.row, any_snoc hb h.fine hf, h.bel⟩
/-- A blank behind a word. -/
theorem _root_.Go.Tx.OneI.blank1 {l : List UInt8} {w wr w' : World} {k : Nat} {rest word lv lv' : Value} {s : ByteArray} {b : UInt8} (h : OneI l w k rest word lv wr s) (hb : l[k]? = some b) (hf : forB b = false) (hr : ¬ (35 : UInt8) ∈ l.take k) (h35 : ¬ b = 35) (hbl : blankN b.toNat = true) (hs : ¬ s.data.toList = [])
    (ho : w'.ownsRow w.heap.size 9 1 lv' ((ust l k).2.length + 1) ((ust l k).2.map strV ++ [.string s])) (hbel : Below w.heap.size w w') : OneI l w (k + 1) (.bool false) (.string ⟨#[]⟩) lv' w' ⟨#[]⟩ := by
  have hu : ¬ (ust l k).1 = [] := by rw [← h.text]; exact hs
  have e := (ust_step hb hr h35).trans (stepW_end hbl hu)
  have hv : Value.string s = strV (ust l k).1 := by rw [← h.text]; unfold strV; simp
  refine ⟨by rw [decide_eq_false (fun hm => by rcases (mem_snoc hb).1 hm with h | h <;> contradiction)], rfl, by rw [e], ?_, any_snoc hb h.fine hf, hbel⟩
  rw [e]
  unfold StrC
  rw [List.length_append, List.map_append]
  rw [hv] at ho
  exact ho
/-- A letter. -/
theorem _root_.Go.Tx.OneI.letter {l : List UInt8} {w wr w' : World} {k : Nat} {rest word lv : Value} {s : ByteArray} {b : UInt8} (h : OneI l w k rest word lv wr s) (hb : l[k]? = some b) (hf : forB b = false) (hr : ¬ (35 : UInt8) ∈ l.take k) (h35 : ¬ b = 35) (hbl : ¬ blankN b.toNat = true)
    (hbel : Below wr.heap.size wr w') : OneI l w (k + 1) (.bool false) (.string (s ++ ⟨#[b]⟩)) lv w' (s ++ ⟨#[b]⟩) := by
  have e := (ust_step hb hr h35).trans (stepW_in hbl)
  refine ⟨by rw [decide_eq_false (fun hm => by rcases (mem_snoc hb).1 hm with h | h <;> contradiction)], rfl, ?_, ?_, any_snoc hb h.fine hf, h.bel.trans (hbel.mono h.bel.size)⟩
  · rw [e]; simp [h.text]
  · rw [e]; exact own_below h.row hbel
end Go.Proofs.YtfmnemcnonbkfaaGreatDoor

namespace Go.Proofs.YtfmnemcnonbkfaaGreatDoor
open Go.RowKit Go.Lib Go.Tx Go.Proofs
theorem words_end {l : List UInt8} (h1 : (l.take l.length).any forB = false) (h2 : l.length ≤ 512) : wordsOf l = closeW (ust l l.length) := by
  rw [List.take_length] at h1
  unfold wordsOf badSeg ust
  rw [h1, decide_eq_false (by omega), List.take_length]
  rfl
set_option maxHeartbeats 4000000 in
set_option maxRecDepth 100000 in
theorem one_ok (a : Option Addr) (n c : Nat) (l : List UInt8) (w : World) (h : BA w a n c l) (hold : ∀ x, a = some x → x.block < w.heap.size) (hn : n ≤ 512) :
    Calls Tryz.prog 25 #[.slice a n c] w (OneR w (wordsOf l)) := by
  obtain ⟨i9, hi, hz0, hz1, hz2⟩ := info_parts info9o
  have hcap := h.cap
  have hmax := h.max
  have HL := Lib.hid h.len
  have HBA := Lib.hid h
  have HOLD := Lib.hid hold
  clear h hold
  go_enter Tryz.func25, Tryz.ntmps25
  go_wp2
  go_loopw [3, 4, 5, 6] (fun lv word rest i wr => ∃ k s, k ≤ n ∧ i = .int .i64 (k : Nat) ∧ OneI l w k rest word lv wr s) (fun _ _ _ i _ => n - (intOf i).toNat)
  case atStart => exact ⟨0, _, Nat.zero_le _, rfl, Go.Tx.OneI.start l w⟩
  case round =>
    obtain ⟨k, s, hk, rfl, hI⟩ := hrel
    have hul := ust_len l k
    have hsz : s.size ≤ 512 := by
      have h1 : s.data.toList.length = s.size := rfl
      rw [hI.text] at h1
      omega
    have hul2 : (ust l k).2.length ≤ 512 := by omega
    have hws := hI.bel.size
    clear hul
    have hrest := hI.rest
    have hword := hI.word
    subst hrest hword
    have HI := Lib.hid hI
    clear hI
    by_cases hlt : k < n
    · obtain ⟨b, hb⟩ : ∃ b, l[k]? = some b := ⟨_, List.getElem?_eq_getElem (by rw [HL.out]; exact hlt)⟩
      obtain ⟨x, rfl⟩ : ∃ x, a = some x := by
        cases a with
        | none => have := HBA.out.none rfl; omega
        | some x => exact ⟨x, rfl⟩
      have hcell := (HBA.out.below HI.out.bel HOLD.out).cell x rfl k b hb
      have HK := Lib.hid hb
      clear hb
      by_cases h127 : 127 ≤ (b.toNat : Int)
      · go_wp2
        go_ret
        exact ⟨_, rfl, nil_own _ _ _ (words_for HK.out (forB_hi h127)), HI.out.bel⟩
      · have h127 : (b.toNat : Int) < 127 := by omega
        by_cases h32 : (b.toNat : Int) < 32
        · cases hbl : blankN b.toNat with
          | false =>
            have HB := Lib.hid hbl
            clear hbl
            go_wp2_with (go_at_call 45; refine (blank_any b _).mono ?_; rw [HB.out]; rintro e w' ⟨rfl, rfl⟩)
            go_ret
            exact ⟨_, rfl, nil_own _ _ _ (words_for HK.out (forB_lo h32 HB.out)), HI.out.bel⟩
          | true =>
            have HB := Lib.hid hbl
            have HF := Lib.hid (forB_blank h127 hbl)
            clear hbl
            cases hd : decide ((35 : UInt8) ∈ l.take k) with
            | true =>
              have HM := Lib.hid (of_decide_eq_true hd)
              clear hd
              go_wp2_with (go_at_call 45; refine (blank_any b _).mono ?_; rw [HB.out]; rintro e w' ⟨rfl, rfl⟩)
              go_roundw
              case rel => exact ⟨k + 1, _, hlt, by go_num, HI.out.stay HK.out HF.out (.inl HM.out)⟩
              case measure => simp [intOf]; omega
            | false =>
              have HM := Lib.hid (of_decide_eq_false hd)
              clear hd
              have e35 : ((b.toNat : Int) == 35) = false := by rw [beq_eq_false_iff_ne]; omega
              have H35 : Hid (¬ b = 35) := Lib.hid (by rintro rfl; revert h32; decide)
              by_cases hs : s.data.toList = []
              · have e1 : s.toList = [] := by rw [toList_data]; exact hs
                have HS := Lib.hid hs
                clear hs
                go_wp2_with (go_at_call 45; refine (blank_any b _).mono ?_; rw [HB.out]; rintro e w' ⟨rfl, rfl⟩)
                go_roundw
                case rel => exact ⟨k + 1, _, hlt, by go_num, HI.out.blank0 HK.out HF.out HM.out H35.out HB.out HS.out⟩
                case measure => simp [intOf]; omega
              · have e1 : ¬ s.toList = [] := by rw [toList_data]; exact hs
                have e2 : s.toList.isEmpty = false := by cases hh : s.toList with | nil => exact absurd hh e1 | cons x y => rfl
                have HS := Lib.hid hs
                clear hs
                go_wp2_with (first | (go_at_call 45; refine (blank_any b _).mono ?_; rw [HB.out]; rintro e w' ⟨rfl, rfl⟩) | (at_builtin; refine wpList_append_own _ rfl _ _ 26 rfl w.heap.size 9 i9 (.string ⟨#[]⟩) 1 16 Tryz.underlying26 hi hz0 hz1 hz2 rfl (by decide) _ _ _ rfl (HI.out.row.alloc _) ⟨wr.heap.size, 0, none⟩ 1 1 [.string s] rfl rfl (one_cell _ _ _) (by simp [Value.oneCell']) (by unfold maxLen; omega) (by omega) (by show w.heap.size ≤ (wr.heap.push _).size; simp; omega) ?_; intro v' w5 hown5 hg5 _))
                go_roundw
                case rel => exact ⟨k + 1, _, hlt, by go_num, HI.out.blank1 HK.out HF.out HM.out H35.out HB.out HS.out hown5 ((HI.out.bel.alloc HI.out.bel.size _).grown hg5 (by show w.heap.size ≤ (wr.heap.push _).size; have := HI.out.bel.size; simp; omega) (fun g hg => (HI.out.row.lt g hg).1))⟩
                case measure => simp [intOf]; omega
        · have h32 : 32 ≤ (b.toNat : Int) := by omega
          have HF := Lib.hid (forB_mid h127 h32)
          cases hd : decide ((35 : UInt8) ∈ l.take k) with
          | true =>
            have HM := Lib.hid (of_decide_eq_true hd)
            clear hd
            go_wp2
            go_roundw
            case rel => exact ⟨k + 1, _, hlt, by go_num, HI.out.stay HK.out HF.out (.inl HM.out)⟩
            case measure => simp [intOf]; omega
          | false =>
            have HM := Lib.hid (of_decide_eq_false hd)
            clear hd
            by_cases h35 : b = 35
            · have e35 : ((b.toNat : Int) == 35) = true := by subst h35; rfl
              have H35 := Lib.hid h35
              clear h35
              go_wp2
              go_roundw
              case rel => exact ⟨k + 1, _, hlt, by go_num, HI.out.stay HK.out HF.out (.inr H35.out)⟩
              case measure => simp [intOf]; omega
            · have e35 : ((b.toNat : Int) == 35) = false := by rw [beq_eq_false_iff_ne]; intro h; exact h35 (UInt8.toNat_inj.1 (by show b.toNat = 35; omega))
              have H35 := Lib.hid h35
              clear h35
              cases hbl : blankN b.toNat with
              | true =>
                have HB := Lib.hid hbl
                clear hbl
                by_cases hs : s.data.toList = []
                · have e1 : s.toList = [] := by rw [toList_data]; exact hs
                  have HS := Lib.hid hs
                  clear hs
                  go_wp2_with (go_at_call 45; refine (blank_any b _).mono ?_; rw [HB.out]; rintro e w' ⟨rfl, rfl⟩)
                  go_roundw
                  case rel => exact ⟨k + 1, _, hlt, by go_num, HI.out.blank0 HK.out HF.out HM.out H35.out HB.out HS.out⟩
                  case measure => simp [intOf]; omega
                · have e1 : ¬ s.toList = [] := by rw [toList_data]; exact hs
                  have e2 : s.toList.isEmpty = false := by cases hh : s.toList with | nil => exact absurd hh e1 | cons x y => rfl
                  have HS := Lib.hid hs
                  clear hs
                  go_wp2_with (first | (go_at_call 45; refine (blank_any b _).mono ?_; rw [HB.out]; rintro e w' ⟨rfl, rfl⟩) | (at_builtin; refine wpList_append_own _ rfl _ _ 26 rfl w.heap.size 9 i9 (.string ⟨#[]⟩) 1 16 Tryz.underlying26 hi hz0 hz1 hz2 rfl (by decide) _ _ _ rfl (HI.out.row.alloc _) ⟨wr.heap.size, 0, none⟩ 1 1 [.string s] rfl rfl (one_cell _ _ _) (by simp [Value.oneCell']) (by unfold maxLen; omega) (by omega) (by show w.heap.size ≤ (wr.heap.push _).size; simp; omega) ?_; intro v' w5 hown5 hg5 _))
                  go_roundw
                  case rel => exact ⟨k + 1, _, hlt, by go_num, HI.out.blank1 HK.out HF.out HM.out H35.out HB.out HS.out hown5 ((HI.out.bel.alloc HI.out.bel.size _).grown hg5 (by show w.heap.size ≤ (wr.heap.push _).size; have := HI.out.bel.size; simp; omega) (fun g hg => (HI.out.row.lt g hg).1))⟩
                  case measure => simp [intOf]; omega
              | false =>
                have HB := Lib.hid hbl
                clear hbl
                have hbs := byte_str wr b
                go_wp2_with (go_at_call 45; refine (blank_any b _).mono ?_; rw [HB.out]; rintro e w' ⟨rfl, rfl⟩)
                go_roundw
                case rel => exact ⟨k + 1, _, hlt, by go_num, HI.out.letter HK.out HF.out HM.out H35.out (by rw [HB.out]; decide) ((Below.refl _ _).alloc (Nat.le_refl _) _)⟩
                case measure => simp [intOf]; omega
    · obtain rfl : k = n := by omega
      have hend : Hid (wordsOf l = closeW (ust l k)) := Lib.hid (by
        have h1 := HI.out.fine
        have h2 := HL.out
        subst h2
        exact words_end h1 hn)
      by_cases hs : s.data.toList = []
      · have e1 : s.toList = [] := by rw [toList_data]; exact hs
        have HS := Lib.hid hs
        clear hs
        go_wp2
        go_ret
        exact ⟨_, rfl, by rw [hend.out]; unfold closeW; rw [if_pos (by rw [← HI.out.text]; exact HS.out)]; exact HI.out.row, HI.out.bel⟩
      · have e1 : ¬ s.toList = [] := by rw [toList_data]; exact hs
        have e2 : s.toList.isEmpty = false := by cases hh : s.toList with | nil => exact absurd hh e1 | cons x y => rfl
        have HS := Lib.hid hs
        clear hs
        go_wp2_with (at_builtin; refine wpList_append_own _ rfl _ _ 26 rfl w.heap.size 9 i9 (.string ⟨#[]⟩) 1 16 Tryz.underlying26 hi hz0 hz1 hz2 rfl (by decide) _ _ _ rfl (HI.out.row.alloc _) ⟨wr.heap.size, 0, none⟩ 1 1 [.string s] rfl rfl (one_cell _ _ _) (by simp [Value.oneCell']) (by unfold maxLen; omega) (by omega) (by show w.heap.size ≤ (wr.heap.push _).size; simp; omega) ?_; intro v' w5 hown5 hg5 _)
        go_ret
        refine ⟨_, rfl, ?_, (HI.out.bel.alloc HI.out.bel.size _).grown hg5 (by show w.heap.size ≤ (wr.heap.push _).size; have := HI.out.bel.size; simp; omega) (fun g hg => (HI.out.row.lt g hg).1)⟩
        rw [hend.out]
        unfold closeW
        rw [if_neg (by rw [← HI.out.text]; exact HS.out)]
        unfold StrC
        rw [List.length_append, List.map_append]
        have hv : Value.string s = strV (ust l k).1 := by rw [← HI.out.text]; unfold strV; simp
        rw [hv] at hown5
        exact hown5
theorem one_any (a : Option Addr) (n c : Nat) (l : List UInt8) (w : World) (h : BA w a n c l) (hold : ∀ x, a = some x → x.block < w.heap.size) :
    Calls Tryz.prog 25 #[.slice a n c] w (OneR w (wordsOf l)) := by
  by_cases hn : 512 < n
  · exact one_long a n c l w h hn
  · exact one_ok a n c l w h hold (by omega)
end Go.Proofs.YtfmnemcnonbkfaaGreatDoor

namespace Go.Tx
open Go.RowKit
theorem StrC.of {B : Nat} {w : World} {v : Value} {ws : List (List UInt8)} (h : Strs B w v ws) : StrC B w v ws := by
  rcases h with ⟨rfl, rfl⟩ | ⟨A, rfl, _, h⟩
  · exact World.ownsRow_nil _ _ _ _
  · exact h
theorem StrC.grown {E B : Nat} {v : Value} {ws : List (List UInt8)} {w w' : World} {row : Option Nat} (hE : E ≠ 9) (h : StrC B w v ws) (hg : w.grownBy w' row) (hr : ∀ g, row = some g → ∃ cur fr, w.heap[g]? = some (.cells cur E fr)) : StrC B w' v ws := by
  refine World.ownsRow.kept h hg ?_
  rcases h.2 with ⟨a, _⟩ | ⟨A, cap, cur, a, _, hh, _⟩
  · left; rw [a]; rfl
  · right
    rw [a]
    cases row with
    | none => simp [Value.ownBlock]
    | some g =>
      simp only [Value.ownBlock, ne_eq, Option.some.injEq]
      rintro rfl
      obtain ⟨cur', fr, hc⟩ := hr A rfl
      rw [hc] at hh
      cases hh
      exact hE rfl
def LinesC (E B : Nat) (w : World) (v : Value) (T : List (Nat × List (List UInt8))) : Prop :=
  ∃ xs, w.ownsRow B E 2 v T.length xs ∧ ∀ (i no : Nat) (ws : List (List UInt8)), T[i]? = some (no, ws) → xs[2 * i]? = some (.int .i64 (no : Int)) ∧ ∃ wv, xs[2 * i + 1]? = some wv ∧ StrC B w wv ws
theorem LinesC.of {B : Nat} {w : World} {v : Value} {T : List (Nat × List (List UInt8))} (h : LinesAt B w v T) : LinesC 35 B w v T := by
  obtain ⟨xs, h1, h2⟩ := h
  refine ⟨xs, h1, fun i no ws hi => ?_⟩
  obtain ⟨a, wv, b, c⟩ := h2 i no ws hi
  exact ⟨a, wv, b, StrC.of c⟩
theorem LinesC.nil (E B : Nat) (w : World) : LinesC E B w (.slice none 0 0) [] := ⟨[], World.ownsRow_nil w B E 2, by simp⟩
theorem LinesC.below {E B : Nat} {v : Value} {T : List (Nat × List (List UInt8))} {w w' : World} (h : LinesC E B w v T) (hb : Below w.heap.size w w') : LinesC E B w' v T := by
  obtain ⟨xs, h1, h2⟩ := h
  refine ⟨xs, own_below h1 hb, fun i no ws hi => ?_⟩
  obtain ⟨a, wv, b, c⟩ := h2 i no ws hi
  exact ⟨a, wv, b, own_below c hb⟩
theorem LinesC.shape {E B : Nat} {v : Value} {T : List (Nat × List (List UInt8))} {w : World} (h : LinesC E B w v T) : ∃ p c, v = .slice p T.length c := by
  obtain ⟨xs, h1, _⟩ := h
  rcases h1.2 with ⟨a, b⟩ | ⟨g, cap, cur, a, _⟩
  · exact ⟨none, 0, by rw [a, b]⟩
  · exact ⟨_, _, a⟩
theorem LinesC.push {E B : Nat} (hE : E ≠ 9) {v v' wv : Value} {T : List (Nat × List (List UInt8))} {w w' : World} {xs : List Value} {no : Nat} {ws : List (List UInt8)}
    (h1 : w.ownsRow B E 2 v T.length xs) (h2 : ∀ (i no : Nat) (ws : List (List UInt8)), T[i]? = some (no, ws) → xs[2 * i]? = some (.int .i64 (no : Int)) ∧ ∃ wv, xs[2 * i + 1]? = some wv ∧ StrC B w wv ws)
    (hs : StrC B w wv ws) (ho : w'.ownsRow B E 2 v' (T.length + 1) (xs ++ [.int .i64 (no : Int), wv])) (hg : w.grownBy w' v.ownBlock) : LinesC E B w' v' (T ++ [(no, ws)]) := by
  have hr : ∀ g, v.ownBlock = some g → ∃ cur fr, w.heap[g]? = some (.cells cur E fr) := by
    intro g hg
    rcases h1.2 with ⟨a, _⟩ | ⟨g', cap, cur, a, _, c, _⟩
    · rw [a] at hg; cases hg
    · rw [a] at hg
      cases hg
      exact ⟨cur, _, c⟩
  have hlen : xs.length = T.length * 2 := h1.1
  refine ⟨_, by simpa using ho, fun i no' ws' hi => ?_⟩
  by_cases hlt : i < T.length
  · rw [List.getElem?_append_left hlt] at hi
    obtain ⟨a, wv', b, c⟩ := h2 i no' ws' hi
    exact ⟨by rw [List.getElem?_append_left (by omega)]; exact a, wv', by rw [List.getElem?_append_left (by omega)]; exact b, c.grown hE hg hr⟩
  · have hle : i < (T ++ [(no, ws)]).length := (List.getElem?_eq_some_iff.1 hi).1
    have : i = T.length := by simp at hle; omega
    subst this
    rw [List.getElem?_append_right (Nat.le_refl _), Nat.sub_self] at hi
    cases hi
    refine ⟨?_, wv, ?_, hs.grown hE hg hr⟩
    · rw [List.getElem?_append_right (by omega), show 2 * T.length - xs.length = 0 from by omega]; rfl
    · rw [List.getElem?_append_right (by omega), show 2 * T.length + 1 - xs.length = 1 from by omega]; rfl
theorem LinesC.read {E B : Nat} {w : World} {v : Value} {T : List (Nat × List (List UInt8))} (h : LinesC E B w v T) :
    ∃ p cap, v = .slice p T.length cap ∧ T.length ≤ cap ∧ cap ≤ 9223372036854775807 ∧ ∀ (i no : Nat) (ws : List (List UInt8)), T[i]? = some (no, ws) → ∃ g, p = some ⟨g, 0, none⟩ ∧ w.cell? ⟨g, 2 * i, none⟩ = some (.int .i64 (no : Int)) ∧ ∃ q c, w.cell? ⟨g, 2 * i + 1, none⟩ = some (.slice q ws.length c) ∧ StrC B w (.slice q ws.length c) ws := by
  obtain ⟨xs, h1, h2⟩ := h
  rcases h1.2 with ⟨a, b⟩ | ⟨g, cap, cur, a, a2, a3, a4, a5, _⟩
  · refine ⟨none, 0, by rw [a, b], by omega, by omega, fun i no ws hi => ?_⟩
    have := (List.getElem?_eq_some_iff.1 hi).1
    omega
  · subst a
    refine ⟨_, cap, rfl, a4, a5, fun i no ws hi => ?_⟩
    obtain ⟨x, wv, y, z⟩ := h2 i no ws hi
    have hlt : i < T.length := (List.getElem?_eq_some_iff.1 hi).1
    obtain ⟨q, c, rfl⟩ := z.shape
    exact ⟨g, rfl, by rw [h1.cellAt _ (by omega)]; exact x, q, c, by rw [h1.cellAt _ (by omega)]; exact y, z⟩
end Go.Tx

namespace Go.Tx
open Go.RowKit
/-- What holds at the head of a round. -/
structure RI (w : World) (l : List UInt8) (n k N F : Nat) (out no fr : Value) (wr : World) (T : List (Nat × List (List UInt8))) : Prop where
  no : no = .int .i64 (N : Int)
  fr : fr = .int .i64 (F : Int)
  told : LinesC 42 w.heap.size wr out T
  go : k ≤ n → F ≤ k ∧ toldG 1 [] l = T ++ toldG (N + 1) ((l.take k).drop F) (l.drop k)
  done : n < k → toldG 1 [] l = T
  few : T.length ≤ N
  few2 : N ≤ k
  bel : Below w.heap.size w wr
theorem toldG_step {l : List UInt8} {k N F : Nat} {b : UInt8} (h : l[k]? = some b) (hF : F ≤ k) (hb : ¬ b = 10) : toldG N ((l.take k).drop F) (l.drop k) = toldG N ((l.take (k + 1)).drop F) (l.drop (k + 1)) := by
  have hk := (List.getElem?_eq_some_iff.1 h).1
  have e : l.drop k = b :: l.drop (k + 1) := by
    rw [List.drop_eq_getElem_cons hk]
    rw [List.getElem?_eq_getElem hk] at h
    cases h
    rfl
  rw [e, toldG, if_neg hb, take_succ' l k b h, List.drop_append_of_le_length (by rw [List.length_take]; omega)]
theorem toldG_cut {l : List UInt8} {k N F : Nat} {b : UInt8} (h : l[k]? = some b) (hb : b = 10) : toldG N ((l.take k).drop F) (l.drop k) = tell N ((l.take k).drop F) ++ toldG (N + 1) ((l.take (k + 1)).drop (k + 1)) (l.drop (k + 1)) := by
  have hk := (List.getElem?_eq_some_iff.1 h).1
  have e : l.drop k = b :: l.drop (k + 1) := by
    rw [List.drop_eq_getElem_cons hk]
    rw [List.getElem?_eq_getElem hk] at h
    cases h
    rfl
  have e2 : (l.take (k + 1)).drop (k + 1) = [] := List.drop_of_length_le (by rw [List.length_take]; omega)
  rw [e, toldG, if_pos hb, e2]
theorem toldG_last {l : List UInt8} {n N F : Nat} (h : l.length = n) : toldG N ((l.take n).drop F) (l.drop n) = tell N ((l.take n).drop F) := by
  have e : l.drop n = [] := List.drop_of_length_le (by omega)
  rw [e]
  rfl
theorem RI.start (w : World) (l : List UInt8) (n : Nat) : RI w l n 0 0 0 (.slice none 0 0) (.int .i64 0) (.int .i64 0) w [] :=
  ⟨rfl, rfl, LinesC.nil _ _ _, fun _ => ⟨Nat.le_refl _, by simp⟩, fun h => by omega, Nat.zero_le _, Nat.le_refl _, Below.refl _ _⟩
theorem RI.skip {w wr : World} {l : List UInt8} {n k N F : Nat} {out no fr : Value} {T : List (Nat × List (List UInt8))} {b : UInt8} (h : RI w l n k N F out no fr wr T) (hl : l.length = n) (hb : l[k]? = some b) (h10 : ¬ b = 10) : RI w l n (k + 1) N F out no fr wr T := by
  have hk := (List.getElem?_eq_some_iff.1 hb).1
  obtain ⟨h1, h2⟩ := h.go (by omega)
  exact ⟨h.no, h.fr, h.told, fun _ => ⟨by omega, by rw [h2, toldG_step hb h1 h10]⟩, fun h => by omega, h.few, by have := h.few2; omega, h.bel⟩
/-- A line ends; nothing is told of it. -/
theorem RI.none {w wr w' : World} {l : List UInt8} {n k N F : Nat} {out no fr : Value} {T : List (Nat × List (List UInt8))} (h : RI w l n k N F out no fr wr T) (hl : l.length = n) (hk : k ≤ n) (hb : k < n → l[k]? = some 10)
    (hw : wordsOf ((l.take k).drop F) = []) (hbel : Below wr.heap.size wr w') : RI w l n (k + 1) (N + 1) (k + 1) out (.int .i64 ((N + 1 : Nat) : Int)) (.int .i64 ((k + 1 : Nat) : Int)) w' T := by
  obtain ⟨h1, h2⟩ := h.go hk
  have ht : tell (N + 1) ((l.take k).drop F) = [] := by simp [tell, hw]
  refine ⟨rfl, rfl, h.told.below hbel, fun h3 => ⟨Nat.le_refl _, ?_⟩, fun h3 => ?_, by have := h.few; omega, by have := h.few2; omega, h.bel.trans (hbel.mono h.bel.size)⟩
  · rw [h2, toldG_cut (hb (by omega)) rfl, ht, List.nil_append]
  · have : k = n := by omega
    subst this
    rw [h2, toldG_last hl, ht, List.append_nil]
/-- A line ends; its words are told. -/
theorem RI.some {w wr w4 w' : World} {l : List UInt8} {n k N F : Nat} {out out' no fr wv : Value} {xs : List Value} {T : List (Nat × List (List UInt8))} (h : RI w l n k N F out no fr wr T) (hl : l.length = n) (hk : k ≤ n) (hb : k < n → l[k]? = some 10)
    (hw : ¬ wordsOf ((l.take k).drop F) = []) (hbel : Below w.heap.size w w') (ht' : LinesC 42 w.heap.size w' out' (T ++ [(N + 1, wordsOf ((l.take k).drop F))])) : RI w l n (k + 1) (N + 1) (k + 1) out' (.int .i64 ((N + 1 : Nat) : Int)) (.int .i64 ((k + 1 : Nat) : Int)) w' (T ++ [(N + 1, wordsOf ((l.take k).drop F))]) := by
  obtain ⟨h1, h2⟩ := h.go hk
  have ht : tell (N + 1) ((l.take k).drop F) = [(N + 1, wordsOf ((l.take k).drop F))] := by simp [tell, hw]
  refine ⟨rfl, rfl, ht', fun h3 => ⟨Nat.le_refl _, ?_⟩, fun h3 => ?_, by have := h.few; simp; omega, by have := h.few2; omega, hbel⟩
  · rw [h2, toldG_cut (hb (by omega)) rfl, ht, List.append_assoc]
  · have : k = n := by omega
    subst this
    rw [h2, toldG_last hl, ht]
end Go.Tx
namespace Go.Proofs.YtfmnemcnonbkfaaGreatDoor
open Go.RowKit Go.Lib Go.Tx Go.Proofs
theorem one_none (a : Option Addr) (n c : Nat) (l : List UInt8) (w : World) (h : BA w a n c l) (hold : ∀ x, a = some x → x.block < w.heap.size) (hw : wordsOf l = []) :
    Calls Tryz.prog 25 #[.slice a n c] w fun e w' => ∃ p c, e = .returned (.slice p 0 c) ∧ Below w.heap.size w w' := by
  refine (one_any a n c l w h hold).mono ?_
  rintro e w' ⟨v, rfl, hs, hb⟩
  obtain ⟨p, c, rfl⟩ := hs.shape
  rw [hw]
  exact ⟨p, c, rfl, hb⟩
theorem one_some (a : Option Addr) (n c : Nat) (l : List UInt8) (w : World) (h : BA w a n c l) (hold : ∀ x, a = some x → x.block < w.heap.size) (hw : ¬ wordsOf l = []) :
    Calls Tryz.prog 25 #[.slice a n c] w fun e w' => ∃ p k c, e = .returned (.slice p k c) ∧ 0 < k ∧ Hid (StrC w.heap.size w' (.slice p k c) (wordsOf l)) ∧ Below w.heap.size w w' := by
  refine (one_any a n c l w h hold).mono ?_
  rintro e w' ⟨v, rfl, hs, hb⟩
  obtain ⟨p, c, rfl⟩ := hs.shape
  exact ⟨p, _, c, rfl, List.length_pos_iff.2 hw, Lib.hid hs, hb⟩
theorem info69 : (Tryz.prog.info? 42).map (fun i => (i.zero, i.size, i.bytes)) = some (some (.agg #[.int .i64 0, .slice none 0 0]), 2, 32) := by kernel_rfl
def RLinesR (w : World) (T : List (Nat × List (List UInt8))) (e : Ending) (w' : World) : Prop := ∃ v, e = .returned v ∧ LinesC 42 w.heap.size w' v T ∧ Below w.heap.size w w'
set_option maxHeartbeats 2000000 in
set_option maxRecDepth 100000 in
theorem rlines_any (a : Option Addr) (n c : Nat) (l : List UInt8) (w : World) (h : BA w a n c l) (hold : ∀ x, a = some x → x.block < w.heap.size) (hn : n ≤ 1000000) :
    Calls Tryz.prog 15 #[.slice a n c] w (RLinesR w (toldG 1 [] l)) := by
  obtain ⟨i9, hi, hz0, hz1, hz2⟩ := info_parts info69
  have hcap := h.cap
  have hmax := h.max
  have HL := Lib.hid h.len
  have HBA := Lib.hid h
  have HOLD := Lib.hid hold
  clear h hold
  go_enter Tryz.func15, Tryz.ntmps15
  go_wp2
  go_loopw [3, 4, 5, 6] (fun out no fr i wr => ∃ k N F T, k ≤ n + 1 ∧ i = .int .i64 (k : Nat) ∧ RI w l n k N F out no fr wr T) (fun _ _ _ i _ => n + 1 - (intOf i).toNat)
  case atStart => exact ⟨0, 0, 0, [], Nat.zero_le _, rfl, RI.start w l n⟩
  case round =>
    obtain ⟨k, N, F, T, hk, rfl, hI⟩ := hrel
    have hno := hI.no
    have hfr := hI.fr
    subst hno hfr
    have hws := hI.bel.size
    have hfew := hI.few
    have hfew2 := hI.few2
    have HI := Lib.hid hI
    clear hI
    by_cases hlt : k ≤ n
    · have hF := (HI.out.go hlt).1
      by_cases h10 : k < n ∧ l[k]? ≠ some 10
      · obtain ⟨hkn, h10⟩ := h10
        obtain ⟨b, hb⟩ : ∃ b, l[k]? = some b := ⟨_, List.getElem?_eq_getElem (by rw [HL.out]; exact hkn)⟩
        obtain ⟨x, rfl⟩ : ∃ x, a = some x := by
          cases a with
          | none => have := HBA.out.none rfl; omega
          | some x => exact ⟨x, rfl⟩
        have hcell := (HBA.out.below HI.out.bel HOLD.out).cell x rfl k b hb
        have hb10 : ¬ b = 10 := by rintro rfl; exact h10 hb
        have e10 : ((b.toNat : Int) == 10) = false := by rw [beq_eq_false_iff_ne]; intro h; exact hb10 (UInt8.toNat_inj.1 (by show b.toNat = 10; omega))
        have HB := Lib.hid hb
        have H10 := Lib.hid hb10
        clear hb hb10 h10
        go_wp2
        go_roundw
        case rel => exact ⟨k + 1, N, F, T, by omega, by go_num, HI.out.skip HL.out HB.out H10.out⟩
        case measure => simp [intOf]; omega
      · have h10' : k < n → l[k]? = some 10 := fun hkn => Classical.byContradiction fun h => h10 ⟨hkn, h⟩
        have H10 := Lib.hid h10'
        clear h10 h10'
        by_cases hcF : c = F
        · obtain rfl : n = c := by omega
          obtain rfl : k = n := by omega
          obtain rfl : F = k := by omega
          have HS : Hid (BA wr a 0 0 ((l.take F).drop F)) := Lib.hid (by
            have h1 := ((HBA.out.take (Nat.le_refl F)).from (Nat.le_refl F)).below HI.out.bel (fun x hx => by rw [if_pos rfl] at hx; exact HOLD.out x hx)
            rw [if_pos rfl, Nat.sub_self] at h1
            exact h1)
          have HSO : Hid (∀ x, a = some x → x.block < wr.heap.size) := Lib.hid fun x hx => Nat.lt_of_lt_of_le (HOLD.out x hx) hws
          have HW : Hid (wordsOf ((l.take F).drop F) = []) := Lib.hid (by
            have e : (l.take F).drop F = [] := List.drop_of_length_le (by rw [List.length_take]; omega)
            rw [e]; exact wordsOf_nil)
          go_wp2_with (go_at_call 25; refine (one_none a 0 0 ((l.take F).drop F) _ HS.out HSO.out HW.out).mono ?_; rintro e w3 ⟨p, cc, rfl, hb3⟩)
          go_roundw
          case rel => exact ⟨F + 1, N + 1, F + 1, T, by omega, by go_num, HI.out.none HL.out hlt H10.out HW.out hb3⟩
          case measure => simp [intOf]
        · obtain ⟨x, rfl⟩ : ∃ x, a = some x := by
            cases a with
            | none => have := HBA.out.none rfl; omega
            | some x => exact ⟨x, rfl⟩
          have hblk : (x.add F).block = x.block := by unfold Addr.add; split <;> rfl
          have HSO : Hid (∀ y, some (x.add F) = some y → y.block < wr.heap.size) := Lib.hid fun y hy => by
            cases hy
            rw [hblk]
            exact Nat.lt_of_lt_of_le (HOLD.out x rfl) hws
          have HS : Hid (BA wr (some (x.add F)) (k - F) (c - F) ((l.take k).drop F)) := Lib.hid (by
            have h1 := ((HBA.out.take hlt).from hF).below HI.out.bel (fun y hy => by
              rw [if_neg hcF] at hy
              cases hy
              show (x.add F).block < _
              rw [hblk]
              exact HOLD.out x rfl)
            rw [if_neg hcF] at h1
            exact h1)
          clear hblk
          by_cases hkn : k < n
          · have hcell := (HBA.out.below HI.out.bel HOLD.out).cell x rfl k 10 (H10.out hkn)
            by_cases hws0 : wordsOf ((l.take k).drop F) = []
            · have HW := Lib.hid hws0
              clear hws0
              go_wp2_with (go_at_call 25; refine (one_none _ _ _ ((l.take k).drop F) _ HS.out HSO.out HW.out).mono ?_; rintro e w3 ⟨p, cc, rfl, hb3⟩)
              go_roundw
              case rel => exact ⟨k + 1, N + 1, k + 1, T, by omega, by go_num, HI.out.none HL.out hlt H10.out HW.out hb3⟩
              case measure => simp [intOf]; omega
            · have HW := Lib.hid hws0
              clear hws0
              obtain ⟨xs, hown, hent⟩ := HI.out.told
              have HO := Lib.hid hown
              have HE := Lib.hid hent
              clear hown hent
              go_wp2_with (first | (go_at_call 25; refine (one_some _ _ _ ((l.take k).drop F) _ HS.out HSO.out HW.out).mono ?_; rintro e w3 ⟨p, kk, cc, rfl, hkk, hs3, hb3⟩) | (at_builtin; refine wpList_append_own _ rfl _ _ 40 rfl w.heap.size 42 i9 (.agg #[.int .i64 0, .slice none 0 0]) 2 32 Tryz.underlying40 hi hz0 hz1 hz2 rfl (by decide) _ _ _ rfl ((own_below HO.out hb3).alloc _) ⟨w3.heap.size, 0, none⟩ 1 1 [.int .i64 ((N : Int) + 1), .slice p kk cc] rfl rfl (new_cells _ _ _ _) (by simp [Value.oneCell']) (by unfold maxLen; omega) (by omega) (by have := hb3.size; show w.heap.size ≤ (w3.heap.push _).size; simp; omega) ?_; intro v' w5 hown5 hg5 _))
              go_roundw
              case rel => exact ⟨k + 1, N + 1, k + 1, _, by omega, by go_num, HI.out.some (w4 := w3) (wv := .nilFunc) (xs := []) HL.out hlt H10.out HW.out (((HI.out.bel.trans (hb3.mono hws)).alloc (by have := hb3.size; omega) _).grown hg5 (by have := hb3.size; show w.heap.size ≤ (w3.heap.push _).size; simp; omega) (fun g hg => (HO.out.lt g hg).1)) (LinesC.push (by decide) ((own_below HO.out hb3).alloc _) (fun i no ws h => by obtain ⟨x1, wv, x2, x3⟩ := HE.out i no ws h; exact ⟨x1, wv, x2, World.ownsRow.alloc (own_below x3 hb3) _⟩) (World.ownsRow.alloc (own_base hs3.out hws) _) hown5 hg5)⟩
              case measure => simp [intOf]; omega
          · by_cases hws0 : wordsOf ((l.take k).drop F) = []
            · have HW := Lib.hid hws0
              clear hws0
              go_wp2_with (go_at_call 25; refine (one_none _ _ _ ((l.take k).drop F) _ HS.out HSO.out HW.out).mono ?_; rintro e w3 ⟨p, cc, rfl, hb3⟩)
              go_roundw
              case rel => exact ⟨k + 1, N + 1, k + 1, T, by omega, by go_num, HI.out.none HL.out hlt H10.out HW.out hb3⟩
              case measure => simp [intOf]; omega
            · have HW := Lib.hid hws0
              clear hws0
              obtain ⟨xs, hown, hent⟩ := HI.out.told
              have HO := Lib.hid hown
              have HE := Lib.hid hent
              clear hown hent
              go_wp2_with (first | (go_at_call 25; refine (one_some _ _ _ ((l.take k).drop F) _ HS.out HSO.out HW.out).mono ?_; rintro e w3 ⟨p, kk, cc, rfl, hkk, hs3, hb3⟩) | (at_builtin; refine wpList_append_own _ rfl _ _ 40 rfl w.heap.size 42 i9 (.agg #[.int .i64 0, .slice none 0 0]) 2 32 Tryz.underlying40 hi hz0 hz1 hz2 rfl (by decide) _ _ _ rfl ((own_below HO.out hb3).alloc _) ⟨w3.heap.size, 0, none⟩ 1 1 [.int .i64 ((N : Int) + 1), .slice p kk cc] rfl rfl (new_cells _ _ _ _) (by simp [Value.oneCell']) (by unfold maxLen; omega) (by omega) (by have := hb3.size; show w.heap.size ≤ (w3.heap.push _).size; simp; omega) ?_; intro v' w5 hown5 hg5 _))
              go_roundw
              case rel => exact ⟨k + 1, N + 1, k + 1, _, by omega, by go_num, HI.out.some (w4 := w3) (wv := .nilFunc) (xs := []) HL.out hlt H10.out HW.out (((HI.out.bel.trans (hb3.mono hws)).alloc (by have := hb3.size; omega) _).grown hg5 (by have := hb3.size; show w.heap.size ≤ (w3.heap.push _).size; simp; omega) (fun g hg => (HO.out.lt g hg).1)) (LinesC.push (by decide) ((own_below HO.out hb3).alloc _) (fun i no ws h => by obtain ⟨x1, wv, x2, x3⟩ := HE.out i no ws h; exact ⟨x1, wv, x2, World.ownsRow.alloc (own_below x3 hb3) _⟩) (World.ownsRow.alloc (own_base hs3.out hws) _) hown5 hg5)⟩
              case measure => simp [intOf]; omega
    · obtain rfl : k = n + 1 := by omega
      have hend := HI.out.done (by omega)
      have HE := Lib.hid hend
      clear hend
      go_wp2
      go_ret
      exact ⟨_, rfl, by rw [HE.out]; exact HI.out.told, HI.out.bel⟩
end Go.Proofs.YtfmnemcnonbkfaaGreatDoor

namespace Go.Tx
open Go.RowKit
end Go.Tx
namespace Go.Proofs.YtfmnemcnonbkfaaGreatDoor
open Go.RowKit Go.Lib Go.Tx Go.Proofs
set_option maxHeartbeats 1000000 in
set_option maxRecDepth 100000 in
theorem eqtexts_any (v1 v2 : Value) (ws : List (List UInt8)) (B1 B2 : Nat) (w : World) (h1 : StrC B1 w v1 ws) (h2 : StrC B2 w v2 ws) :
    Calls Tryz.prog 10 #[v1, v2] w fun e w' => e = .returned (.bool true) ∧ ∃ q, w' = w.drewN q := by
  obtain ⟨p1, c1, rfl, hc1, hm1, hr1⟩ := h1.read
  obtain ⟨p2, c2, rfl, hc2, hm2, hr2⟩ := h2.read
  have H1 := Lib.hid hr1
  have H2 := Lib.hid hr2
  obtain ⟨n, hn⟩ : ∃ n, ws.length = n := ⟨_, rfl⟩
  rw [hn] at hc1 hc2 ⊢
  have HN := Lib.hid hn
  clear hr1 hr2 h1 h2 hn
  go_enter Tryz.func10, Tryz.ntmps10
  go_wp2
  go_loopw [5] (fun i wr => ∃ k q, k ≤ n ∧ i = .int .i64 (k : Nat) ∧ wr = w.drewN q) (fun i _ => n - (intOf i).toNat)
  case atStart => exact ⟨0, 0, Nat.zero_le _, rfl, rfl⟩
  case round =>
    obtain ⟨k, q, hk, rfl, rfl⟩ := hrel
    by_cases hlt : k < n
    · obtain ⟨l, hl⟩ : ∃ l, ws[k]? = some l := ⟨_, List.getElem?_eq_getElem (by rw [HN.out]; exact hlt)⟩
      obtain ⟨g1, rfl, -, hcell1⟩ := H1.out k l hl
      obtain ⟨g2, rfl, -, hcell2⟩ := H2.out k l hl
      clear hl
      go_wp2
      go_quiet (fail)
      go_wp2
      go_roundw
      case rel => exact ⟨k + 1, _, hlt, by go_num, rfl⟩
      case measure => simp [intOf]; omega
    · go_wp2
      go_ret
      exact ⟨rfl, q, rfl⟩
theorem short_le (a : Option Addr) (n c m : Nat) (w : World) (hc : n ≤ c) (hm : c ≤ 9223372036854775807) (h : n ≤ m) :
    Calls Tryz.prog 6 #[.slice a n c, .int .i64 m] w fun e w' => e = .returned (.slice a n c) ∧ w = w' := by
  go_enter Tryz.func6, Tryz.ntmps6
  go_wp2
  go_ret
  exact ⟨rfl, rfl⟩
theorem short_gt (a : Option Addr) (n c m : Nat) (w : World) (hc : n ≤ c) (hm : c ≤ 9223372036854775807) (h : m < n) :
    Calls Tryz.prog 6 #[.slice a n c, .int .i64 m] w fun e w' => e = .returned (.slice a m c) ∧ w = w' := by
  go_enter Tryz.func6, Tryz.ntmps6
  go_wp2
  go_ret
  exact ⟨rfl, rfl⟩
end Go.Proofs.YtfmnemcnonbkfaaGreatDoor

namespace Go.Proofs.YtfmnemcnonbkfaaGreatDoor
open Go.RowKit Go.Lib Go.Tx
/-- A value that reads as texts. -/
def TextsIn (w : World) (v : Value) (zs : List (List UInt8)) : Prop :=
  (v = .slice none 0 0 ∧ zs = []) ∨ ∃ ad c, v = .slice (some ad) zs.length c ∧ ∀ (i : Nat) l, zs[i]? = some l → w.cell? (ad.add i) = some (strV l)
theorem StrC.texts {B : Nat} {w : World} {v : Value} {ws : List (List UInt8)} (h : StrC B w v ws) : TextsIn w v ws := by
  rcases h.2 with ⟨a, b⟩ | ⟨g, cap, cur, a, a2, a3, a4, a5, a6⟩
  · refine .inl ⟨a, ?_⟩
    have := h.1
    cases ws
    · rfl
    · simp at b
  · refine .inr ⟨⟨g, 0, none⟩, cap, a, fun i l hi => ?_⟩
    have := World.ownsRow.cells h (g := g) (by rw [a]; rfl) i (strV l) (by rw [List.getElem?_map, hi]; rfl)
    exact this
theorem TextsIn.below {w w' : World} {v : Value} {zs : List (List UInt8)} (h : TextsIn w v zs) (hb : Below w.heap.size w w') : TextsIn w' v zs := by
  rcases h with h | ⟨ad, c, h1, h2⟩
  · exact .inl h
  · refine .inr ⟨ad, c, h1, fun i l hi => ?_⟩
    have hc := h2 i l hi
    have hlt : (ad.add i).block < w.heap.size := by
      unfold World.cell? at hc
      split at hc
      · rename_i hh
        exact (Array.getElem?_eq_some_iff.1 hh).1
      · cases hc
    rw [hb.cell hlt]
    exact hc
theorem infoStr : (Tryz.prog.info? 9).map (fun i => (i.zero, i.size, i.bytes)) = some (some (.string ⟨#[]⟩), 1, 16) := by kernel_rfl
theorem wpList_append_texts {w : World} {ops : Array Oper} {rest : List Oper} {o : Oper} {a : Act} {Q : Exit → Act → World → Prop} (hgd : o.guard = none) (s x : Operand)
    (ho : o.op = .call { callee := .builtin .append, args := #[s, x], argTypes := #[26, 26] }) {B : Nat} {v y : Value} {ws zs : List (List UInt8)} (hs : a.eval s = v) (hx : a.eval x = y) (hown : StrC B w v ws) (hsrc : TextsIn w y zs)
    (hlen : ws.length + zs.length ≤ 1000000) (hB : B ≤ w.heap.size) (h : ∀ v' w', StrC B w' v' (ws ++ zs) → Below B w w' → wpList Tryz.prog ops Q rest (a.put o.dst v') w') : wpList Tryz.prog ops Q (o :: rest) a w := by
  obtain ⟨i9, hi, hz0, hz1, hz2⟩ := info_parts infoStr
  rcases hsrc with ⟨rfl, rfl⟩ | ⟨ad, c, rfl, hcell⟩
  · exact wpList_append_own_none hgd s x 26 ho B 9 i9 1 Tryz.underlying26 hi v ws.length (ws.map strV) hs hown hx (h v w (by rw [List.append_nil]; exact hown) (Below.refl B w))
  · refine wpList_append_own w hgd s x 26 ho B 9 i9 (.string ⟨#[]⟩) 1 16 Tryz.underlying26 hi hz0 hz1 hz2 rfl (by decide) v ws.length (ws.map strV) hs hown ad zs.length c (zs.map strV) hx (by simp) (fun j u hj => ?_) ?_ (by unfold maxLen; omega) (by omega) hB fun v' w' h1 h2 h3 => ?_
    · rw [List.getElem?_map] at hj
      obtain ⟨l, hl, rfl⟩ := Option.map_eq_some_iff.1 hj
      exact hcell j l hl
    · intro u hu
      obtain ⟨l, _, rfl⟩ := List.mem_map.1 hu
      rfl
    · refine h v' w' ?_ ?_
      · unfold StrC
        rw [List.length_append, List.map_append]
        exact h1
      · exact (Below.refl B w).grown h2 hB (fun g hg => (World.ownsRow.lt hown g hg).1)
end Go.Proofs.YtfmnemcnonbkfaaGreatDoor

namespace Go.Proofs.YtfmnemcnonbkfaaGreatDoor
open Go.RowKit Go.Lib Go.Tx
theorem listE_beq (a b : ByteArray) : (a.toList == b.toList) = decide (a.data.toList = b.data.toList) := by
  rw [Go.Lib.toList_data, Go.Lib.toList_data, Bool.eq_iff_iff]
  simp only [beq_iff_eq, decide_eq_true_eq]
theorem exE_take (w : ByteArray) (n : Nat) : (w.extract 0 n).data.toList = w.data.toList.take n := by
  rw [ByteArray.data_extract]
  simp
theorem exE_drop (w : ByteArray) (n : Nat) : (w.extract n w.size).data.toList = w.data.toList.drop n := by
  show (w.extract n w.data.size).data.toList = _
  rw [ByteArray.data_extract]
  simp
  exact List.take_of_length_le (by rw [List.length_drop]; exact Nat.le_refl _)
/-- What option answers. -/
def OptR (r : Option Int) (w : World) (e : Ending) (w' : World) : Prop := ∃ x, e = .returned (.tuple #[.int .i64 x, .bool r.isSome]) ∧ (∀ v, r = some v → x = v) ∧ w' = w
set_option maxHeartbeats 4000000 in
set_option maxRecDepth 100000 in
theorem ropt_any (s n : ByteArray) (lo hi : Int) (w : World) (hs : s.size ≤ 1000000) (hn : n.size ≤ 100) :
    Calls Tryz.prog 18 #[.string s, .string n, .int .i64 lo, .int .i64 hi] w (OptR (optN s.data.toList n.data.toList lo hi) w) := by
  have hsl : s.data.toList.length = s.size := rfl
  have hnl : n.data.toList.length = n.size := rfl
  by_cases h1 : s.size ≤ n.size
  · have hr : optN s.data.toList n.data.toList lo hi = none := by unfold optN; rw [if_neg (by rintro ⟨h, _⟩; omega)]
    rw [hr]
    have h1' : (s.size : Int) ≤ (n.size : Int) := by omega
    clear hsl hnl hr h1
    go_enter Tryz.func18, Tryz.ntmps18
    go_wp2
    go_ret2
    exact ⟨0, rfl, fun v h => by (cases h), rfl⟩
  · have h1' : ¬ (s.size : Int) ≤ (n.size : Int) := by omega
    by_cases h2 : s.data.toList.take n.size = n.data.toList
    · have hb : ((s.extract 0 n.size).toList == n.toList) = true := by rw [listE_beq, exE_take]; exact decide_eq_true h2
      have HN := Lib.hid (rnum_any (s.extract n.size s.size) hi w (by
        have e : (s.extract n.size s.size).data.toList.length = (s.extract n.size s.size).size := rfl
        rw [exE_drop, List.length_drop] at e
        unfold maxLen
        omega))
      rw [exE_drop] at HN
      have hr : optN s.data.toList n.data.toList lo hi = if (numRes (s.data.toList.drop n.size) hi).2 = true ∧ lo ≤ (numRes (s.data.toList.drop n.size) hi).1 then some (numRes (s.data.toList.drop n.size) hi).1 else none := by
        unfold optN
        rw [hnl, if_pos ⟨by omega, h2⟩]
      rw [hr]
      generalize numRes (s.data.toList.drop n.size) hi = R at *
      obtain ⟨x, u⟩ := R
      simp only at HN ⊢
      clear hsl hnl hr h1 h2
      cases u with
      | false =>
        rw [if_neg (by simp)]
        go_enter Tryz.func18, Tryz.ntmps18
        go_wp2_with (go_at_call 31; refine HN.out.mono ?_; rintro e w2 ⟨rfl, rfl⟩)
        go_ret2
        exact ⟨x, rfl, fun v h => by (cases h), rfl⟩
      | true =>
        by_cases h3 : lo ≤ x
        · have h3' : decide (x ≥ lo) = true := decide_eq_true h3
          rw [if_pos ⟨rfl, h3⟩]
          go_enter Tryz.func18, Tryz.ntmps18
          go_wp2_with (go_at_call 31; refine HN.out.mono ?_; rintro e w2 ⟨rfl, rfl⟩)
          go_ret2
          exact ⟨x, by simp, fun v h => by (cases h; rfl), rfl⟩
        · have h3' : decide (x ≥ lo) = false := decide_eq_false h3
          rw [if_neg (by rintro ⟨_, h⟩; exact h3 h)]
          go_enter Tryz.func18, Tryz.ntmps18
          go_wp2_with (go_at_call 31; refine HN.out.mono ?_; rintro e w2 ⟨rfl, rfl⟩)
          go_ret2
          exact ⟨x, by simp, fun v h => by (cases h), rfl⟩
    · have hb : ((s.extract 0 n.size).toList == n.toList) = false := by rw [listE_beq, exE_take]; exact decide_eq_false h2
      have hr : optN s.data.toList n.data.toList lo hi = none := by unfold optN; rw [hnl, if_neg (by rintro ⟨_, h⟩; exact h2 h)]
      rw [hr]
      clear hsl hnl hr h1 h2
      go_enter Tryz.func18, Tryz.ntmps18
      go_wp2
      go_ret2
      exact ⟨0, rfl, fun v h => by (cases h), rfl⟩
/-- Settings as a value. -/
def SetV (B : Nat) (w : World) (v : Value) (S : SetL) : Prop := ∃ v1 v2, v = .agg #[v1, v2, .int .i64 S.dots, .int .i64 S.tmo, .int .i64 S.att, .bool S.rot] ∧ StrC B w v1 S.servers ∧ StrC B w v2 S.search
theorem SetV.below {B : Nat} {w w' : World} {v : Value} {S : SetL} (h : SetV B w v S) (hb : Below w.heap.size w w') : SetV B w' v S := by
  obtain ⟨v1, v2, rfl, h1, h2⟩ := h
  exact ⟨v1, v2, rfl, own_below h1 hb, own_below h2 hb⟩
set_option maxHeartbeats 4000000 in
set_option maxRecDepth 100000 in
/-- The same settings are the same. -/
theorem eqset_any (B1 B2 : Nat) (va vb : Value) (S : SetL) (w : World) (ha : SetV B1 w va S) (hb : SetV B2 w vb S) :
    Calls Tryz.prog 7 #[va, vb] w fun e w' => e = .returned (.bool true) ∧ Below w.heap.size w w' := by
  obtain ⟨a1, a2, rfl, ha1, ha2⟩ := ha
  obtain ⟨b1, b2, rfl, hb1, hb2⟩ := hb
  obtain ⟨srv, sea, d, t, n, r⟩ := S
  simp only at ha1 ha2 hb1 hb2 ⊢
  obtain ⟨W, hW⟩ : ∃ W, (w.alloc (.cells #[a1, a2, .int .i64 d, .int .i64 t, .int .i64 n, .bool r] 28)).alloc (.cells #[b1, b2, .int .i64 d, .int .i64 t, .int .i64 n, .bool r] 28) = W := ⟨_, rfl⟩
  have hbW : Below w.heap.size w W := by rw [← hW]; exact ((Below.refl _ _).alloc (Nat.le_refl _) _).alloc (by show w.heap.size ≤ (w.heap.push _).size; simp) _
  have H1 : Hid (StrC B1 W a1 srv) := Lib.hid (own_below ha1 hbW)
  have H2 : Hid (∀ q, StrC B1 (W.drewN q) a2 sea) := Lib.hid (fun q => own_below (own_below ha2 hbW) (below_drewN' (Below.refl _ _) q))
  have H3 : Hid (StrC B2 W b1 srv) := Lib.hid (own_below hb1 hbW)
  have H4 : Hid (∀ q, StrC B2 (W.drewN q) b2 sea) := Lib.hid (fun q => own_below (own_below hb2 hbW) (below_drewN' (Below.refl _ _) q))
  have HQ : Hid (∀ V : World, V.heap = W.heap → (V.cell? ⟨w.heap.size, 0, none⟩ = some a1 ∧ V.cell? ⟨w.heap.size, 1, none⟩ = some a2 ∧ V.cell? ⟨w.heap.size, 2, none⟩ = some (.int .i64 d) ∧ V.cell? ⟨w.heap.size, 3, none⟩ = some (.int .i64 t) ∧ V.cell? ⟨w.heap.size, 4, none⟩ = some (.int .i64 n) ∧ V.cell? ⟨w.heap.size, 5, none⟩ = some (.bool r)) ∧
      (V.cell? ⟨w.heap.size + 1, 0, none⟩ = some b1 ∧ V.cell? ⟨w.heap.size + 1, 1, none⟩ = some b2 ∧ V.cell? ⟨w.heap.size + 1, 2, none⟩ = some (.int .i64 d) ∧ V.cell? ⟨w.heap.size + 1, 3, none⟩ = some (.int .i64 t) ∧ V.cell? ⟨w.heap.size + 1, 4, none⟩ = some (.int .i64 n) ∧ V.cell? ⟨w.heap.size + 1, 5, none⟩ = some (.bool r))) := Lib.hid (fun V hV => by
    have h1 : V.heap[w.heap.size]? = some (.cells #[a1, a2, .int .i64 d, .int .i64 t, .int .i64 n, .bool r] 28 (0, 0)) := by rw [hV, ← hW]; exact heap_alloc2_old w _ _
    have h2 : V.heap[w.heap.size + 1]? = some (.cells #[b1, b2, .int .i64 d, .int .i64 t, .int .i64 n, .bool r] 28 (0, 0)) := by rw [hV, ← hW]; exact heap_alloc2_new w _ _
    refine ⟨⟨?_, ?_, ?_, ?_, ?_, ?_⟩, ⟨?_, ?_, ?_, ?_, ?_, ?_⟩⟩ <;> simp [World.cell?, h1, h2])
  have HB := Lib.hid hbW
  have e1 : (d == d) = true := by simp
  have e2 : (t == t) = true := by simp
  have e3 : (n == n) = true := by simp
  have e4 : (r == r) = true := by simp
  clear ha1 ha2 hb1 hb2 hbW
  go_enter Tryz.func7, Tryz.ntmps7
  go_upto_region 1 with (fail)
  try rw [hW]
  clear hW
  obtain ⟨⟨p0, p1, p2, p3, p4, p5⟩, ⟨q0, q1, q2, q3, q4, q5⟩⟩ := HQ.out W rfl
  go_wp2_with (first | (go_at_call 10; with_reducible refine (eqtexts_any _ _ srv B1 B2 W H1.out H3.out).mono ?_; rintro e w5 ⟨rfl, k, rfl⟩; obtain ⟨⟨p0, p1, p2, p3, p4, p5⟩, ⟨q0, q1, q2, q3, q4, q5⟩⟩ := HQ.out (W.drewN k) rfl) | (go_at_call 10; with_reducible refine (eqtexts_any _ _ sea B1 B2 _ (H2.out _) (H4.out _)).mono ?_; rintro e w6 ⟨rfl, l, rfl⟩; obtain ⟨⟨p0, p1, p2, p3, p4, p5⟩, ⟨q0, q1, q2, q3, q4, q5⟩⟩ := HQ.out ((W.drewN k).drewN l) rfl))
  go_ret
  exact ⟨by first | rfl | simp, below_drewN' HB.out _⟩
end Go.Proofs.YtfmnemcnonbkfaaGreatDoor

