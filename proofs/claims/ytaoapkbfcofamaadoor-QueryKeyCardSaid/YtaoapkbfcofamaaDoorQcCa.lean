/- Contracts and plain facts that the law leans on. -/
import Derived.Test.YtaoapkbfcofamaaDoorEvC
import Derived.HandedShaped
import Derived.Lib.LaidU8
import Derived.Stop.LaidErr
import Derived.Shelf.Vars
import Derived.Lay
import Derived.SevenTiedAt
import Derived.ProofKit
import Derived.OpenShut
import Derived.Test.YtaoapkbfcofamaaDoorRows
import Derived.Test.YtaoapkbfcofamaaDoorShelf
import Derived.SliceStrings
import Derived.WideShapes
import Derived.Carry
import Derived.KernelRfl
import Derived.Lib.Strings
import Derived.Lib.Bytes
import Derived.Lib.SplitLaws
import Derived.Laws.RangeAny
import Derived.Shelf.GgClosure.StringsIndexFunc
import Derived.WalkKit
import Derived.Below
import Derived.Laws.IdiomStrings
import Derived.Laws.OwnMore
import Derived.Lib.Hide
import Derived.Test.YtaoapkbfcofamaaDoorChecked
import Derived.LoopTactic
import Derived.OwnWalk
import Derived.Deep.CutBlock
import Derived.Deep.RegionHeld3
import Derived.Deep.CutRange
import Derived.Deep.QuietTactic
import Derived.ChangeArms
import Derived.Deep.Slices
import Derived.Test.YtaoapkbfcofamaaDoorEvB
import Derived.Lib.SlBytesConst
namespace Go.Fr
open Go Go.Ev Go.RowKit Go.Lib
variable {H : Type} {enc : TypeId × Value → H}
theorem wrap {a : Assume} {C : Checked} {os : Os} {f : FuncId} {fn : Func} {s : ChangeSpec} {conds : List PathCond} {apart fresh handsOn again : Bool} {X : World → Array Value → Prop}
    (hX : ∀ (w w' : World) (args : Array Value), w.heap = w'.heap → X w args → X w' args)
    (own : ownKnob C.prog.godebug = none) (started : os.Started) (noInit : C.prog.inits.idxOf? f = none) (hfn : C.prog.funcs[f]? = some fn)
    (witness : ∃ (w : World) (tape : Tape) (i : Input), w.os = os ∧ (w.forCall tape i).Shaped C.prog ∧ i.vars = [] ∧ Input.okWide C.prog (w.forCall tape i) .any w.heap.size f i ∧
      ((s.pre enc C.prog fn conds apart (w.forCall tape i).memory i.args ∧ X (w.forCall tape i).memory i.args) ∧ sizedMet enc C.prog fn (OpenSpec.ofChange s) apart (w.forCall tape i).memory i.args) ∧ a.holds C.prog (lone (Frame.enter C.prog f i.args .normal) [] (w.forCall tape i)))
    (contract : ∀ (W : World) (base : Nat) (args : Array Value) (ds gs : List (DataW H)) (before : List MemPlace),
      (∀ (j : Nat) t v, fn.params[j]? = some t → args[j]? = some v → Value.okWide C.prog W .any base t v) →
      DataW.Whole enc C.prog fn.params.toList s.vars apart W args.toList ds gs before →
      conds.all (PathCond.test C.prog ⟨fn.params.toList, ds, s.plain.varTypes C.prog, gs⟩) = true →
      (DataW.weightsEach C.prog (fn.params.toList ++ s.plain.varTypes C.prog) (ds ++ gs)).all (· ≤ reachBytes) = true → X W args → W.ShapedOpen C.prog →
      Calls C.prog f args W fun e W' => ∃ v, e = .returned v ∧ s.post enc C.prog fn apart fresh handsOn again W args v W') :
    ReturnsInHanded a C os f .any (fun w args => (s.pre enc C.prog fn conds apart w args ∧ X w args) ∧ sizedMet enc C.prog fn (OpenSpec.ofChange s) apart w args) (s.post enc C.prog fn apart fresh handsOn again) := by
  refine returnsInHanded_of_calls own started noInit witness ?_
  intro w tape i _ hsh _ hok hpre hholds
  obtain ⟨_, _, _, fn', hfn', _, _, _, _, hval⟩ := hok
  have e : fn' = fn := Option.some.inj (hfn'.symm.trans hfn)
  subst e
  obtain ⟨⟨⟨ds, gs, before, hw, hc⟩, hx⟩, hz⟩ := hpre
  have hw' := DataW.Whole.of_heap (w' := w.forCall tape i) (by rfl) hw
  refine (contract (w.forCall tape i) w.heap.size i.args ds gs before hval hw' hc (hz.weights hw) (hX _ _ _ (by rfl) hx) hsh).mono fun e W' ⟨v, he, hp⟩ => ?_
  subst he
  exact ChangeSpec.post_blind hp
/-! ### What is known of package variables -/
def gL (l : List (Nat × List AV)) (b : Nat) : Option (List AV) :=
  match l with
  | [] => none
  | e :: l => match Nat.beq b e.1 with
    | true => some e.2
    | false => gL l b
/-- A variable holds these values. -/
def Has (W : World) (g : Nat) (l : List AV) : Prop :=
  ∃ arr elem fr, W.heap[g]? = some (.cells arr elem fr) ∧ ∃ vs, VRL (fun _ => none) l vs ∧ ∀ (i : Nat) v, vs[i]? = some v → arr[i]? = some v
theorem glo_nil {W : World} : GloOK (Bas.of W) (gL []) := fun b l e => by cases e
theorem glo_cons {W : World} {g : Nat} {x : List AV} {l : List (Nat × List AV)} (h : Has W g x) (hl : GloOK (Bas.of W) (gL l)) : GloOK (Bas.of W) (gL ((g, x) :: l)) := by
  intro b y e
  unfold gL at e
  split at e
  · rename_i hb
    have hb : b = g := Nat.eq_of_beq_eq_true hb
    cases e
    subst hb
    obtain ⟨arr, elem, fr, h1, h2⟩ := h
    exact ⟨(Array.getElem?_eq_some_iff.1 h1).1, arr, elem, fr, h1, h2⟩
  · exact hl b y e
theorem has_of_var {P : Program} {W : World} {n : String} {g : Nat} {cs : Array Value} {l : List AV} (hg : P.globalNamed n = some g) (hv : W.var? P n = some cs) (h : VRL (fun _ => none) l cs.toList) : Has W g l := by
  unfold World.var? at hv
  rw [hg] at hv
  simp only [Option.bind_some] at hv
  split at hv
  · rename_i arr elem fr hh
    cases hv
    exact ⟨_, _, _, hh, _, h, fun i v e => by simpa using e⟩
  · cases hv
theorem vrl_ints {k : IntKind} : ∀ (zs : List Int), VRL (fun _ => none) (zs.map fun z => AV.int k z) (zs.map fun z => Value.int k z)
  | [] => VRL.nil
  | _ :: zs => VRL.cons rfl (vrl_ints zs)
/-- A table of integers. -/
theorem has_tab {P : Program} {W : World} {n : String} {g t e m : Nat} {k : IntKind} {zs : List Int} (h : VarReads P W n (tabData k zs)) (hg : P.globalNamed n = some g) (hty : (P.globals[g]?).map (·.type) = some t)
    (ht : P.underlying t = some (.array m e)) (he : P.underlying e = some (.int k)) (hce : P.cellsOf e = 1) (hct : P.cellsOf t = m) : Has W g (zs.map fun z => AV.int k z) := by
  obtain ⟨g', t', cs, fuel, p, h1, h2, h3, h4⟩ := h
  obtain rfl := Option.some.inj (hg.symm.trans h1)
  obtain rfl := Option.some.inj (hty.symm.trans h2)
  refine has_of_var hg h3 ?_
  rw [cells_of_tab ht he hce hct h4]
  exact vrl_ints zs
/-- A sentinel error. -/
theorem has_sent {P : Program} {n nm : String} {text : List UInt8} {r : List (String × DataW Unit)} {W : World} {g : Nat} {ti tp te ts : TypeId} {ms : Array (String × TypeId)} {f : Field}
    (h : laidMet P ((n, .iface nm (.ptr (.agg [.lit (.string text)]))) :: r) W)
    (hg : P.globalNamed n = some g) (ht : (P.globals[g]?).map (·.type) = some ti) (hi : P.underlying ti = some (.interface ms)) (hrow : ∀ u, P.typeName? 3 u = some nm → u = tp)
    (hp : P.underlying tp = some (.pointer te)) (he : P.underlying te = some (.struct #[f])) (hft : f.type = ts) (hfo : f.offset = 0) (hs : P.underlying ts = some .string) (hc : P.cellsOf te = 1) (hcs : P.cellsOf ts = 1) :
    ∃ b o : Nat, Has W g [.iface tp (.glob b o)] := by
  obtain ⟨a, s, h1, h2, _, _⟩ := laid_sentinel h hg ht hi hrow hp he hft hfo hs hc hcs
  obtain ⟨b, o, sp⟩ := a
  have : sp = none := by
    unfold World.cell? at h2
    split at h2
    · split at h2
      · cases h2
      · rename_i hn; simpa using hn
    · cases h2
  subst this
  exact ⟨b, o, has_of_var hg h1 (VRL.cons ⟨_, rfl, rfl⟩ VRL.nil)⟩
end Go.Fr

namespace Go.Proofs.YtaoapkbfcofamaaDoor
open Go.RowKit Go.Ev Go.Fr Go.Lib Go.ChangeShapes
theorem fol : Tryd.prog.follows .mixedOrders = true := by kernel_rfl
theorem own : ownKnob Tryd.prog.godebug = none := by kernel_rfl
abbrev laidL : List (String × DataW Unit) := Rows.queryCheckRow.laid
noncomputable def exts : List (Nat × ExtK) := []
def tab2 : List Int := [0, 1, 28, 2, 29, 14, 24, 3, 30, 22, 20, 15, 25, 17, 4, 8, 31, 27, 13, 23, 21, 19, 16, 7, 26, 12, 18, 6, 11, 5, 10, 9]
def tab3 : List Int := [0, 1, 56, 2, 57, 49, 28, 3, 61, 58, 42, 50, 38, 29, 17, 4, 62, 47, 59, 36, 45, 43, 51, 22, 53, 39, 33, 30, 24, 18, 12, 5, 63, 55, 48, 27, 60, 41, 37, 16, 46, 35, 44, 21, 52, 32, 23, 11, 54, 26, 40, 15, 34, 20, 31, 10, 25, 14, 19, 9, 13, 8, 7, 6]
def tab0 : List Int := [1, 10, 100, 1000, 10000, 100000, 1000000, 10000000, 100000000, 1000000000, 10000000000, 100000000000, 1000000000000, 10000000000000, 100000000000000, 1000000000000000, 10000000000000000, 100000000000000000, 1000000000000000000, 10000000000000000000]
def glos : List (Nat × List AV) :=
  [(2, tab2.map fun z => .int .u8 z), (3, tab3.map fun z => .int .u8 z), (0, tab0.map fun z => .int .u64 z)]
noncomputable def E0 : Env := { P := Tryd.prog, ext := extL exts, G := gL glos }
theorem fns (B : Bas) (W : World) (hB : B = Bas.of W) (hsh : W.ShapedOpen Tryd.prog) : FnsOK Tryd.prog B (extL exts) := by
  exact FnsOK.nil
theorem eok (W : World) (hL : laidMetH Tryd.prog laidL W) (hsh : W.ShapedOpen Tryd.prog) : EOK E0 (Bas.of W) := by
  rw [MakeChecks.laidMetH_plain _ _ _ (by kernel_rfl)] at hL
  have h2 : Has W 2 (tab2.map fun z => .int .u8 z) := has_tab (Lib.laidMet.reads hL (n := "math/bits.deBruijn32tab") (d := tabData .u8 tab2) (.head _)) (by kernel_rfl) (by kernel_rfl) Tryd.underlying112 Tryd.underlying5 (by kernel_rfl) (by kernel_rfl)
  have h3 : Has W 3 (tab3.map fun z => .int .u8 z) := has_tab (Lib.laidMet.reads hL (n := "math/bits.deBruijn64tab") (d := tabData .u8 tab3) (.tail _ (.head _))) (by kernel_rfl) (by kernel_rfl) Tryd.underlying113 Tryd.underlying5 (by kernel_rfl) (by kernel_rfl)
  have h0 : Has W 0 (tab0.map fun z => .int .u64 z) := has_tab (Lib.laidMet.reads hL (n := "internal/strconv.uint64pow10") (d := tabData .u64 tab0) (.tail _ (.tail _ (.head _)))) (by kernel_rfl) (by kernel_rfl) Tryd.underlying102 Tryd.underlying82 (by kernel_rfl) (by kernel_rfl)
  exact ⟨extOK_nil, fns _ W rfl hsh, (glo_cons h2 (glo_cons h3 (glo_cons h0 glo_nil)))⟩
end Go.Proofs.YtaoapkbfcofamaaDoor

namespace Go.Sl
open Go Go.RowKit Go.ChangeShapes Go.ChangeMaps Go.WideShapes
/-- A slice of texts that came in: all texts up to its capacity. -/
def IsStrs (w : World) (a : Option Addr) (n c : Nat) (ss : List ByteArray) : Prop :=
  (a = none ∧ n = 0 ∧ c = 0 ∧ ss = []) ∨ ∃ x, a = some x ∧ n ≤ c ∧ c ≤ maxLen ∧ ss.length = c ∧ (∀ i, i < ss.length → w.cell? (x.add i) = some (.string (ss.getD i ByteArray.empty))) ∧ ∀ s ∈ ss, s.size ≤ maxLen
/-- A slice of numbers that came in: all numbers up to its capacity. -/
def IsInts (k : IntKind) (w : World) (a : Option Addr) (n c : Nat) (zs : List Int) : Prop :=
  (a = none ∧ n = 0 ∧ c = 0 ∧ zs = []) ∨ ∃ x, a = some x ∧ n ≤ c ∧ c ≤ maxLen ∧ zs.length = c ∧ (∀ i, i < zs.length → w.cell? (x.add i) = some (.int k (zs.getD i 0))) ∧ ∀ z ∈ zs, (Lit.int k z).wf = true
theorem isStrs_of {H : Type} {enc : TypeId × Value → H} {P : Program} {w : World} {t e : TypeId} {a : Option Addr} {n c : Nat} {d : DataW H} {ps : List MemPlace} (ht : P.underlying t = some (.slice e)) (he : P.underlying e = some .string) (hc : P.cellsOf e = 1)
    (h : DataW.Trod enc P w 0 (fun _ => true) true t (.slice a n c) d ps) : ∃ ss, IsStrs w a n c ss := by
  obtain ⟨fuel, hf⟩ := h
  rcases open_strings ht he hc hf with ⟨hcs, _⟩ | ⟨x, l, c', ss, hcs, _, hl, hm, hz, _, hcell, hws⟩
  · simp [Value.cells] at hcs
    obtain ⟨rfl, rfl, rfl⟩ := hcs
    exact ⟨[], .inl ⟨rfl, rfl, rfl, rfl⟩⟩
  · simp [Value.cells] at hcs
    obtain ⟨rfl, rfl, rfl⟩ := hcs
    exact ⟨ss, .inr ⟨_, rfl, hl, hm, by simpa using hz, hcell, hws⟩⟩
theorem isInts_of {H : Type} {enc : TypeId × Value → H} {P : Program} {w : World} {t e : TypeId} {k : IntKind} {a : Option Addr} {n c : Nat} {d : DataW H} {ps : List MemPlace} (ht : P.underlying t = some (.slice e)) (he : P.underlying e = some (.int k)) (hc : P.cellsOf e = 1)
    (h : DataW.Trod enc P w 0 (fun _ => true) true t (.slice a n c) d ps) : ∃ zs, IsInts k w a n c zs := by
  obtain ⟨fuel, hf⟩ := h
  rcases open_ints ht he hc hf with ⟨hcs, _⟩ | ⟨x, l, c', ss, hcs, _, hl, hm, hz, _, hcell, hws⟩
  · simp [Value.cells] at hcs
    obtain ⟨rfl, rfl, rfl⟩ := hcs
    exact ⟨[], .inl ⟨rfl, rfl, rfl, rfl⟩⟩
  · simp [Value.cells] at hcs
    obtain ⟨rfl, rfl, rfl⟩ := hcs
    exact ⟨ss, .inr ⟨_, rfl, hl, hm, by simpa using hz, hcell, hws⟩⟩
end Go.Sl

namespace Go.Tx
/-- The pieces between the bytes c; 'cur': what stands ahead. -/
def splitG (c : UInt8) : List UInt8 → List UInt8 → List (List UInt8)
  | cur, [] => [cur]
  | cur, d :: l => if d = c then cur :: splitG c [] l else splitG c (cur ++ [d]) l
def splitL (c : UInt8) (l : List UInt8) : List (List UInt8) := splitG c [] l
theorem splitG_len (c : UInt8) : ∀ (l cur : List UInt8), 1 ≤ (splitG c cur l).length ∧ (splitG c cur l).length ≤ l.length + 1
  | [], cur => by simp [splitG]
  | d :: l, cur => by
    unfold splitG
    split
    · have := splitG_len c l []
      simp; omega
    · have := splitG_len c l (cur ++ [d])
      simp; omega
theorem stake_succ (l : List UInt8) (k : Nat) (b : UInt8) (h : l[k]? = some b) : l.take (k + 1) = l.take k ++ [b] := by
  have hk := (List.getElem?_eq_some_iff.1 h).1
  rw [List.take_succ_eq_append_getElem hk]
  rw [List.getElem?_eq_getElem hk] at h
  cases h
  rfl
theorem sdrop_cons (l : List UInt8) (k : Nat) (b : UInt8) (h : l[k]? = some b) : l.drop k = b :: l.drop (k + 1) := by
  have hk := (List.getElem?_eq_some_iff.1 h).1
  rw [List.drop_eq_getElem_cons hk]
  rw [List.getElem?_eq_getElem hk] at h
  cases h
  rfl
theorem splitG_step {l : List UInt8} {k F : Nat} {b c : UInt8} (h : l[k]? = some b) (hF : F ≤ k) (hb : ¬ b = c) : splitG c ((l.take k).drop F) (l.drop k) = splitG c ((l.take (k + 1)).drop F) (l.drop (k + 1)) := by
  have hk := (List.getElem?_eq_some_iff.1 h).1
  rw [sdrop_cons l k b h, splitG, if_neg hb, stake_succ l k b h, List.drop_append_of_le_length (by rw [List.length_take]; omega)]
theorem splitG_cut {l : List UInt8} {k F : Nat} {b c : UInt8} (h : l[k]? = some b) (hb : b = c) : splitG c ((l.take k).drop F) (l.drop k) = (l.take k).drop F :: splitG c ((l.take (k + 1)).drop (k + 1)) (l.drop (k + 1)) := by
  have e2 : (l.take (k + 1)).drop (k + 1) = [] := List.drop_of_length_le (by rw [List.length_take]; omega)
  rw [sdrop_cons l k b h, splitG, if_pos hb, e2]
theorem splitG_last {l : List UInt8} {n F : Nat} {c : UInt8} (h : l.length = n) : splitG c ((l.take n).drop F) (l.drop n) = [(l.take n).drop F] := by
  have e : l.drop n = [] := List.drop_of_length_le (by omega)
  rw [e]
  rfl
/-- A hexadecimal digit; -1: none. -/
def hexV (c : UInt8) : Int :=
  if 48 ≤ (c.toNat : Int) ∧ (c.toNat : Int) ≤ 57 then (c.toNat : Int) - 48
  else if 97 ≤ (c.toNat : Int) ∧ (c.toNat : Int) ≤ 102 then (c.toNat : Int) - 87
  else if 65 ≤ (c.toNat : Int) ∧ (c.toNat : Int) ≤ 70 then (c.toNat : Int) - 55
  else -1
theorem hexV_bd (c : UInt8) : -1 ≤ hexV c ∧ hexV c ≤ 15 := by
  unfold hexV
  split
  · omega
  · split
    · omega
    · split <;> omega
end Go.Tx
namespace Go.Tx
theorem splitG_mem (c : UInt8) : ∀ (l cur x : List UInt8), x ∈ splitG c cur l → x.length ≤ cur.length + l.length
  | [], cur, x, h => by simp [splitG] at h; subst h; simp
  | d :: l, cur, x, h => by
    unfold splitG at h
    split at h
    · rcases List.mem_cons.1 h with h | h
      · subst h; simp
      · have := splitG_mem c l [] x h
        simp at this ⊢; omega
    · have := splitG_mem c l (cur ++ [d]) x h
      simp at this ⊢; omega
end Go.Tx

namespace Go.Tx
def dig (c : UInt8) : Bool := decide (48 ≤ (c.toNat : Int)) && decide ((c.toNat : Int) ≤ 57)
def valF (n : Nat) (l : List UInt8) : Nat := l.foldl (fun n c => 10 * n + (c.toNat - 48)) n
/-- The number that digits write. -/
def val (l : List UInt8) : Nat := valF 0 l
theorem val_nil : val [] = 0 := rfl
theorem val_snoc (l : List UInt8) (c : UInt8) : val (l ++ [c]) = 10 * val l + (c.toNat - 48) := by simp [val, valF]
theorem valF_lt : ∀ (l : List UInt8) (n : Nat), (∀ c ∈ l, dig c = true) → valF n l < (n + 1) * 10 ^ l.length := by
  intro l
  induction l with
  | nil => intro n _; simp [valF]
  | cons c l ih =>
    intro n h
    have h1 := ih (10 * n + (c.toNat - 48)) fun d hd => h d (by simp [hd])
    have h2 := h c (by simp)
    simp only [dig, Bool.and_eq_true, decide_eq_true_eq] at h2
    have h3 : valF n (c :: l) = valF (10 * n + (c.toNat - 48)) l := rfl
    rw [h3, List.length_cons, Nat.pow_succ]
    refine Nat.lt_of_lt_of_le h1 ?_
    rw [Nat.mul_comm (10 ^ l.length) 10, ← Nat.mul_assoc]
    exact Nat.mul_le_mul_right _ (by omega)
theorem val_lt (l : List UInt8) (h : ∀ c ∈ l, dig c = true) : val l < 10 ^ l.length := by
  have := valF_lt l 0 h
  simpa [val] using this
theorem val_lt9 (l : List UInt8) (h : ∀ c ∈ l, dig c = true) (hl : l.length ≤ 9) : val l < 1000000000 := by
  have h1 := val_lt l h
  have h2 : 10 ^ l.length ≤ 10 ^ 9 := Nat.pow_le_pow_right (by omega) hl
  omega
theorem take_snoc (s : ByteArray) (k : Nat) (h : k < s.size) : s.data.toList.take (k + 1) = s.data.toList.take k ++ [s[k]] := by
  rw [List.take_succ_eq_append_getElem (by simpa using h)]; rfl
theorem val_step (s : ByteArray) (k : Nat) (h : k < s.size) (hd : dig s[k] = true) : ((val (s.data.toList.take (k + 1)) : Nat) : Int) = (val (s.data.toList.take k) : Int) * 10 + ((s[k].toNat : Int) - 48) := by
  rw [take_snoc s k h, val_snoc]
  simp only [dig, Bool.and_eq_true, decide_eq_true_eq] at hd
  omega
theorem all_step (s : ByteArray) (k : Nat) (h : k < s.size) : (s.data.toList.take (k + 1)).all dig = ((s.data.toList.take k).all dig && dig s[k]) := by
  rw [take_snoc s k h, List.all_append]; simp
theorem all_no (s : ByteArray) (k : Nat) (h : k < s.size) (hd : dig s[k] = false) : s.data.toList.all dig = false := by
  cases hh : s.data.toList.all dig with
  | false => rfl
  | true =>
    rw [List.all_eq_true] at hh
    have := hh s[k] (Array.mem_toList_iff.2 (Array.getElem_mem (xs := s.data) h))
    rw [hd] at this; cases this
theorem take_all (s : ByteArray) (k : Nat) (h : s.size ≤ k) : s.data.toList.take k = s.data.toList := List.take_of_length_le (by simpa using h)
theorem val_bd (s : ByteArray) (k : Nat) (h : (s.data.toList.take k).all dig = true) (h9 : s.size ≤ 9) : val (s.data.toList.take k) < 1000000000 := by
  refine val_lt9 _ (by rw [List.all_eq_true] at h; exact h) ?_
  rw [List.length_take]
  have : s.data.toList.length = s.size := rfl
  omega
theorem dig_of (c : UInt8) (h1 : 48 ≤ (c.toNat : Int)) (h2 : (c.toNat : Int) ≤ 57) : dig c = true := by simp [dig, h1, h2]
theorem dig_lo (c : UInt8) (h1 : (c.toNat : Int) < 48) : dig c = false := by
  have : ¬ (48 ≤ (c.toNat : Int)) := by omega
  simp [dig, this]
theorem dig_hi (c : UInt8) (h1 : 57 < (c.toNat : Int)) : dig c = false := by
  have : ¬ ((c.toNat : Int) ≤ 57) := by omega
  simp [dig, this]
/-- What Num answers. -/
def numBad (l : List UInt8) : Bool := l.isEmpty || decide (9 < l.length) || (l.head? == some 48 && decide (1 < l.length)) || !l.all dig
def numRes (l : List UInt8) (most : Int) : Int × Bool := if numBad l = true then (0, false) else if most < (val l : Int) then (0, false) else (val l, true)
theorem numRes_nil (l : List UInt8) (m : Int) (h : l = []) : numRes l m = (0, false) := by subst h; rfl
theorem numRes_len (l : List UInt8) (m : Int) (h : 9 < l.length) : numRes l m = (0, false) := by simp [numRes, numBad, h]
theorem numRes_zero (l : List UInt8) (m : Int) (h : 1 < l.length) (h2 : l.head? = some 48) : numRes l m = (0, false) := by simp [numRes, numBad, h, h2]
theorem numRes_no (l : List UInt8) (m : Int) (h : l.all dig = false) : numRes l m = (0, false) := by simp [numRes, numBad, h]
theorem numRes_ok (l : List UInt8) (m : Int) (h0 : 1 ≤ l.length) (h1 : l.length ≤ 9) (h2 : ¬ (l.head? = some 48 ∧ 1 < l.length)) (h3 : l.all dig = true) : numRes l m = if m < (val l : Int) then (0, false) else ((val l : Int), true) := by
  have : numBad l = false := by
    cases l with
    | nil => simp at h0
    | cons c l => simp [numBad, h3]; simp at h1 h2; exact ⟨h1, h2⟩
  simp [numRes, this]
/-! ### Folding -/
def low (c : UInt8) : UInt8 := if 65 ≤ (c.toNat : Int) ∧ (c.toNat : Int) ≤ 90 then UInt8.ofNat (c.toNat + 32) else c
def lowTake (k : Nat) (l : List UInt8) : List UInt8 := (l.take k).map low ++ l.drop k
theorem lowTake_zero (l : List UInt8) : lowTake 0 l = l := by simp [lowTake]
theorem lowTake_len (k : Nat) (l : List UInt8) : (lowTake k l).length = l.length := by simp [lowTake]; omega
theorem lowTake_all (k : Nat) (l : List UInt8) (h : l.length ≤ k) : lowTake k l = l.map low := by
  simp [lowTake, List.take_of_length_le h, List.drop_of_length_le h]
theorem lowTake_at (k : Nat) (l : List UInt8) (h : k < l.length) : (lowTake k l)[k]? = some l[k] := by
  unfold lowTake
  rw [List.getElem?_append_right (by simp; omega)]
  have : k - (List.map low (List.take k l)).length = 0 := by simp; omega
  rw [this, List.getElem?_drop]
  simp
theorem lowTake_step (k : Nat) (l : List UInt8) (h : k < l.length) : lowTake (k + 1) l = (lowTake k l).set k (low l[k]) := by
  apply List.ext_getElem?
  intro j
  rw [List.getElem?_set]
  have hlen : (lowTake k l).length = l.length := lowTake_len k l
  unfold lowTake
  rw [List.getElem?_append, List.getElem?_append]
  simp only [List.length_map, List.length_take, List.getElem?_map, List.getElem?_take, List.getElem?_drop, List.length_append, List.length_drop]
  by_cases hj : k = j
  · subst hj
    rw [if_pos (by omega), if_pos (by omega), if_pos rfl, if_pos (by omega)]
    simp [h]
  · rw [if_neg hj]
    by_cases hlt : j < k
    · rw [if_pos (by omega), if_pos (by omega), if_pos (by omega), if_pos (by omega)]
    · rw [if_neg (by omega), if_neg (by omega)]
      congr 1
      omega
theorem lowTake_skip (k : Nat) (l : List UInt8) (h : k < l.length) (hl : low l[k] = l[k]) : lowTake (k + 1) l = lowTake k l := by
  rw [lowTake_step k l h, hl]
  apply List.ext_getElem?
  intro j
  rw [List.getElem?_set]
  split
  · rename_i e
    subst e
    rw [lowTake_at k l h, lowTake_len, if_pos h]
  · rfl
theorem low_up (c : UInt8) (h1 : 65 ≤ (c.toNat : Int)) (h2 : (c.toNat : Int) ≤ 90) : ((low c).toNat : Int) = (c.toNat : Int) + 32 := by
  unfold low
  rw [if_pos ⟨h1, h2⟩]
  have : (c.toNat + 32) % 256 = c.toNat + 32 := by omega
  simp [this]
theorem low_lo (c : UInt8) (h1 : (c.toNat : Int) < 65) : low c = c := by unfold low; rw [if_neg (by omega)]
theorem low_hi (c : UInt8) (h1 : 90 < (c.toNat : Int)) : low c = c := by unfold low; rw [if_neg (by omega)]
end Go.Tx

namespace Go.Tx
open Go.Lib
/-! ### The library's pieces are the document's -/
def pre (x : List UInt8) : List (List UInt8) → List (List UInt8)
  | [] => []
  | h :: t => (x ++ h) :: t
theorem splitG_pre (c : UInt8) (x : List UInt8) : ∀ (l y : List UInt8), splitG c (x ++ y) l = pre x (splitG c y l)
  | [], y => by simp [splitG, pre]
  | d :: l, y => by
    unfold splitG
    split
    · rfl
    · rw [List.append_assoc, splitG_pre c x l (y ++ [d])]
theorem splitK_pre {b c : UInt8} (h : b ≠ c) (k : Nat) (l : List UInt8) : splitK [c] 0 k (b :: l) = pre [b] (splitK [c] 0 k l) := by
  cases k with
  | zero => rfl
  | succ k =>
    have hp : ([c] : List UInt8).isPrefixOf (b :: l) = false := by simp [List.isPrefixOf, Ne.symm h]
    have hix : index (b :: l) [c] = if index l [c] == -1 then -1 else index l [c] + 1 := by rw [index, hp]; simp
    unfold splitK
    by_cases hm : index l [c] = -1
    · rw [hix, hm]; simp [pre]
    · have hge := index_ge l [c]
      obtain ⟨j, hj⟩ : ∃ j : Nat, index l [c] = j := ⟨(index l [c]).toNat, by omega⟩
      have h1 : ((j : Int) == -1) = false := by rw [beq_eq_false_iff_ne]; omega
      have h2 : ((j : Int) + 1 == -1) = false := by rw [beq_eq_false_iff_ne]; omega
      have h3 : ((j : Int) + 1).toNat = j + 1 := by omega
      rw [hix, hj]
      simp [h1, h2, h3, pre]
theorem splitK_one (c : UInt8) : ∀ l : List UInt8, splitK [c] 0 (count l [c]) l = splitL c l
  | [] => by
    have : count ([] : List UInt8) [c] = 0 := by rw [count_one]; rfl
    rw [this]; rfl
  | b :: l => by
    by_cases h : b = c
    · subst h
      have hix : index (b :: l) [b] = 0 := by rw [index]; simp [List.isPrefixOf]
      rw [count_cons_eq, Nat.add_comm, splitK, hix, splitL, splitG, if_pos rfl]
      simp only [List.take_zero, List.length_singleton]
      have := splitK_one b l
      simpa [splitL] using this
    · rw [count_cons_ne b c l h, splitK_pre h, splitK_one c l, splitL, splitL, splitG, if_neg h]
      exact (splitG_pre c [b] l []).symm
theorem split_pieces (s : ByteArray) (c : UInt8) : (splitB ⟨#[c]⟩ 0 (countB s ⟨#[c]⟩) s).map Value.string = (splitL c s.data.toList).map fun l => Value.string ⟨l.toArray⟩ := by
  have h := splitB_data ⟨#[c]⟩ 0 (countB s ⟨#[c]⟩) s
  have h2 : countB s ⟨#[c]⟩ = count s.data.toList [c] := rfl
  rw [h2] at h ⊢
  have h3 := splitK_one c s.data.toList
  have h4 : (ByteArray.data ⟨#[c]⟩).toList = [c] := rfl
  rw [h4, h3] at h
  rw [← h, List.map_map]
  rfl
theorem split_count (s : ByteArray) (c : UInt8) : countB s ⟨#[c]⟩ + 1 = (splitL c s.data.toList).length := by
  have h := splitB_all ⟨#[c]⟩ (Nat.le_refl 1) 0 _ s rfl
  have h2 := congrArg List.length (split_pieces s c)
  simp only [List.length_map] at h2
  omega
/-! ### A rune that is foreign is a byte that is -/
theorem idxFrom_any (p : Nat → Bool) (hp : ∀ x, 128 ≤ x → p x = true) (s : ByteArray) : ∀ (f pos : Nat), s.size - pos ≤ f →
    decide (0 ≤ idxFuncFrom p true s f pos) = (s.data.toList.drop pos).any fun b => p b.toNat
  | 0, pos, h => by
    have e : s.data.toList.drop pos = [] := List.drop_of_length_le (by rw [← size_eq]; omega)
    simp [idxFuncFrom, e]
  | f + 1, pos, h => by
    unfold idxFuncFrom
    by_cases hlt : pos < s.size
    · rw [if_pos hlt]
      have hd : s.data.toList.drop pos = s[pos] :: s.data.toList.drop (pos + 1) := List.drop_eq_getElem_cons (by rw [← size_eq]; exact hlt)
      rw [hd, List.any_cons]
      by_cases ha : s[pos].toNat < 128
      · rw [decode_ascii s pos hlt ha]
        simp only
        by_cases hb : p s[pos].toNat = true
        · rw [if_pos hb, hb]; simp
        · have hb' : p s[pos].toNat = false := by simpa using hb
          rw [if_neg hb, hb', Bool.false_or]
          exact idxFrom_any p hp s f (pos + 1) (by omega)
      · obtain ⟨h1, h2⟩ := decode_high s pos hlt (by omega)
        rw [if_pos (hp _ h1), hp _ (by omega)]
        simp
    · have e : s.data.toList.drop pos = [] := List.drop_of_length_le (by rw [← size_eq]; omega)
      rw [if_neg hlt, e]; simp
theorem idx_anyR (p : Nat → Bool) (hp : ∀ x, 128 ≤ x → p x = true) (s : ByteArray) : decide (0 ≤ idxFunc p true s) = s.data.toList.any fun b => p b.toNat := by
  exact idxFrom_any p hp s s.size 0 (by omega)
/-! ### Names -/
/-- What labels are made of, by number. -/
def sign (x : Nat) : Bool := (decide (97 ≤ x) && decide (x ≤ 122)) || (decide (65 ≤ x) && decide (x ≤ 90)) || (decide (48 ≤ x) && decide (x ≤ 57)) || decide (x = 45) || decide (x = 95)
theorem sign_high (x : Nat) (h : 128 ≤ x) : sign x = false := by
  simp only [sign, Bool.or_eq_false_iff, Bool.and_eq_false_iff, decide_eq_false_iff_not]
  omega
def labelB (l : List UInt8) : Bool := decide (l ≠ []) && decide (l.length ≤ 63) && l.all fun b => sign b.toNat
def nameB (l : List UInt8) : Bool := decide (l.length ≤ 253) && (splitL 46 l).all labelB
/-- Without a point at its end. -/
def bare (l : List UInt8) : List UInt8 := trimSuffix l [46]
def isRoot (l : List UInt8) : Bool := hasSuffix l [46]
def cleanV (l : List UInt8) : Value := if nameB (bare l) = true then .tuple #[.string ⟨((bare l).map low).toArray⟩, .bool (isRoot l), .bool true] else .tuple #[.string ⟨#[]⟩, .bool false, .bool false]
theorem bare_len (l : List UInt8) : (bare l).length ≤ l.length := by
  unfold bare trimSuffix
  split
  · simp
  · exact Nat.le_refl _
theorem noLabel (l : List UInt8) : (decide (l = []) || (decide (63 < l.length) || l.any fun b => !sign b.toNat)) = !labelB l := by
  have h1 : (decide (63 < l.length)) = !decide (l.length ≤ 63) := by by_cases h : l.length ≤ 63 <;> simp [h] <;> omega
  have h2 : (l.any fun b => !sign b.toNat) = !(l.all fun b => sign b.toNat) := by simp [List.any_eq_not_all_not]
  rw [h1, h2]
  unfold labelB
  by_cases h : l = [] <;> simp [h]
end Go.Tx

namespace Go.Rb
open Go.RowKit
/-- Block b is a row of bytes of some capacity, of which the first are l. -/
def RowB (e : TypeId) (w : World) (b cap : Nat) (l : List UInt8) : Prop :=
  ∃ arr lo hi, w.heap[b]? = some (.cells arr e (lo, hi)) ∧ (cap ≤ lo ∨ hi = 0) ∧ arr.size = cap ∧ l.length ≤ cap ∧ ∀ (j : Nat) (c : UInt8), l[j]? = some c → arr[j]? = some (Value.int .u8 (c.toNat : Int))
theorem RowB.cell {e : TypeId} {w : World} {b cap : Nat} {l : List UInt8} (h : RowB e w b cap l) {j : Nat} {c : UInt8} (hj : l[j]? = some c) : w.cell? ⟨b, j, none⟩ = some (.int .u8 (c.toNat : Int)) := by
  obtain ⟨arr, lo, hi, h1, h2, h3, h4, h5⟩ := h
  unfold World.cell?
  rw [h1]
  simp only
  exact h5 j c hj
theorem RowB.frozen {e : TypeId} {w : World} {b cap : Nat} {l : List UInt8} (h : RowB e w b cap l) {j : Nat} (hj : j < cap) : w.frozen? ⟨b, j, none⟩ = false := by
  obtain ⟨arr, lo, hi, h1, h2, h3, h4, h5⟩ := h
  unfold World.frozen?
  rw [h1]
  simp only [Bool.and_eq_false_iff, decide_eq_false_iff_not]
  omega
theorem RowB.drew {e : TypeId} {w : World} {b cap : Nat} {l : List UInt8} (h : RowB e w b cap l) : RowB e w.drew b cap l := by
  obtain ⟨arr, lo, hi, h1, h2⟩ := h
  exact ⟨arr, lo, hi, h1, h2⟩
theorem RowB.set {e : TypeId} {w : World} {b cap : Nat} {l : List UInt8} (h : RowB e w b cap l) {j : Nat} (hj : j < l.length) (c : UInt8) : RowB e (w.setCell ⟨b, j, none⟩ (.int .u8 (c.toNat : Int))) b cap (l.set j c) := by
  obtain ⟨arr, lo, hi, h1, h2, h3, h4, h5⟩ := h
  have hb : b < w.heap.size := (Array.getElem?_eq_some_iff.1 h1).1
  refine ⟨arr.setIfInBounds j (.int .u8 (c.toNat : Int)), lo, hi, ?_, h2, by simpa using h3, by simpa using h4, fun i d hi => ?_⟩
  · show (w.heap.modify b _)[b]? = _
    rw [Array.getElem?_modify]
    simp [h1]
  · rw [List.getElem?_set] at hi
    rw [Array.getElem?_setIfInBounds]
    split at hi
    · rename_i e1
      subst e1
      rw [if_pos rfl, if_pos (by omega)]
      cases hi
      rfl
    · rename_i e1
      rw [if_neg e1]
      exact h5 i d hi
theorem RowB.alloc {e : TypeId} {w : World} {b cap : Nat} {l : List UInt8} (h : RowB e w b cap l) (o : Obj) : RowB e (w.alloc o) b cap l := by
  obtain ⟨arr, lo, hi, h1, h2⟩ := h
  have hb : b < w.heap.size := (Array.getElem?_eq_some_iff.1 h1).1
  exact ⟨arr, lo, hi, by show (w.heap.push o)[b]? = _; rw [Array.getElem?_push, if_neg (by omega)]; exact h1, h2⟩
theorem RowB.below {e : TypeId} {w w' : World} {b cap B : Nat} {l : List UInt8} (h : RowB e w b cap l) (hb : Below B w w') (hlt : b < B) : RowB e w' b cap l := by
  obtain ⟨arr, lo, hi, h1, h2⟩ := h
  exact ⟨arr, lo, hi, by rw [hb.block b hlt]; exact h1, h2⟩
theorem RowB.str {e : TypeId} {w : World} {b cap : Nat} {l : List UInt8} (h : RowB e w b cap l) {P : Program} {src dst : TypeId} (c : Nat) (hs : P.underlying src = some (.slice e)) (he : P.underlying e = some (.int .u8)) (hd : P.underlying dst = some .string) :
    (convert src dst (.slice (some ⟨b, 0, none⟩) l.length c)).run P w = .ok (.string ⟨l.toArray⟩) w :=
  run_convert_bytes_back w src dst e _ c l hs he hd fun j hj => by
    have ha : (⟨b, 0, none⟩ : Addr).add j = ⟨b, j, none⟩ := by unfold Addr.add; split <;> simp_all
    rw [ha]
    exact h.cell (List.getElem?_eq_getElem hj)
theorem RowB.made {P : Program} {src dst e : TypeId} (s : ByteArray) (w : World) (hs : P.underlying src = some .string) (hd : P.underlying dst = some (.slice e)) (he : P.underlying e = some (.int .u8)) :
    ∃ (cap : Nat) (o : Obj), (convert src dst (.string s)).run P w = .ok (.slice (some ⟨w.heap.size, 0, none⟩) s.size cap) (w.drew.alloc o) ∧ s.size ≤ cap ∧ RowB e (w.alloc o) w.heap.size cap s.data.toList := by
  have hge := grownCap_ge w s.size 0 e
  have hsz : s.data.size = s.size := rfl
  have hC : (bytesRow s (grownCap w s.size 0 e)).size = grownCap w s.size 0 e := by simp [bytesRow, hsz]; omega
  refine ⟨grownCap w s.size 0 e, _, run_bytes_of_string w src dst e s hs hd he, hge, _, _, _, heap_alloc_new w _, .inl (by rw [hC]; exact Nat.le_refl _), hC, by simpa [hsz] using hge, fun j c hj => ?_⟩
  have hj' : j < s.data.size := by
    have := (List.getElem?_eq_some_iff.1 hj).1
    simpa using this
  rw [bytesRow_at s _ j hj']
  rw [Array.getElem?_toList, Array.getElem?_eq_getElem hj'] at hj
  cases hj
  rfl
end Go.Rb

namespace Go.Proofs.YtaoapkbfcofamaaDoor
open Go.RowKit Go.Lib Go.Tx
def alnum (x : Nat) : Bool := (decide (97 ≤ (x : Int)) && decide ((x : Int) ≤ 122)) || (decide (65 ≤ (x : Int)) && decide ((x : Int) ≤ 90)) || (decide (48 ≤ (x : Int)) && decide ((x : Int) ≤ 57))
def lettersB (more l : List UInt8) : Bool := l.all (fun b => alnum b.toNat || more.any fun m => b == m) && decide (l ≠ [])
theorem all_till {p : UInt8 → Bool} (l : List UInt8) (k : Nat) (hk : l.length ≤ k) (h : ∀ j b, j < k → l[j]? = some b → p b = true) : l.all p = true := by
  rw [List.all_eq_true]
  intro b hb
  obtain ⟨j, hj, rfl⟩ := List.getElem_of_mem hb
  exact h j _ (by omega) (List.getElem?_eq_getElem hj)
theorem all_not {p : UInt8 → Bool} (l : List UInt8) (k : Nat) (b : UInt8) (hk : l[k]? = some b) (h : p b = false) : l.all p = false := by
  rw [List.all_eq_false]
  exact ⟨b, List.mem_of_getElem? hk, by simp [h]⟩
theorem u8_beq (a b : UInt8) : ((a.toNat : Int) == (b.toNat : Int)) = (a == b) := by
  by_cases h : a = b
  · subst h; simp
  · have : ¬ (a.toNat : Int) = (b.toNat : Int) := fun e => h (UInt8.toNat_inj.1 (by omega))
    rw [beq_eq_false_iff_ne.2 this, beq_eq_false_iff_ne.2 h]
theorem ne_nil (s : ByteArray) : (!s.toList.isEmpty) = (true && decide (s.data.toList ≠ [])) := by
  rw [Go.Lib.toList_data]
  cases s.data.toList <;> simp
theorem ret_b {a b : Bool} (h : a = b) : Ending.returned (.bool a) = .returned (.bool b) := by rw [h]
set_option maxHeartbeats 2000000 in
set_option maxRecDepth 100000 in
theorem letters_any (s more : ByteArray) (w : World) (hs : s.size ≤ 1000000) (hm : more.size ≤ 100) : Calls Tryd.prog 33 #[.string s, .string more] w fun e w' => e = .returned (.bool (lettersB more.data.toList s.data.toList)) ∧ w' = w := by
  go_enter Tryd.func33, Tryd.ntmps33
  go_wp2
  go_loop [5] (fun i => ∃ k : Nat, k ≤ s.size ∧ i = .int .i64 k ∧ Hid (∀ j b, j < k → s.data.toList[j]? = some b → (alnum b.toNat || more.data.toList.any fun m => b == m) = true)) (fun i => s.size - (intOf i).toNat)
  case atStart => exact ⟨0, Nat.zero_le _, rfl, Lib.hid (by omega)⟩
  case round =>
    obtain ⟨k, hk, rfl, hall⟩ := hrel
    by_cases hlt : k < s.size
    · have HK : Hid (s.data.toList[k]? = some s[k]) := Lib.hid (List.getElem?_eq_getElem hlt)
      go_wp2
      all_goals (
        go_loop [7, 8] (fun ok i => ∃ j : Nat, j ≤ more.size ∧ i = .int .i64 j ∧ ok = .bool (alnum s[k].toNat || (more.data.toList.take j).any fun m => s[k] == m)) (fun _ i => more.size - (intOf i).toNat)
        case atStart => exact ⟨0, Nat.zero_le _, rfl, congrArg Value.bool (by unfold alnum; simp [*] <;> first | omega | (rw [Bool.eq_iff_iff]; simp; omega))⟩
        case round =>
          obtain ⟨j, hj, rfl, rfl⟩ := hrel
          by_cases hjl : j < more.size
          · have hstep : ∀ m, more.data.toList[j]? = some m → (more.data.toList.take (j + 1)).any (fun m => s[k] == m) = ((more.data.toList.take j).any (fun m => s[k] == m) || (s[k] == m)) := fun m hm => by
              rw [List.take_add_one, hm, List.any_append]; simp
            have HS := Lib.hid (hstep more[j] (List.getElem?_eq_getElem hjl))
            clear hstep
            cases hX : (alnum s[k].toNat || (more.data.toList.take j).any fun m => s[k] == m) with
            | true =>
              have HX := Lib.hid hX
              clear hX
              go_wp2
              go_round
              case rel => exact ⟨j + 1, hjl, by go_num, congrArg Value.bool (by rw [HS.out, ← Bool.or_assoc, HX.out]; rfl)⟩
              case measure => simp [intOf]; omega
            | false =>
              have HX := Lib.hid hX
              clear hX
              go_wp2
              go_round
              case rel => exact ⟨j + 1, hjl, by go_num, congrArg Value.bool (by rw [HS.out, ← Bool.or_assoc, HX.out, Bool.false_or]; exact u8_beq _ _)⟩
              case measure => simp [intOf]; omega
          · obtain rfl : j = more.size := by omega
            have ht : more.data.toList.take more.size = more.data.toList := List.take_of_length_le (Nat.le_refl _)
            have HT := Lib.hid ht
            clear ht
            cases hX : (alnum s[k].toNat || (more.data.toList.take more.size).any fun m => s[k] == m) with
            | true =>
              have HX := Lib.hid hX
              clear hX
              go_wp2
              go_round
              case rel => exact ⟨k + 1, hlt, by go_num, Lib.hid (by
                intro j d hj hd
                by_cases e : j = k
                · subst e
                  have := HK.out
                  rw [this] at hd
                  cases hd
                  have := HX.out
                  rw [HT.out] at this
                  exact this
                · exact hall.out j d (by omega) hd)⟩
              case measure => simp [intOf]; omega
            | false =>
              have HX := Lib.hid hX
              clear hX
              go_wp2
              go_ret
              have := HX.out
              rw [HT.out] at this
              exact ⟨by unfold lettersB; rw [all_not _ k _ HK.out this]; rfl, rfl⟩)
    · obtain rfl : k = s.size := by omega
      have HA := Lib.hid (all_till (p := fun b => alnum b.toNat || more.data.toList.any fun m => b == m) s.data.toList s.size (Nat.le_refl _) hall.out)
      go_wp2
      go_ret
      exact ⟨by unfold lettersB; rw [HA.out]; exact ret_b (ne_nil s), rfl⟩
end Go.Proofs.YtaoapkbfcofamaaDoor

namespace Go.Tx
open Go.Lib
def letterN (x : Nat) : Bool := (decide (97 ≤ x) && decide (x ≤ 122)) || (decide (65 ≤ x) && decide (x ≤ 90))
/-- What services' names are made of, by number. -/
def svcSign (x : Nat) : Bool := letterN x || (decide (48 ≤ x) && decide (x ≤ 57)) || decide (x = 45) || decide (x = 95) || decide (x = 46)
def svcB (l : List UInt8) : Bool := decide (l ≠ []) && decide (l.length ≤ 32) && l.all fun b => svcSign b.toNat
def protoB (l : List UInt8) : Bool := decide (l ≠ []) && decide (l.length ≤ 8) && l.all fun b => letterN b.toNat
theorem letter_high (x : Nat) (h : 128 ≤ x) : letterN x = false := by
  simp only [letterN, Bool.or_eq_false_iff, Bool.and_eq_false_iff, decide_eq_false_iff_not]
  omega
theorem svcSign_high (x : Nat) (h : 128 ≤ x) : svcSign x = false := by
  simp only [svcSign, letterN, Bool.or_eq_false_iff, Bool.and_eq_false_iff, decide_eq_false_iff_not]
  omega
end Go.Tx
namespace Go.Proofs.YtaoapkbfcofamaaDoor
open Go.RowKit Go.Lib Go.Tx
theorem byte_all (p : UInt8 → Bool) (h : ∀ n : Fin 256, p (UInt8.ofNat n.1) = true) (b : UInt8) : p b = true := by
  have := h ⟨b.toNat, b.toNat_lt⟩
  simpa using this
theorem sign_letters (b : UInt8) : svcSign b.toNat = (alnum b.toNat || [45, 95, 46].any fun m => b == m) := by
  have := byte_all (fun b => svcSign b.toNat == (alnum b.toNat || [45, 95, 46].any fun m => b == m)) (by decide +kernel) b
  exact beq_iff_eq.1 this
theorem letters_svc (l : List UInt8) : svcB l = (decide (l.length ≤ 32) && lettersB [45, 95, 46] l) := by
  unfold svcB lettersB
  have : (l.all fun b => svcSign b.toNat) = l.all fun b => alnum b.toNat || [45, 95, 46].any fun m => b == m := by
    congr 1; funext b; exact sign_letters b
  rw [this]
  cases decide (l.length ≤ 32) <;> cases (l.all fun b => alnum b.toNat || [45, 95, 46].any fun m => b == m) <;> cases decide (l ≠ []) <;> rfl
theorem rsvc_any (s : ByteArray) (w : World) (hs : s.size ≤ 1000000) : Calls Tryd.prog 20 #[.string s] w fun e w' => e = .returned (.bool (svcB s.data.toList)) ∧ w' = w := by
  have hl : s.data.toList.length = s.size := rfl
  have HL := Lib.hid (letters_any s ⟨#[45, 95, 46]⟩ w hs (by decide))
  have e1 : (ByteArray.data ⟨#[45, 95, 46]⟩).toList = [45, 95, 46] := rfl
  rw [e1] at HL
  by_cases h : s.size ≤ 32
  · have HS : Hid (svcB s.data.toList = lettersB [45, 95, 46] s.data.toList) := Lib.hid (by rw [letters_svc, decide_eq_true (by omega)]; rfl)
    rw [HS.out]
    have h' : (s.size : Int) ≤ 32 := by omega
    have h'' : decide ((s.size : Int) ≤ 32) = true := decide_eq_true h'
    clear h hl HS
    generalize lettersB [45, 95, 46] s.data.toList = X at *
    go_enter Tryd.func20, Tryd.ntmps20
    go_wp2_with (go_at_call 33; refine HL.out.mono ?_; rintro e w2 ⟨rfl, rfl⟩)
    all_goals (go_ret; exact ⟨by simp [h''], rfl⟩)
  · have HS : Hid (svcB s.data.toList = false) := Lib.hid (by rw [letters_svc, decide_eq_false (by omega)]; rfl)
    rw [HS.out]
    have h' : (32 : Int) < (s.size : Int) := by omega
    clear h hl HS HL
    go_enter Tryd.func20, Tryd.ntmps20
    go_wp2
    all_goals (go_ret; exact ⟨rfl, rfl⟩)
theorem proto_till (l : List UInt8) (k : Nat) (hk : l.length ≤ k) (h : ∀ j b, j < k → l[j]? = some b → letterN b.toNat = true) (h1 : 1 ≤ l.length) (h8 : l.length ≤ 8) : protoB l = true := by
  have hne : l ≠ [] := fun e => by rw [e] at h1; simp at h1
  unfold protoB
  rw [decide_eq_true hne, decide_eq_true h8]
  simp only [Bool.true_and]
  exact all_till l k hk h
set_option maxHeartbeats 1000000 in
set_option maxRecDepth 100000 in
theorem rproto_any (s : ByteArray) (w : World) (hs : s.size ≤ 1000000) : Calls Tryd.prog 21 #[.string s] w fun e w' => e = .returned (.bool (protoB s.data.toList)) ∧ w = w' := by
  have hl : s.data.toList.length = s.size := rfl
  by_cases h1 : s.size < 1
  · have HS : Hid (protoB s.data.toList = false) := Lib.hid (by
      have : s.data.toList = [] := List.eq_nil_of_length_eq_zero (by omega)
      rw [this]; rfl)
    rw [HS.out]
    have h1' : (s.size : Int) < 1 := by omega
    clear hl HS
    go_enter Tryd.func21, Tryd.ntmps21
    go_wp2
    all_goals (go_ret; exact ⟨rfl, rfl⟩)
  · by_cases h8 : 8 < s.size
    · have HS : Hid (protoB s.data.toList = false) := Lib.hid (by unfold protoB; rw [hl, decide_eq_false (by omega : ¬ s.size ≤ 8)]; simp)
      rw [HS.out]
      have h1' : ¬ (s.size : Int) < 1 := by omega
      have h8' : (8 : Int) < (s.size : Int) := by omega
      clear hl HS
      go_enter Tryd.func21, Tryd.ntmps21
      go_wp2
      all_goals (go_ret; exact ⟨rfl, rfl⟩)
    · have h1' : ¬ (s.size : Int) < 1 := by omega
      have h8' : ¬ (8 : Int) < (s.size : Int) := by omega
      have HL : Hid (s.data.toList.length = s.size) := Lib.hid hl
      clear hl
      go_enter Tryd.func21, Tryd.ntmps21
      go_wp2
      go_loop [3] (fun i => ∃ k : Nat, k ≤ s.size ∧ i = .int .i64 k ∧ Hid (∀ j b, j < k → s.data.toList[j]? = some b → letterN b.toNat = true)) (fun i => s.size - (intOf i).toNat)
      case atStart => exact ⟨0, Nat.zero_le _, rfl, Lib.hid (by omega)⟩
      case round =>
        obtain ⟨k, hk, rfl, hall⟩ := hrel
        by_cases hlt : k < s.size
        · have HK : Hid (s.data.toList[k]? = some s[k]) := Lib.hid (List.getElem?_eq_getElem hlt)
          have hs' : letterN s[k].toNat = decide ((97 ≤ s[k].toNat ∧ s[k].toNat ≤ 122) ∨ (65 ≤ s[k].toNat ∧ s[k].toNat ≤ 90)) := by simp only [letterN, Bool.decide_or, Bool.decide_and]
          cases hb : letterN s[k].toNat with
          | true =>
            have HB := Lib.hid hb
            rw [hs', decide_eq_true_eq] at hb
            have hc : (97 ≤ (s[k].toNat : Int) ∧ (s[k].toNat : Int) ≤ 122) ∨ (65 ≤ (s[k].toNat : Int) ∧ (s[k].toNat : Int) ≤ 90) := by omega
            clear hs' hb
            rcases hc with ⟨q1, q2⟩ | ⟨q1, q2⟩
            · go_wp2
              all_goals
                go_round
                case rel => exact ⟨k + 1, hlt, by go_num, Lib.hid (by
                  intro j d hj hd
                  by_cases e : j = k
                  · subst e
                    rw [HK.out] at hd
                    cases hd
                    exact HB.out
                  · exact hall.out j d (by omega) hd)⟩
                case measure => simp [intOf]; omega
            · have q3 : ¬ 97 ≤ (s[k].toNat : Int) := by omega
              go_wp2
              all_goals
                go_round
                case rel => exact ⟨k + 1, hlt, by go_num, Lib.hid (by
                  intro j d hj hd
                  by_cases e : j = k
                  · subst e
                    rw [HK.out] at hd
                    cases hd
                    exact HB.out
                  · exact hall.out j d (by omega) hd)⟩
                case measure => simp [intOf]; omega
          | false =>
            have HS : Hid (protoB s.data.toList = false) := Lib.hid (by unfold protoB; rw [all_not s.data.toList k s[k] HK.out hb]; simp)
            rw [hs', decide_eq_false_iff_not] at hb
            have hc : (s[k].toNat : Int) < 65 ∨ (90 < (s[k].toNat : Int) ∧ (s[k].toNat : Int) < 97) ∨ 122 < (s[k].toNat : Int) := by omega
            clear hs' hb hall
            rcases hc with q1 | ⟨q1, q2⟩ | q1
            · have q2 : ¬ 97 ≤ (s[k].toNat : Int) := by omega
              go_wp2
              all_goals (go_ret; exact ⟨by rw [HS.out]; rfl, rfl⟩)
            · have q3 : ¬ 97 ≤ (s[k].toNat : Int) := by omega
              have q4 : 65 ≤ (s[k].toNat : Int) := by omega
              have d1 : decide ((s[k].toNat : Int) ≤ 90) = false := decide_eq_false (by omega)
              go_wp2
              all_goals (go_ret; exact ⟨by rw [HS.out]; rfl, rfl⟩)
            · have q3 : 97 ≤ (s[k].toNat : Int) := by omega
              have q4 : 65 ≤ (s[k].toNat : Int) := by omega
              have q5 : 90 < (s[k].toNat : Int) := by omega
              have d1 : decide ((s[k].toNat : Int) ≤ 90) = false := decide_eq_false (by omega)
              have d2 : decide ((s[k].toNat : Int) ≤ 122) = false := decide_eq_false (by omega)
              go_wp2
              all_goals (go_ret; exact ⟨by rw [HS.out]; rfl, rfl⟩)
        · obtain rfl : k = s.size := by omega
          have HS : Hid (protoB s.data.toList = true) := Lib.hid (proto_till _ s.size (Nat.le_of_eq HL.out) hall.out (by rw [HL.out]; omega) (by rw [HL.out]; omega))
          clear hall
          go_wp2
          go_ret
          exact ⟨by rw [HS.out]; rfl, rfl⟩
end Go.Proofs.YtaoapkbfcofamaaDoor

namespace Go.Proofs.YtaoapkbfcofamaaDoor
open Go.RowKit Go.Lib Go.Tx
theorem noLetter_any (x : Nat) (hx : x ≤ 1114111) (w : World) : Calls Tryd.prog 58 #[.int .i32 (x : Int)] w fun e w' => e = .returned (.bool (!letterN x)) ∧ w' = w := by
  have key : ∀ b, letterN x = b → Calls Tryd.prog 58 #[.int .i32 (x : Int)] w (fun e w' => e = .returned (.bool (!b)) ∧ w' = w) → Calls Tryd.prog 58 #[.int .i32 (x : Int)] w fun e w' => e = .returned (.bool (!letterN x)) ∧ w' = w := fun b h k => by rw [h]; exact k
  have hs : letterN x = decide ((97 ≤ x ∧ x ≤ 122) ∨ (65 ≤ x ∧ x ≤ 90)) := by simp only [letterN, Bool.decide_or, Bool.decide_and]
  have hc : x < 65 ∨ (65 ≤ x ∧ x ≤ 90) ∨ (91 ≤ x ∧ x ≤ 96) ∨ (97 ≤ x ∧ x ≤ 122) ∨ 122 < x := by omega
  rcases hc with h | ⟨h, h'⟩ | ⟨h, h'⟩ | ⟨h, h'⟩ | h
  · refine key false (by rw [hs]; exact decide_eq_false (by omega)) ?_
    clear hs key hx
    have a1 : (x : Int) < 65 := by omega
    go_enter Tryd.func58, Tryd.ntmps58
    go_wp2
    all_goals (go_ret; first | exact ⟨rfl, rfl⟩ | exact ⟨by simp <;> omega, rfl⟩)
  · refine key true (by rw [hs]; exact decide_eq_true (by omega)) ?_
    clear hs key hx
    have a1 : (65:Int) ≤ (x : Int) := by omega
    have a2 : (x : Int) ≤ 90 := by omega
    go_enter Tryd.func58, Tryd.ntmps58
    go_wp2
    all_goals (go_ret; first | exact ⟨rfl, rfl⟩ | exact ⟨by simp <;> omega, rfl⟩)
  · refine key false (by rw [hs]; exact decide_eq_false (by omega)) ?_
    clear hs key hx
    have a1 : (91:Int) ≤ (x : Int) := by omega
    have a2 : (x : Int) ≤ 96 := by omega
    go_enter Tryd.func58, Tryd.ntmps58
    go_wp2
    all_goals (go_ret; first | exact ⟨rfl, rfl⟩ | exact ⟨by simp <;> omega, rfl⟩)
  · refine key true (by rw [hs]; exact decide_eq_true (by omega)) ?_
    clear hs key hx
    have a1 : (97:Int) ≤ (x : Int) := by omega
    have a2 : (x : Int) ≤ 122 := by omega
    go_enter Tryd.func58, Tryd.ntmps58
    go_wp2
    all_goals (go_ret; first | exact ⟨rfl, rfl⟩ | exact ⟨by simp <;> omega, rfl⟩)
  · refine key false (by rw [hs]; exact decide_eq_false (by omega)) ?_
    clear hs key hx
    have a1 : (122:Int) < (x : Int) := by omega
    go_enter Tryd.func58, Tryd.ntmps58
    go_wp2
    all_goals (go_ret; first | exact ⟨rfl, rfl⟩ | exact ⟨by simp <;> omega, rfl⟩)
theorem foreignS_any (x : Nat) (hx : x ≤ 1114111) (w : World) : Calls Tryd.prog 45 #[.int .i32 (x : Int)] w fun e w' => e = .returned (.bool (!svcSign x)) ∧ w' = w := by
  have key : ∀ b, svcSign x = b → Calls Tryd.prog 45 #[.int .i32 (x : Int)] w (fun e w' => e = .returned (.bool (!b)) ∧ w' = w) → Calls Tryd.prog 45 #[.int .i32 (x : Int)] w fun e w' => e = .returned (.bool (!svcSign x)) ∧ w' = w := fun b h k => by rw [h]; exact k
  have HN := Lib.hid (noLetter_any x hx w)
  have hs : svcSign x = decide ((97 ≤ x ∧ x ≤ 122) ∨ (65 ≤ x ∧ x ≤ 90) ∨ (48 ≤ x ∧ x ≤ 57) ∨ x = 45 ∨ x = 95 ∨ x = 46) := by
    simp only [svcSign, letterN, Bool.decide_or, Bool.decide_and, Bool.or_assoc]
  have hl : letterN x = decide ((97 ≤ x ∧ x ≤ 122) ∨ (65 ≤ x ∧ x ≤ 90)) := by simp only [letterN, Bool.decide_or, Bool.decide_and]
  by_cases hL : letterN x = true
  · refine key true (by rw [hl, decide_eq_true_eq] at hL; rw [hs]; exact decide_eq_true (by omega)) ?_
    rw [hL] at HN
    clear hs hl hL key hx
    go_enter Tryd.func45, Tryd.ntmps45
    go_wp2_with (go_at_call 58; refine HN.out.mono ?_; rintro e w' ⟨rfl, rfl⟩)
    all_goals (go_ret; first | exact ⟨rfl, rfl⟩ | exact ⟨by simp <;> omega, rfl⟩)
  · have hL2 : letterN x = false := by simpa using hL
    rw [hl, decide_eq_true_eq] at hL
    rw [hL2] at HN
    have hc : x < 45 ∨ x = 45 ∨ x = 46 ∨ x = 47 ∨ (48 ≤ x ∧ x ≤ 57) ∨ (58 ≤ x ∧ x ≤ 94) ∨ x = 95 ∨ 95 < x := by omega
    rcases hc with h | h | h | h | ⟨h, h'⟩ | ⟨h, h'⟩ | h | h
    · refine key false (by rw [hs]; exact decide_eq_false (by omega)) ?_
      have a1 : (x : Int) < 45 := by omega
      clear hs hl hL key hx
      go_enter Tryd.func45, Tryd.ntmps45
      go_wp2_with (go_at_call 58; refine HN.out.mono ?_; rintro e w' ⟨rfl, rfl⟩)
      all_goals (go_ret; first | exact ⟨rfl, rfl⟩ | exact ⟨by simp <;> omega, rfl⟩)
    · refine key true (by rw [hs]; exact decide_eq_true (by omega)) ?_
      subst h
      clear hs hl hL key hx hL2
      go_enter Tryd.func45, Tryd.ntmps45
      go_wp2_with (go_at_call 58; refine HN.out.mono ?_; rintro e w' ⟨rfl, rfl⟩)
      all_goals (go_ret; first | exact ⟨rfl, rfl⟩ | exact ⟨by simp <;> omega, rfl⟩)
    · refine key true (by rw [hs]; exact decide_eq_true (by omega)) ?_
      subst h
      clear hs hl hL key hx hL2
      go_enter Tryd.func45, Tryd.ntmps45
      go_wp2_with (go_at_call 58; refine HN.out.mono ?_; rintro e w' ⟨rfl, rfl⟩)
      all_goals (go_ret; first | exact ⟨rfl, rfl⟩ | exact ⟨by simp <;> omega, rfl⟩)
    · refine key false (by rw [hs]; exact decide_eq_false (by omega)) ?_
      subst h
      clear hs hl hL key hx hL2
      go_enter Tryd.func45, Tryd.ntmps45
      go_wp2_with (go_at_call 58; refine HN.out.mono ?_; rintro e w' ⟨rfl, rfl⟩)
      all_goals (go_ret; first | exact ⟨rfl, rfl⟩ | exact ⟨by simp <;> omega, rfl⟩)
    · refine key true (by rw [hs]; exact decide_eq_true (by omega)) ?_
      have a1 : (48:Int) ≤ (x : Int) := by omega
      have a2 : (x : Int) ≤ 57 := by omega
      clear hs hl hL key hx
      go_enter Tryd.func45, Tryd.ntmps45
      go_wp2_with (go_at_call 58; refine HN.out.mono ?_; rintro e w' ⟨rfl, rfl⟩)
      all_goals (go_ret; first | exact ⟨rfl, rfl⟩ | exact ⟨by simp <;> omega, rfl⟩)
    · refine key false (by rw [hs]; exact decide_eq_false (by omega)) ?_
      have a1 : (58:Int) ≤ (x : Int) := by omega
      have a2 : (x : Int) ≤ 94 := by omega
      clear hs hl hL key hx
      go_enter Tryd.func45, Tryd.ntmps45
      go_wp2_with (go_at_call 58; refine HN.out.mono ?_; rintro e w' ⟨rfl, rfl⟩)
      all_goals (go_ret; first | exact ⟨rfl, rfl⟩ | exact ⟨by simp <;> omega, rfl⟩)
    · refine key true (by rw [hs]; exact decide_eq_true (by omega)) ?_
      subst h
      clear hs hl hL key hx hL2
      go_enter Tryd.func45, Tryd.ntmps45
      go_wp2_with (go_at_call 58; refine HN.out.mono ?_; rintro e w' ⟨rfl, rfl⟩)
      all_goals (go_ret; first | exact ⟨rfl, rfl⟩ | exact ⟨by simp <;> omega, rfl⟩)
    · refine key false (by rw [hs]; exact decide_eq_false (by omega)) ?_
      have a1 : (95:Int) < (x : Int) := by omega
      clear hs hl hL key hx
      go_enter Tryd.func45, Tryd.ntmps45
      go_wp2_with (go_at_call 58; refine HN.out.mono ?_; rintro e w' ⟨rfl, rfl⟩)
      all_goals (go_ret; first | exact ⟨rfl, rfl⟩ | exact ⟨by simp <;> omega, rfl⟩)
set_option maxRecDepth 100000 in
theorem hasForeignS (s : ByteArray) (w : World) : Calls Tryd.prog 44 #[.string s, .func (.func 45) #[] #[]] w fun e w' => e = .returned (.bool (s.data.toList.any fun b => !svcSign b.toNat)) ∧ Below w.heap.size w w' := by
  refine (Tryd.strings_ContainsFunc_runes 45 #[] (fun args w => by rfl) (fun x => !svcSign x) s w (fun W x hx _ => (foreignS_any x hx W).mono fun _ _ ⟨h1, h2⟩ => ⟨h1, 0, h2⟩)).mono fun e w' ⟨h1, h2⟩ => ⟨?_, h2⟩
  rw [h1, idx_anyR (fun x => !svcSign x) (fun x hx => by simp [svcSign_high x hx])]
set_option maxRecDepth 100000 in
theorem hasNoLetter (s : ByteArray) (w : World) : Calls Tryd.prog 44 #[.string s, .func (.func 58) #[] #[]] w fun e w' => e = .returned (.bool (s.data.toList.any fun b => !letterN b.toNat)) ∧ Below w.heap.size w w' := by
  refine (Tryd.strings_ContainsFunc_runes 58 #[] (fun args w => by rfl) (fun x => !letterN x) s w (fun W x hx _ => (noLetter_any x hx W).mono fun _ _ ⟨h1, h2⟩ => ⟨h1, 0, h2⟩)).mono fun e w' ⟨h1, h2⟩ => ⟨?_, h2⟩
  rw [h1, idx_anyR (fun x => !letterN x) (fun x hx => by simp [letter_high x hx])]
theorem not_any (p : UInt8 → Bool) (l : List UInt8) : (!(l.any fun b => !p b)) = l.all p := by simp [List.any_eq_not_all_not]
theorem nil_or (s : ByteArray) (h : ¬ s = ⟨#[]⟩) : s.data.toList ≠ [] ∧ s.toList.isEmpty = false := by
  have h0 : s.data.toList ≠ [] := fun e => h (by cases s; simp at e; simp [e])
  refine ⟨h0, ?_⟩
  rw [Go.Lib.toList_data]
  cases hh : s.data.toList with
  | nil => exact absurd hh h0
  | cons x y => rfl
theorem svcName_any (s : ByteArray) (w : World) : Calls Tryd.prog 29 #[.string s] w fun e w' => e = .returned (.bool (svcB s.data.toList)) ∧ Below w.heap.size w w' := by
  have HF := Lib.hid (fun w => hasForeignS s w)
  have hl : s.data.toList.length = s.size := rfl
  by_cases h0 : s = ⟨#[]⟩
  · subst h0
    go_enter Tryd.func29, Tryd.ntmps29
    go_wp2
    all_goals (go_ret; exact ⟨rfl, Below.refl _ _⟩)
  · obtain ⟨h0', e2⟩ := nil_or s h0
    by_cases h1 : 32 < s.size
    · have h1' : (32 : Int) < (s.size : Int) := by omega
      have hb : svcB s.data.toList = false := by unfold svcB; simp [hl]; omega
      rw [hb]
      clear HF
      go_enter Tryd.func29, Tryd.ntmps29
      go_wp2
      all_goals (go_ret; exact ⟨rfl, Below.refl _ _⟩)
    · have h1' : (s.size : Int) ≤ 32 := by omega
      have HB : Hid (svcB s.data.toList = !(s.data.toList.any fun b => !svcSign b.toNat)) := Lib.hid (by
        unfold svcB
        rw [not_any (fun b => svcSign b.toNat), decide_eq_true h0', decide_eq_true (by rw [hl]; omega)]
        rfl)
      rw [HB.out]
      have e3 : decide ((s.size : Int) ≤ 32) = true := decide_eq_true (by omega)
      clear h0 h0' h1 hl HB
      have HF' : ∀ w, Calls Tryd.prog 44 #[.string s, .func (.func 45) #[] #[]] w fun e w' => e = .returned (.bool (s.data.toList.any fun b => !svcSign b.toNat)) ∧ Below w.heap.size w w' := HF.out
      clear HF
      generalize (s.data.toList.any fun b => !svcSign b.toNat) = X at HF' ⊢
      have HF := Lib.hid HF'
      clear HF'
      go_enter Tryd.func29, Tryd.ntmps29
      go_wp2_with (go_at_call 44; refine (HF.out _).mono ?_; rintro e w2 ⟨rfl, hb⟩)
      all_goals (go_ret; exact ⟨by simp only [e3, Bool.true_and]; rfl, hb⟩)
theorem proto_any (s : ByteArray) (w : World) : Calls Tryd.prog 46 #[.string s] w fun e w' => e = .returned (.bool (protoB s.data.toList)) ∧ Below w.heap.size w w' := by
  have HF := Lib.hid (fun w => hasNoLetter s w)
  have hl : s.data.toList.length = s.size := rfl
  by_cases h0 : s = ⟨#[]⟩
  · subst h0
    go_enter Tryd.func46, Tryd.ntmps46
    go_wp2
    all_goals (go_ret; exact ⟨rfl, Below.refl _ _⟩)
  · obtain ⟨h0', e2⟩ := nil_or s h0
    by_cases h1 : 8 < s.size
    · have h1' : (8 : Int) < (s.size : Int) := by omega
      have hb : protoB s.data.toList = false := by unfold protoB; simp [hl]; omega
      rw [hb]
      clear HF
      go_enter Tryd.func46, Tryd.ntmps46
      go_wp2
      all_goals (go_ret; exact ⟨rfl, Below.refl _ _⟩)
    · have h1' : (s.size : Int) ≤ 8 := by omega
      have HB : Hid (protoB s.data.toList = !(s.data.toList.any fun b => !letterN b.toNat)) := Lib.hid (by
        unfold protoB
        rw [not_any (fun b => letterN b.toNat), decide_eq_true h0', decide_eq_true (by rw [hl]; omega)]
        rfl)
      rw [HB.out]
      have e3 : decide ((s.size : Int) ≤ 8) = true := decide_eq_true (by omega)
      clear h0 h0' h1 hl HB
      have HF' : ∀ w, Calls Tryd.prog 44 #[.string s, .func (.func 58) #[] #[]] w fun e w' => e = .returned (.bool (s.data.toList.any fun b => !letterN b.toNat)) ∧ Below w.heap.size w w' := HF.out
      clear HF
      generalize (s.data.toList.any fun b => !letterN b.toNat) = X at HF' ⊢
      have HF := Lib.hid HF'
      clear HF'
      go_enter Tryd.func46, Tryd.ntmps46
      go_wp2_with (go_at_call 44; refine (HF.out _).mono ?_; rintro e w2 ⟨rfl, hb⟩)
      all_goals (go_ret; exact ⟨by simp only [e3, Bool.true_and]; rfl, hb⟩)
end Go.Proofs.YtaoapkbfcofamaaDoor

namespace Go.Tx
open Go.RowKit
def strV (l : List UInt8) : Value := .string ⟨l.toArray⟩
/-- A slice of texts that reads as ws, of whatever capacity. -/
def StrC (B : Nat) (w : World) (v : Value) (ws : List (List UInt8)) : Prop := w.ownsRow B 9 1 v ws.length (ws.map strV)
theorem own_below {B : Nat} {e : TypeId} {size n : Nat} {v : Value} {xs : List Value} {w w' : World} (h : w.ownsRow B e size v n xs) (hb : Below w.heap.size w w') : w'.ownsRow B e size v n xs := by
  refine ⟨h.1, ?_⟩
  rcases h.2 with h | ⟨g, cap, cur, h1, h2, h3, h4⟩
  · exact .inl h
  · exact .inr ⟨g, cap, cur, h1, h2, by rw [hb.block g (Array.getElem?_eq_some_iff.1 h3).1]; exact h3, h4⟩
theorem StrC.shape {B : Nat} {w : World} {v : Value} {ws : List (List UInt8)} (h : StrC B w v ws) : ∃ p c, v = .slice p ws.length c := by
  rcases h.2 with ⟨a, b⟩ | ⟨g, cap, cur, a, _⟩
  · exact ⟨none, 0, by rw [a, b]⟩
  · exact ⟨_, _, a⟩
theorem StrC.read {B : Nat} {w : World} {v : Value} {ws : List (List UInt8)} (h : StrC B w v ws) :
    ∃ p c, v = .slice p ws.length c ∧ ws.length ≤ c ∧ c ≤ 9223372036854775807 ∧ ∀ (i : Nat) (l : List UInt8), ws[i]? = some l → ∃ g, p = some ⟨g, 0, none⟩ ∧ g < w.heap.size ∧ w.cell? ⟨g, i, none⟩ = some (.string ⟨l.toArray⟩) := by
  rcases h.2 with ⟨a, b⟩ | ⟨g, cap, cur, a, a2, a3, a4, a5, _⟩
  · refine ⟨none, 0, by rw [a, b], by omega, by omega, fun i l hi => ?_⟩
    have := (List.getElem?_eq_some_iff.1 hi).1
    omega
  · subst a
    refine ⟨_, cap, rfl, a4, a5, fun i l hi => ⟨g, rfl, (Array.getElem?_eq_some_iff.1 a3).1, ?_⟩⟩
    have hlt := (List.getElem?_eq_some_iff.1 hi).1
    rw [World.ownsRow.cellAt h i (by omega), List.getElem?_map, hi]
    rfl
end Go.Tx

namespace Go.Proofs.YtaoapkbfcofamaaDoor
open Go.RowKit Go.Lib Go.Tx
theorem ret_int {k : IntKind} {a b : Int} (h : a = b) : Ending.returned (.int k a) = .returned (.int k b) := by rw [h]
theorem info9 : (Tryd.prog.info? 9).map (fun i => (i.zero, i.size, i.bytes)) = some (some (.string ⟨#[]⟩), 1, 16) := by kernel_rfl
theorem one_cell (w : World) (s : ByteArray) (e : TypeId) : ∀ j u, [Value.string s][j]? = some u → (w.alloc (.cells #[.string s] e)).cell? ((⟨w.heap.size, 0, none⟩ : Addr).add j) = some u := by
  intro j u hj
  have ha : (⟨w.heap.size, 0, none⟩ : Addr).add j = ⟨w.heap.size, j, none⟩ := by unfold Addr.add; split <;> simp_all
  rw [ha, World.cell?_alloc_new]
  simpa using hj
/-- What holds at the head of a round. -/
structure PI (w : World) (l : List UInt8) (c : UInt8) (n k F : Nat) (out fr : Value) (wr : World) (T : List (List UInt8)) : Prop where
  fr : fr = .int .i64 (F : Int)
  told : StrC w.heap.size wr out T
  go : k ≤ n → F ≤ k ∧ splitL c l = T ++ splitG c ((l.take k).drop F) (l.drop k)
  done : n < k → splitL c l = T
  few : T.length ≤ k
  bel : Below w.heap.size w wr
def SplitR (w : World) (T : List (List UInt8)) (e : Ending) (w' : World) : Prop := ∃ v, e = .returned v ∧ StrC w.heap.size w' v T ∧ Below w.heap.size w w'
theorem ext_drop (s : ByteArray) (F k : Nat) : Value.string (s.extract F k) = strV ((s.data.toList.take k).drop F) := by
  unfold strV
  congr 1
  apply ByteArray.ext
  apply Array.ext'
  simp [ByteArray.extract, ByteArray.copySlice, List.drop_take, List.extract]
theorem PI.skip {w wr : World} {l : List UInt8} {c b : UInt8} {n k F : Nat} {out fr : Value} {T : List (List UInt8)} (h : PI w l c n k F out fr wr T) (hl : l.length = n) (hb : l[k]? = some b) (hc : ¬ b = c) : PI w l c n (k + 1) F out fr wr T := by
  have hk := (List.getElem?_eq_some_iff.1 hb).1
  obtain ⟨h1, h2⟩ := h.go (by omega)
  exact ⟨h.fr, h.told, fun _ => ⟨by omega, by rw [h2, splitG_step hb h1 hc]⟩, fun h => by omega, by have := h.few; omega, h.bel⟩
theorem PI.push {w wr w5 : World} {s : ByteArray} {c : UInt8} {n k F : Nat} {out out' fr : Value} {T : List (List UInt8)} (h : PI w s.data.toList c n k F out fr wr T) (hl : s.data.toList.length = n) (hk : k ≤ n) (hb : k < n → s.data.toList[k]? = some c)
    (ho : w5.ownsRow w.heap.size 9 1 out' (T.length + 1) (T.map strV ++ [.string (s.extract F k)])) (hbel : Below w.heap.size w w5) : PI w s.data.toList c n (k + 1) (k + 1) out' (.int .i64 ((k + 1 : Nat) : Int)) w5 (T ++ [(s.data.toList.take k).drop F]) := by
  obtain ⟨h1, h2⟩ := h.go hk
  refine ⟨rfl, ?_, fun h3 => ⟨Nat.le_refl _, ?_⟩, fun h3 => ?_, by have := h.few; simp; omega, hbel⟩
  · unfold StrC
    rw [List.length_append, List.map_append]
    rw [ext_drop] at ho
    exact ho
  · rw [h2, splitG_cut (hb (by omega)) rfl, List.append_assoc]
    rfl
  · have : k = n := by omega
    subst this
    rw [h2, splitG_last hl]
set_option maxHeartbeats 2000000 in
set_option maxRecDepth 100000 in
theorem split_any (s : ByteArray) (c : UInt8) (w : World) (hn : s.size ≤ 1000000) :
    Calls Tryd.prog 32 #[.string s, .int .u8 (c.toNat : Int)] w (SplitR w (splitL c s.data.toList)) := by
  obtain ⟨i9, hi, hz0, hz1, hz2⟩ := info_parts info9
  have HL : Hid (s.data.toList.length = s.size) := Lib.hid rfl
  go_enter Tryd.func32, Tryd.ntmps32
  go_wp2
  go_loopw [5, 6, 7] (fun out fr i wr => ∃ k F T, k ≤ s.size + 1 ∧ i = .int .i64 (k : Nat) ∧ PI w s.data.toList c s.size k F out fr wr T) (fun _ _ i _ => s.size + 1 - (intOf i).toNat)
  case atStart => exact ⟨0, 0, [], Nat.zero_le _, rfl, rfl, World.ownsRow_nil _ _ _ _, fun _ => ⟨Nat.le_refl _, by simp [splitL]⟩, fun h => by omega, Nat.zero_le _, Below.refl _ _⟩
  case round =>
    obtain ⟨k, F, T, hk, rfl, hI⟩ := hrel
    have hfr := hI.fr
    subst hfr
    have hws := hI.bel.size
    have hfew := hI.few
    have HI := Lib.hid hI
    clear hI
    by_cases hlt : k ≤ s.size
    · have hF := (HI.out.go hlt).1
      by_cases hkn : k < s.size
      · have hb : s.data.toList[k]? = some s[k] := List.getElem?_eq_getElem hkn
        by_cases hc : s[k] = c
        · have HB := Lib.hid hb
          have HC := Lib.hid hc
          have ec : ((s[k].toNat : Int) == (c.toNat : Int)) = true := by rw [hc]; simp
          clear hb hc
          go_wp2_with (at_builtin; refine wpList_append_own _ rfl _ _ 53 rfl w.heap.size 9 i9 (.string ⟨#[]⟩) 1 16 Tryd.underlying53 hi hz0 hz1 hz2 rfl (by decide) _ _ _ rfl (HI.out.told.alloc _) ⟨wr.heap.size, 0, none⟩ 1 1 [.string (s.extract F k)] rfl rfl (one_cell _ _ _) (by simp [Value.oneCell']) (by unfold maxLen; omega) (by omega) (by show w.heap.size ≤ (wr.heap.push _).size; simp; omega) ?_; intro v' w5 hown5 hg5 _)
          go_roundw
          case rel => exact ⟨k + 1, k + 1, _, by omega, by go_num, HI.out.push HL.out hlt (fun _ => by rw [HB.out, HC.out]) hown5 ((HI.out.bel.alloc hws _).grown hg5 (by show w.heap.size ≤ (wr.heap.push _).size; simp; omega) (fun g hg => (HI.out.told.lt g hg).1))⟩
          case measure => simp [intOf]; omega
        · have HB := Lib.hid hb
          have HC := Lib.hid hc
          have ec : ((s[k].toNat : Int) == (c.toNat : Int)) = false := by rw [beq_eq_false_iff_ne]; intro h; exact hc (UInt8.toNat_inj.1 (by omega))
          clear hb hc
          go_wp2
          go_roundw
          case rel => exact ⟨k + 1, F, T, by omega, by go_num, HI.out.skip HL.out HB.out HC.out⟩
          case measure => simp [intOf]; omega
      · obtain rfl : k = s.size := by omega
        go_wp2_with (at_builtin; refine wpList_append_own _ rfl _ _ 53 rfl w.heap.size 9 i9 (.string ⟨#[]⟩) 1 16 Tryd.underlying53 hi hz0 hz1 hz2 rfl (by decide) _ _ _ rfl (HI.out.told.alloc _) ⟨wr.heap.size, 0, none⟩ 1 1 [.string (s.extract F s.size)] rfl rfl (one_cell _ _ _) (by simp [Value.oneCell']) (by unfold maxLen; omega) (by omega) (by show w.heap.size ≤ (wr.heap.push _).size; simp; omega) ?_; intro v' w5 hown5 hg5 _)
        go_roundw
        case rel => exact ⟨s.size + 1, s.size + 1, _, by omega, by go_num, HI.out.push HL.out hlt (fun h => by omega) hown5 ((HI.out.bel.alloc hws _).grown hg5 (by show w.heap.size ≤ (wr.heap.push _).size; simp; omega) (fun g hg => (HI.out.told.lt g hg).1))⟩
        case measure => simp [intOf]
    · obtain rfl : k = s.size + 1 := by omega
      have HE := Lib.hid (HI.out.done (by omega))
      go_wp2
      go_ret
      exact ⟨_, rfl, by rw [HE.out]; exact HI.out.told, HI.out.bel⟩
end Go.Proofs.YtaoapkbfcofamaaDoor

namespace Go.Proofs.YtaoapkbfcofamaaDoor
open Go.RowKit Go.Lib Go.Tx Go.Rb
theorem lowTake_at' (s : ByteArray) (k : Nat) (h : k < s.size) : (lowTake k s.data.toList)[k]? = some s[k] := lowTake_at k s.data.toList h
theorem ret_str {a b : List UInt8} (h : a = b) : Ending.returned (.string ⟨a.toArray⟩) = .returned (.string ⟨b.toArray⟩) := by rw [h]
theorem row_up (s : ByteArray) {wr : World} {b cap k : Nat} {x : Int} (h : k < s.size) (h1 : 65 ≤ (s[k].toNat : Int)) (h2 : (s[k].toNat : Int) ≤ 90) (hx : x = (s[k].toNat : Int) + 32) (hr : RowB 5 wr b cap (lowTake k s.data.toList)) :
    RowB 5 (wr.setCell ⟨b, k, none⟩ (.int .u8 x)) b cap (lowTake (k + 1) s.data.toList) := by
  have e1 : lowTake (k + 1) s.data.toList = (lowTake k s.data.toList).set k (low s[k]) := lowTake_step k s.data.toList h
  rw [e1, hx, ← low_up _ h1 h2]
  exact hr.set (by rw [lowTake_len]; exact h) _
theorem row_skip (s : ByteArray) {wr : World} {b cap k : Nat} (h : k < s.size) (h1 : low s[k] = s[k]) (hr : RowB 5 wr b cap (lowTake k s.data.toList)) : RowB 5 wr b cap (lowTake (k + 1) s.data.toList) := by
  have e1 : lowTake (k + 1) s.data.toList = lowTake k s.data.toList := lowTake_skip k s.data.toList h h1
  rw [e1]; exact hr
theorem row_str (s : ByteArray) {wr : World} {b cap k : Nat} (h : s.size ≤ k) (hr : RowB 5 wr b cap (lowTake k s.data.toList)) (c : Nat) :
    (convert 56 9 (.slice (some ⟨b, 0, none⟩) s.size c)).run Tryd.prog wr = .ok (.string ⟨(s.data.toList.map low).toArray⟩) wr := by
  have := hr.str (P := Tryd.prog) (src := 56) (dst := 9) c Tryd.underlying56 Tryd.underlying5 Tryd.underlying9
  rw [lowTake_all k _ h] at this
  have hl : (s.data.toList.map low).length = s.size := by simp
  rw [hl] at this
  exact this
set_option maxHeartbeats 1000000 in
set_option maxRecDepth 100000 in
theorem fold_any (s : ByteArray) (w : World) (hs : s.size ≤ maxLen) :
    Calls Tryd.prog 31 #[.string s] w fun e w' => e = .returned (.string ⟨(s.data.toList.map low).toArray⟩) ∧ Below w.heap.size w w' := by
  unfold maxLen at hs
  obtain ⟨cap, o, hconv, hcap, hrow⟩ := RowB.made (P := Tryd.prog) s w Tryd.underlying9 Tryd.underlying56 Tryd.underlying5
  have HR := Lib.hid hrow
  clear hrow
  go_enter Tryd.func31, Tryd.ntmps31
  go_wp2
  go_loopw [10] (fun i wr => ∃ k : Nat, k ≤ s.size ∧ i = .int .i64 k ∧ RowB 5 wr w.heap.size cap (lowTake k s.data.toList) ∧ Below w.heap.size w wr) (fun i _ => s.size - (intOf i).toNat)
  case atStart => exact ⟨0, Nat.zero_le _, rfl, by rw [lowTake_zero]; exact HR.out.drew, ((Below.refl _ _).alloc (Nat.le_refl _) _).drew⟩
  case round =>
    obtain ⟨k, hk, rfl, hrow, hbel⟩ := hrel
    by_cases hlt : k < s.size
    · have hcell := hrow.cell (lowTake_at' s k hlt)
      have hfz := hrow.frozen (j := k) (by omega)
      have HR1 := Lib.hid hrow
      clear hrow
      go_wp2
      all_goals
        go_roundw
        case rel => exact ⟨k + 1, by omega, by go_num, by first | exact row_up s hlt (by assumption) (by assumption) (by omega) HR1.out | exact row_skip s hlt (low_hi _ (by omega)) HR1.out | exact row_skip s hlt (low_lo _ (by omega)) HR1.out, by first | exact hbel | exact hbel.setCell (Nat.le_refl _) _⟩
        case measure => simp [intOf]; omega
    · have hback := row_str s (by omega) hrow cap
      clear hrow
      go_wp2
      go_ret
      exact ⟨rfl, hbel⟩
set_option maxHeartbeats 1000000 in
set_option maxRecDepth 100000 in
theorem rfold_any (s : ByteArray) (w : World) (hs : s.size ≤ maxLen) :
    Calls Tryd.prog 22 #[.string s] w fun e w' => e = .returned (.string ⟨(s.data.toList.map low).toArray⟩) ∧ Below w.heap.size w w' := by
  unfold maxLen at hs
  obtain ⟨cap, o, hconv, hcap, hrow⟩ := RowB.made (P := Tryd.prog) s w Tryd.underlying9 Tryd.underlying56 Tryd.underlying5
  have HR := Lib.hid hrow
  clear hrow
  go_enter Tryd.func22, Tryd.ntmps22
  go_wp2
  go_loopw [4] (fun i wr => ∃ k : Nat, k ≤ s.size ∧ i = .int .i64 k ∧ RowB 5 wr w.heap.size cap (lowTake k s.data.toList) ∧ Below w.heap.size w wr) (fun i _ => s.size - (intOf i).toNat)
  case atStart => exact ⟨0, Nat.zero_le _, rfl, by rw [lowTake_zero]; exact HR.out.drew, ((Below.refl _ _).alloc (Nat.le_refl _) _).drew⟩
  case round =>
    obtain ⟨k, hk, rfl, hrow, hbel⟩ := hrel
    by_cases hlt : k < s.size
    · have hcell := hrow.cell (lowTake_at' s k hlt)
      have hfz := hrow.frozen (j := k) (by omega)
      have HR1 := Lib.hid hrow
      clear hrow
      go_wp2
      all_goals
        go_roundw
        case rel => exact ⟨k + 1, by omega, by go_num, by first | exact row_up s hlt (by assumption) (by assumption) (by omega) HR1.out | exact row_skip s hlt (low_hi _ (by omega)) HR1.out | exact row_skip s hlt (low_lo _ (by omega)) HR1.out, by first | exact hbel | exact hbel.setCell (Nat.le_refl _) _⟩
        case measure => simp [intOf]; omega
    · have hback := row_str s (by omega) hrow cap
      clear hrow
      go_wp2
      go_ret
      exact ⟨rfl, hbel⟩
end Go.Proofs.YtaoapkbfcofamaaDoor

namespace Go.Proofs.YtaoapkbfcofamaaDoor
open Go.RowKit Go.Lib Go.Tx
theorem foreign_any (x : Nat) (hx : x ≤ 1114111) (w : World) : Calls Tryd.prog 70 #[.int .i32 (x : Int)] w fun e w' => e = .returned (.bool (!sign x)) ∧ w' = w := by
  have hc : x < 45 ∨ x = 45 ∨ (46 ≤ x ∧ x ≤ 47) ∨ (48 ≤ x ∧ x ≤ 57) ∨ (58 ≤ x ∧ x ≤ 64) ∨ (65 ≤ x ∧ x ≤ 90) ∨ (91 ≤ x ∧ x ≤ 94) ∨ x = 95 ∨ x = 96 ∨ (97 ≤ x ∧ x ≤ 122) ∨ 122 < x := by omega
  have key : ∀ b, sign x = b → Calls Tryd.prog 70 #[.int .i32 (x : Int)] w (fun e w' => e = .returned (.bool (!b)) ∧ w' = w) → Calls Tryd.prog 70 #[.int .i32 (x : Int)] w fun e w' => e = .returned (.bool (!sign x)) ∧ w' = w := fun b h k => by rw [h]; exact k
  have hs : sign x = decide ((97 ≤ x ∧ x ≤ 122) ∨ (65 ≤ x ∧ x ≤ 90) ∨ (48 ≤ x ∧ x ≤ 57) ∨ x = 45 ∨ x = 95) := by
    simp only [sign]
    by_cases h1 : 97 ≤ x <;> by_cases h2 : x ≤ 122 <;> by_cases h3 : 65 ≤ x <;> by_cases h4 : x ≤ 90 <;> by_cases h5 : 48 ≤ x <;> by_cases h6 : x ≤ 57 <;> by_cases h7 : x = 45 <;> by_cases h8 : x = 95 <;> simp [*]
  rcases hc with h | h | ⟨h, h'⟩ | ⟨h, h'⟩ | ⟨h, h'⟩ | ⟨h, h'⟩ | ⟨h, h'⟩ | h | h | ⟨h, h'⟩ | h
  · refine key false (by rw [hs]; exact decide_eq_false (by omega)) ?_
    clear hs key hx
    have : (x : Int) < 45 := by omega
    go_enter Tryd.func70, Tryd.ntmps70
    go_wp2
    all_goals (go_ret; exact ⟨rfl, rfl⟩)
  · subst h
    refine key true (by decide) ?_
    clear hs key hx
    go_enter Tryd.func70, Tryd.ntmps70
    go_wp2
    all_goals (go_ret; exact ⟨rfl, rfl⟩)
  · refine key false (by rw [hs]; exact decide_eq_false (by omega)) ?_
    clear hs key hx
    have a1 : (46:Int) ≤ (x : Int) := by omega
    have a2 : (x : Int) ≤ 47 := by omega
    go_enter Tryd.func70, Tryd.ntmps70
    go_wp2
    all_goals (go_ret; exact ⟨rfl, rfl⟩)
  · refine key true (by rw [hs]; exact decide_eq_true (by omega)) ?_
    clear hs key hx
    have a1 : (48:Int) ≤ (x : Int) := by omega
    have a2 : (x : Int) ≤ 57 := by omega
    go_enter Tryd.func70, Tryd.ntmps70
    go_wp2
    all_goals (go_ret; exact ⟨rfl, rfl⟩)
  · refine key false (by rw [hs]; exact decide_eq_false (by omega)) ?_
    clear hs key hx
    have a1 : (58:Int) ≤ (x : Int) := by omega
    have a2 : (x : Int) ≤ 64 := by omega
    go_enter Tryd.func70, Tryd.ntmps70
    go_wp2
    all_goals (go_ret; exact ⟨rfl, rfl⟩)
  · refine key true (by rw [hs]; exact decide_eq_true (by omega)) ?_
    clear hs key hx
    have a1 : (65:Int) ≤ (x : Int) := by omega
    have a2 : (x : Int) ≤ 90 := by omega
    go_enter Tryd.func70, Tryd.ntmps70
    go_wp2
    all_goals (go_ret; exact ⟨rfl, rfl⟩)
  · refine key false (by rw [hs]; exact decide_eq_false (by omega)) ?_
    clear hs key hx
    have a1 : (91:Int) ≤ (x : Int) := by omega
    have a2 : (x : Int) ≤ 94 := by omega
    go_enter Tryd.func70, Tryd.ntmps70
    go_wp2
    all_goals (go_ret; exact ⟨rfl, rfl⟩)
  · subst h
    refine key true (by decide) ?_
    clear hs key hx
    go_enter Tryd.func70, Tryd.ntmps70
    go_wp2
    all_goals (go_ret; exact ⟨rfl, rfl⟩)
  · subst h
    refine key false (by decide) ?_
    clear hs key hx
    go_enter Tryd.func70, Tryd.ntmps70
    go_wp2
    all_goals (go_ret; exact ⟨rfl, rfl⟩)
  · refine key true (by rw [hs]; exact decide_eq_true (by omega)) ?_
    clear hs key hx
    have a1 : (97:Int) ≤ (x : Int) := by omega
    have a2 : (x : Int) ≤ 122 := by omega
    go_enter Tryd.func70, Tryd.ntmps70
    go_wp2
    all_goals (go_ret; exact ⟨rfl, rfl⟩)
  · refine key false (by rw [hs]; exact decide_eq_false (by omega)) ?_
    clear hs key hx
    have a1 : (122:Int) < (x : Int) := by omega
    go_enter Tryd.func70, Tryd.ntmps70
    go_wp2
    all_goals (go_ret; exact ⟨rfl, rfl⟩)
theorem foreignAt (w : World) : PredAtRunes Tryd.prog 70 #[] (fun x => !sign x) w := fun W x hx _ =>
  (foreign_any x hx W).mono fun _ _ ⟨h1, h2⟩ => ⟨h1, 0, h2⟩
set_option maxRecDepth 100000 in
theorem hasForeign (s : ByteArray) (w : World) : Calls Tryd.prog 44 #[.string s, .func (.func 70) #[] #[]] w fun e w' => e = .returned (.bool (s.data.toList.any fun b => !sign b.toNat)) ∧ Below w.heap.size w w' := by
  refine (Tryd.strings_ContainsFunc_runes 70 #[] (fun args w => by rfl) (fun x => !sign x) s w (foreignAt w)).mono fun e w' ⟨h1, h2⟩ => ⟨?_, h2⟩
  rw [h1, idx_anyR (fun x => !sign x) (fun x hx => by simp [sign_high x hx])]
theorem noLabel_any (s : ByteArray) (w : World) : Calls Tryd.prog 54 #[.string s] w fun e w' => e = .returned (.bool (!labelB s.data.toList)) ∧ Below w.heap.size w w' := by
  have HF := Lib.hid (fun w => hasForeign s w)
  have HN := Lib.hid (noLabel s.data.toList)
  have hl : s.data.toList.length = s.size := rfl
  by_cases h0 : s = ⟨#[]⟩
  · subst h0
    go_enter Tryd.func54, Tryd.ntmps54
    go_wp2
    all_goals (go_ret; exact ⟨rfl, Below.refl _ _⟩)
  · have h0' : s.data.toList ≠ [] := fun h => h0 (by cases s; simp at h; simp [h])
    by_cases h1 : 63 < s.size
    · have h1' : (63 : Int) < (s.size : Int) := by omega
      have hb : labelB s.data.toList = false := by unfold labelB; simp [hl]; omega
      rw [hb]
      clear HN HF
      go_enter Tryd.func54, Tryd.ntmps54
      go_wp2
      all_goals (go_ret; exact ⟨rfl, Below.refl _ _⟩)
    · have h1' : (s.size : Int) ≤ 63 := by omega
      have hb : (!labelB s.data.toList) = s.data.toList.any fun b => !sign b.toNat := by
        rw [← HN.out]
        simp [h0', hl, h1]
      rw [hb]
      clear HN hb
      have e2 : s.toList.isEmpty = false := by
        rw [Go.Lib.toList_data]
        cases hh : s.data.toList with
        | nil => exact absurd hh h0'
        | cons x y => rfl
      have e3 : decide (63 < (s.size : Int)) = false := decide_eq_false (by omega)
      clear h0 h0' h1 hl
      have HF' : ∀ w, Calls Tryd.prog 44 #[.string s, .func (.func 70) #[] #[]] w fun e w' => e = .returned (.bool (s.data.toList.any fun b => !sign b.toNat)) ∧ Below w.heap.size w w' := HF.out
      clear HF
      generalize (s.data.toList.any fun b => !sign b.toNat) = X at HF' ⊢
      have HF := Lib.hid HF'
      clear HF'
      go_enter Tryd.func54, Tryd.ntmps54
      go_wp2_with (go_at_call 44; refine (HF.out _).mono ?_; rintro e w2 ⟨rfl, hb⟩)
      all_goals (go_ret; exact ⟨by simp only [e3, Bool.false_or]; rfl, hb⟩)
end Go.Proofs.YtaoapkbfcofamaaDoor

namespace Go.Proofs.YtaoapkbfcofamaaDoor
open Go.RowKit Go.Lib Go.Tx
/-- A row of texts, whose address and length are known. -/
structure TextsAt (w : World) (b cap : Nat) (ws : List (List UInt8)) : Prop where
  lt : b < w.heap.size
  fits : ws.length ≤ cap
  max : cap ≤ 9223372036854775807
  cell : ∀ (i : Nat) l, ws[i]? = some l → w.cell? ⟨b, i, none⟩ = some (.string ⟨l.toArray⟩)
theorem TextsAt.below {w w' : World} {b cap : Nat} {ws : List (List UInt8)} (h : TextsAt w b cap ws) (hb : Below w.heap.size w w') : TextsAt w' b cap ws :=
  ⟨Nat.lt_of_lt_of_le h.lt hb.size, h.fits, h.max, fun i l hi => by
    have := h.cell i l hi
    unfold World.cell? at this ⊢
    rw [hb.block b h.lt]
    exact this⟩
def IdxT (p : List UInt8 → Bool) (ws : List (List UInt8)) (w : World) (e : Ending) (w' : World) : Prop := ∃ i : Int, e = .returned (.int .i64 i) ∧ decide (0 ≤ i) = ws.any p ∧ Below w.heap.size w w'
theorem anyT_no {p : List UInt8 → Bool} (l : List (List UInt8)) (k : Nat) (hk : l.length ≤ k) (h : ∀ j b, j < k → l[j]? = some b → p b = false) : l.any p = false := by
  rw [List.any_eq_false]
  intro b hb
  obtain ⟨j, hj, rfl⟩ := List.getElem_of_mem hb
  rw [h j _ (by omega) (List.getElem?_eq_getElem hj)]
  simp
theorem anyT_yes {p : List UInt8 → Bool} (l : List (List UInt8)) (k : Nat) (b : List UInt8) (hk : l[k]? = some b) (h : p b = true) : l.any p = true := by
  rw [List.any_eq_true]
  exact ⟨b, List.mem_of_getElem? hk, h⟩
set_option maxHeartbeats 1000000 in
set_option maxRecDepth 100000 in
theorem idxT_any (b n cap : Nat) (ws : List (List UInt8)) (w : World) (hn : ws.length = n) (h : TextsAt w b cap ws) :
    Calls Tryd.prog 69 #[.slice (some ⟨b, 0, none⟩) n cap, .func (.func 54) #[] #[]] w (IdxT (fun l => !labelB l) ws w) := by
  have hcap := h.fits
  have hmax := h.max
  rw [hn] at hcap
  have HT := Lib.hid h
  clear h
  go_enter Tryd.func69, Tryd.ntmps69
  go_wp2
  go_loopw [8] (fun i wr => ∃ k : Nat, k ≤ n ∧ i = .int .i64 k ∧ Below w.heap.size w wr ∧ Hid (∀ j b, j < k → ws[j]? = some b → (!labelB b) = false)) (fun i _ => n - (intOf i).toNat)
  case atStart => exact ⟨0, Nat.zero_le _, rfl, Below.refl _ _, Lib.hid (by omega)⟩
  case round =>
    obtain ⟨k, hk, rfl, hbel, hall⟩ := hrel
    by_cases hlt : k < n
    · have hkl : k < ws.length := by omega
      have hcell := (HT.out.below hbel).cell k ws[k] (List.getElem?_eq_getElem hkl)
      have HK := Lib.hid (List.getElem?_eq_getElem hkl)
      clear hn
      generalize ws[k] = t at hcell HK
      have HN := Lib.hid (fun w => noLabel_any ⟨t.toArray⟩ w)
      cases hb : labelB t with
      | false =>
        have HB := Lib.hid hb
        clear hb
        go_wp2_with (go_at_call 54; refine (HN.out _).mono ?_; rw [show labelB (ByteArray.data ⟨t.toArray⟩).toList = false from HB.out]; rintro e w' ⟨rfl, hb2⟩)
        go_ret
        exact ⟨k, rfl, by rw [anyT_yes ws k t HK.out (by rw [HB.out]; rfl)]; simp, hbel.trans (hb2.mono hbel.size)⟩
      | true =>
        have HB := Lib.hid hb
        clear hb
        go_wp2_with (go_at_call 54; refine (HN.out _).mono ?_; rw [show labelB (ByteArray.data ⟨t.toArray⟩).toList = true from HB.out]; rintro e w' ⟨rfl, hb2⟩)
        go_roundw
        case rel => exact ⟨k + 1, hlt, by go_num, hbel.trans (hb2.mono hbel.size), Lib.hid (by
          intro j d hj hd
          by_cases e : j = k
          · subst e
            have := HK.out
            rw [this] at hd
            cases hd
            rw [HB.out]; rfl
          · exact hall.out j d (by omega) hd)⟩
        case measure => simp [intOf]; omega
    · go_wp2
      go_ret
      exact ⟨-1, rfl, by rw [anyT_no ws k (by omega) hall.out]; rfl, hbel⟩
theorem containsT_any (b n cap : Nat) (ws : List (List UInt8)) (w : World) (hn : ws.length = n) (h : TextsAt w b cap ws) :
    Calls Tryd.prog 52 #[.slice (some ⟨b, 0, none⟩) n cap, .func (.func 54) #[] #[]] w fun e w' => e = .returned (.bool (ws.any fun l => !labelB l)) ∧ Below w.heap.size w w' := by
  have HI := Lib.hid (idxT_any b n cap ws w hn h)
  clear h hn
  go_enter Tryd.func52, Tryd.ntmps52
  go_wp2_with (go_at_call 69; refine HI.out.mono ?_; rintro e w' ⟨i, rfl, hi, hb⟩; have HD := Lib.hid hi; clear hi)
  go_ret
  exact ⟨by rw [← HD.out]; rfl, hb⟩
/-- The library's variable holds a number. -/
def MaxAt (w : World) : Prop := ∃ m : Int, w.cell? ⟨1, 0, none⟩ = some (.int .i64 m)
theorem MaxAt.lt {w : World} (h : MaxAt w) : 1 < w.heap.size := by
  obtain ⟨m, h⟩ := h
  unfold World.cell? at h
  split at h
  · rename_i hh
    exact (Array.getElem?_eq_some_iff.1 hh).1
  · cases h
theorem MaxAt.below {w w' : World} (h : MaxAt w) (hb : Below w.heap.size w w') : MaxAt w' := by
  have := h.lt
  obtain ⟨m, h⟩ := h
  exact ⟨m, by rw [hb.cell (p := ⟨1, 0, none⟩) this]; exact h⟩
theorem split_textsAt (s : ByteArray) (w : World) (hs : s.size < 9223372036854775807) :
    TextsAt (w.alloc (.cells ((Lib.splitB ⟨#[46]⟩ 0 (Lib.countB s ⟨#[46]⟩) s).map Value.string).toArray 9)) w.heap.size (Lib.countB s ⟨#[46]⟩ + 1) (splitL 46 s.data.toList) := by
  rw [split_pieces, split_count]
  have hl := splitG_len 46 s.data.toList []
  refine ⟨by show w.heap.size < (w.heap.push _).size; simp, Nat.le_refl _, ?_, fun i l hi => ?_⟩
  · have : s.data.toList.length = s.size := rfl
    unfold splitL; omega
  · rw [World.cell?_alloc_new]
    simp only [List.getElem?_toArray, List.getElem?_map, hi]
    rfl
set_option maxHeartbeats 1000000 in
theorem isName_any (s : ByteArray) (w : World) (hm : MaxAt w) : Calls Tryd.prog 41 #[.string s] w fun e w' => e = .returned (.bool (nameB s.data.toList)) ∧ Below w.heap.size w w' := by
  have hl : s.data.toList.length = s.size := rfl
  by_cases h1 : s.size ≤ 253
  · have h1' : (s.size : Int) ≤ 253 := by omega
    obtain ⟨m, hm⟩ := hm
    have HS := Lib.hid (Tryd.strings_Split s ⟨#[46]⟩ m w (by omega) hm (Nat.le_refl 1))
    have HT := Lib.hid (split_textsAt s w (by omega))
    have HC := Lib.hid (split_count s 46).symm
    have hb : nameB s.data.toList = !((splitL 46 s.data.toList).any fun l => !labelB l) := by
      unfold nameB
      rw [decide_eq_true (by omega), Bool.true_and]
      simp [List.all_eq_not_any_not]
    rw [hb]
    clear hb hm hl
    go_enter Tryd.func41, Tryd.ntmps41
    go_wp2_with (first | (go_at_call 53; refine HS.out.mono ?_; rintro e w2 ⟨rfl, rfl⟩) | (go_at_call 52; refine (containsT_any _ _ _ _ _ HC.out HT.out).mono ?_; rintro e w2 ⟨rfl, hb⟩))
    go_ret
    exact ⟨rfl, ((Below.refl _ _).alloc (Nat.le_refl _) _).trans (hb.mono (by show w.heap.size ≤ (w.heap.push _).size; simp))⟩
  · have h1' : (253 : Int) < (s.size : Int) := by omega
    have hb : nameB s.data.toList = false := by unfold nameB; rw [decide_eq_false (by omega), Bool.false_and]
    rw [hb]
    clear hb
    go_enter Tryd.func41, Tryd.ntmps41
    go_wp2
    all_goals (go_ret; exact ⟨rfl, Below.refl _ _⟩)
set_option maxHeartbeats 1000000 in
theorem clean_any (s : ByteArray) (w : World) (hs : s.size ≤ maxLen) (hm : MaxAt w) : Calls Tryd.prog 27 #[.string s] w fun e w' => e = .returned (cleanV s.data.toList) ∧ Below w.heap.size w w' := by
  have HC := Lib.hid (Tryd.strings_CutSuffix s ⟨#[46]⟩ w (by unfold maxLen at hs; omega))
  have hbl : (bare s.data.toList).length ≤ maxLen := Nat.le_trans (bare_len _) hs
  have HF := Lib.hid (fun w => fold_any ⟨(bare s.data.toList).toArray⟩ w hbl)
  have HN := Lib.hid (fun w hm => isName_any ⟨(bare s.data.toList).toArray⟩ w hm)
  clear hbl hs
  cases hn : nameB (bare s.data.toList) with
  | true =>
    have hv : cleanV s.data.toList = .tuple #[.string ⟨((bare s.data.toList).map low).toArray⟩, .bool (isRoot s.data.toList), .bool true] := by unfold cleanV; rw [if_pos hn]
    rw [hv]
    have HB := Lib.hid hn
    clear hn hv
    go_enter Tryd.func27, Tryd.ntmps27
    go_wp2_with (first | (go_at_call 40; refine HC.out.mono ?_; rintro e w2 ⟨rfl, rfl⟩) | (go_at_call 41; refine (HN.out _ hm).mono ?_; rw [show nameB (ByteArray.data ⟨(bare s.data.toList).toArray⟩).toList = true from HB.out]; rintro e w2 ⟨rfl, hb⟩) | (go_at_call 31; refine (HF.out _).mono ?_; rintro e w3 ⟨rfl, hb3⟩))
    go_ret3
    exact ⟨rfl, hb.trans (hb3.mono hb.size)⟩
  | false =>
    have hv : cleanV s.data.toList = .tuple #[.string ⟨#[]⟩, .bool false, .bool false] := by unfold cleanV; rw [if_neg (by rw [hn]; decide)]
    rw [hv]
    have HB := Lib.hid hn
    clear hn hv
    go_enter Tryd.func27, Tryd.ntmps27
    go_wp2_with (first | (go_at_call 40; refine HC.out.mono ?_; rintro e w2 ⟨rfl, rfl⟩) | (go_at_call 41; refine (HN.out _ hm).mono ?_; rw [show nameB (ByteArray.data ⟨(bare s.data.toList).toArray⟩).toList = false from HB.out]; rintro e w2 ⟨rfl, hb⟩))
    go_ret3
    exact ⟨rfl, hb⟩
end Go.Proofs.YtaoapkbfcofamaaDoor

namespace Go.Proofs.YtaoapkbfcofamaaDoor
open Go.RowKit Go.Lib Go.Tx
theorem labelB_letters (l : List UInt8) : labelB l = (decide (l.length ≤ 63) && lettersB [45, 95] l) := by
  unfold labelB lettersB
  have : (l.all fun b => sign b.toNat) = l.all fun b => alnum b.toNat || [45, 95].any fun m => b == m := by
    congr 1
    funext b
    unfold sign alnum
    have e1 : (b == 45) = decide (b.toNat = 45) := by
      by_cases h : b = 45
      · subst h; rfl
      · rw [beq_eq_false_iff_ne.2 h, decide_eq_false (fun e => h (UInt8.toNat_inj.1 (by rw [e]; rfl)))]
    have e2 : (b == 95) = decide (b.toNat = 95) := by
      by_cases h : b = 95
      · subst h; rfl
      · rw [beq_eq_false_iff_ne.2 h, decide_eq_false (fun e => h (UInt8.toNat_inj.1 (by rw [e]; rfl)))]
    simp only [List.any_cons, List.any_nil, Bool.or_false, e1, e2]
    rw [Bool.eq_iff_iff]
    simp
    omega
  rw [this]
  generalize (l.all fun b => alnum b.toNat || [45, 95].any fun m => b == m) = X
  cases X <;> by_cases h : l = [] <;> simp [h]
theorem suffix46 (s : ByteArray) (k : Nat) (hk : s.size = k + 1) (hlt : k < s.size) : hasSuffix s.data.toList [46] = decide (s[k] = 46) ∧ s.data.toList.take k = (s.extract 0 k).data.toList := by
  refine ⟨?_, (extract_from_zero s k).symm⟩
  have hl : s.data.toList.length = k + 1 := hk
  have e : s.data.toList = s.data.toList.take k ++ [s[k]] := by
    have hd : s.data.toList.drop k = [s[k]] := by
      rw [List.drop_eq_getElem_cons (by omega), List.drop_of_length_le (by omega)]
      rfl
    rw [← hd, List.take_append_drop]
  rw [e]
  generalize s[k] = b
  generalize s.data.toList.take k = t
  unfold hasSuffix
  by_cases h : b = 46
  · subst h
    simp
  · have : ¬ ([46] : List UInt8) <:+ t ++ [b] := by
      rintro ⟨u, hu⟩
      have := List.append_inj_right' hu rfl
      simp at this
      exact h this.symm
    rw [decide_eq_false h]
    cases hc : ([46] : List UInt8).isSuffixOf (t ++ [b]) with
    | false => rfl
    | true => exact absurd (List.isSuffixOf_iff_suffix.1 hc) this
theorem strC_at {B : Nat} {w : World} {v : Value} {ws : List (List UInt8)} (h : StrC B w v ws) (h1 : 1 ≤ ws.length) : ∃ g c, v = .slice (some ⟨g, 0, none⟩) ws.length c ∧ TextsAt w g c ws := by
  obtain ⟨p, c, rfl, hc, hm, hr⟩ := h.read
  obtain ⟨g, rfl, hg, _⟩ := hr 0 ws[0] (List.getElem?_eq_getElem (by omega))
  refine ⟨g, c, rfl, hg, hc, hm, fun i l hi => ?_⟩
  obtain ⟨g', e, _, h3⟩ := hr i l hi
  cases e
  exact h3
theorem all_tillL {p : List UInt8 → Bool} (l : List (List UInt8)) (k : Nat) (hk : l.length ≤ k) (h : ∀ j b, j < k → l[j]? = some b → p b = true) : l.all p = true := by
  rw [List.all_eq_true]
  intro b hb
  obtain ⟨j, hj, rfl⟩ := List.getElem_of_mem hb
  exact h j _ (by omega) (List.getElem?_eq_getElem hj)
theorem all_notL {p : List UInt8 → Bool} (l : List (List UInt8)) (k : Nat) (b : List UInt8) (hk : l[k]? = some b) (h : p b = false) : l.all p = false := by
  rw [List.all_eq_false]
  exact ⟨b, List.mem_of_getElem? hk, by simp [h]⟩
set_option maxHeartbeats 2000000 in
set_option maxRecDepth 100000 in
theorem rclean_any (s : ByteArray) (w : World) (hs : s.size ≤ 1000000) : Calls Tryd.prog 19 #[.string s] w fun e w' => e = .returned (cleanV s.data.toList) ∧ Below w.heap.size w w' := by
  by_cases h0 : 0 < s.size
  · obtain ⟨k, hk⟩ : ∃ k, s.size = k + 1 := ⟨s.size - 1, by omega⟩
    have hlt : k < s.size := by omega
    have hki : (s.size : Int) - 1 = (k : Int) := by omega
    have hkc : (s.size : Int) = (k : Int) + 1 := by omega
    obtain ⟨e1, e2⟩ := suffix46 s k hk hlt
    by_cases hd : s[k] = 46
    · have hroot : isRoot s.data.toList = true := by unfold isRoot; rw [e1, hd]; rfl
      have hbare : bare s.data.toList = (s.extract 0 k).data.toList := by
        unfold bare trimSuffix
        have : s.data.toList.length = k + 1 := hk
        rw [e1, hd, if_pos (by decide), ← e2, this]
        rfl
      have hNs : (s.extract 0 k).size = k := by simp [ByteArray.size_extract]; omega
      clear e1 e2
      obtain ⟨F, hF⟩ : ∃ F : ByteArray, ⟨((s.extract 0 k).data.toList.map low).toArray⟩ = F := ⟨_, rfl⟩
      have HV : Hid (cleanV s.data.toList = if nameB (s.extract 0 k).data.toList = true then .tuple #[.string F, .bool true, .bool true] else .tuple #[.string ⟨#[]⟩, .bool false, .bool false]) := Lib.hid (by unfold cleanV; rw [hbare, hroot, hF])
      have hnl : (s.extract 0 k).data.toList.length = (s.extract 0 k).size := rfl
      have HNB : Hid (∀ b, (s.extract 0 k).size ≤ 253 → (splitL 46 (s.extract 0 k).data.toList).all labelB = b → nameB (s.extract 0 k).data.toList = b) := Lib.hid (fun b h1 h2 => by unfold nameB; rw [h2, hnl, decide_eq_true h1, Bool.true_and])
      have HNL : Hid ((s.extract 0 k).size < 1 ∨ 253 < (s.extract 0 k).size → nameB (s.extract 0 k).data.toList = false) := Lib.hid (fun h => by
        rcases h with h | h
        · have : (s.extract 0 k).data.toList = [] := List.eq_nil_of_length_eq_zero (by omega)
          rw [this]; decide
        · unfold nameB; rw [hnl, decide_eq_false (by omega), Bool.false_and])
      have HSp : Hid (∀ w, Calls Tryd.prog 32 #[.string (s.extract 0 k), .int .u8 46] w (SplitR w (splitL 46 (s.extract 0 k).data.toList))) := Lib.hid (fun w => split_any (s.extract 0 k) 46 w (by omega))
      have HF : Hid (∀ w, Calls Tryd.prog 22 #[.string (s.extract 0 k)] w fun e w' => e = .returned (.string F) ∧ Below w.heap.size w w') := Lib.hid (fun w => by have := rfold_any (s.extract 0 k) w (by unfold maxLen; omega); rw [hF] at this; exact this)
      have HS1 := Lib.hid (splitG_len 46 (s.extract 0 k).data.toList [])
      have HS2 : Hid (∀ x, x ∈ splitL 46 (s.extract 0 k).data.toList → x.length ≤ 1000000) := Lib.hid (fun x hx => by have := splitG_mem 46 _ _ _ hx; simp only [List.length_nil] at this; omega)
      clear hbare hroot hnl hF
      have HT1 : Hid (1 ≤ (splitL 46 (s.extract 0 k).data.toList).length ∧ (splitL 46 (s.extract 0 k).data.toList).length ≤ (s.extract 0 k).data.toList.length + 1) := Lib.hid HS1.out
      clear HS1
      generalize HT0 : splitL 46 (s.extract 0 k).data.toList = T at *
      clear HT0
      go_enter Tryd.func19, Tryd.ntmps19
      go_wp2_with (go_at_call 32; refine (HSp.out _).mono ?_; rintro e w2 ⟨v, rfl, hstr, hb2⟩; obtain ⟨g, c, rfl, hta⟩ := strC_at hstr HT1.out.1; have HTA := Lib.hid hta; have hcap := hta.fits; have hmax := hta.max; have HL := Lib.hid HT1.out.2; clear hta hstr)
      all_goals first
        | (go_ret3; exact ⟨by rw [HV.out, if_neg (by rw [HNL.out (by omega)]; decide)]; rfl, Below.refl _ _⟩)
        | skip
      go_loopw [8] (fun i wr => ∃ k : Nat, k ≤ T.length ∧ i = .int .i64 k ∧ Below w2.heap.size w2 wr ∧ Hid (∀ j b, j < k → T[j]? = some b → labelB b = true)) (fun i _ => T.length - (intOf i).toNat)
      case atStart => exact ⟨0, Nat.zero_le _, rfl, Below.refl _ _, Lib.hid (by omega)⟩
      case round =>
        obtain ⟨q, hq, rfl, hbel, hall⟩ := hrel
        by_cases hql : q < T.length
        · have hcell := (HTA.out.below hbel).cell q T[q] (List.getElem?_eq_getElem hql)
          have HK := Lib.hid (List.getElem?_eq_getElem hql)
          have htl := HS2.out T[q] (List.getElem_mem hql)
          generalize T[q] = t at hcell HK htl
          have hts : (ByteArray.mk t.toArray).size = t.length := by show t.toArray.size = _; simp
          have HLT := Lib.hid (fun w => letters_any ⟨t.toArray⟩ ⟨#[45, 95]⟩ w (by omega) (by decide))
          have HLB := Lib.hid (labelB_letters t)
          by_cases h63 : 63 < t.length
          · have hb : labelB t = false := by rw [HLB.out, decide_eq_false (by omega), Bool.false_and]
            have HNo := Lib.hid (all_notL T q t HK.out hb)
            clear hb
            go_wp2
            go_ret3
            exact ⟨by rw [HV.out, if_neg (by rw [HNB.out false (by omega) HNo.out]; decide)]; rfl, hb2.trans (hbel.mono hb2.size)⟩
          · have hb : labelB t = lettersB [45, 95] t := by rw [HLB.out, decide_eq_true (by omega), Bool.true_and]
            have HEq := Lib.hid hb
            clear hb
            cases hlb : labelB t with
            | false =>
              have HNo := Lib.hid (all_notL T q t HK.out hlb)
              have HLF : Hid (lettersB [45, 95] t = false) := Lib.hid (by rw [← HEq.out, hlb])
              clear hlb
              go_wp2_with (go_at_call 33; refine (HLT.out _).mono ?_; rw [show lettersB (ByteArray.data ⟨#[45, 95]⟩).toList (ByteArray.data ⟨t.toArray⟩).toList = false from HLF.out]; rintro e w3 ⟨rfl, rfl⟩)
              go_ret3
              exact ⟨by rw [HV.out, if_neg (by rw [HNB.out false (by omega) HNo.out]; decide)]; rfl, hb2.trans (hbel.mono hb2.size)⟩
            | true =>
              have HB := Lib.hid hlb
              have HLF : Hid (lettersB [45, 95] t = true) := Lib.hid (by rw [← HEq.out, hlb])
              clear hlb
              go_wp2_with (go_at_call 33; refine (HLT.out _).mono ?_; rw [show lettersB (ByteArray.data ⟨#[45, 95]⟩).toList (ByteArray.data ⟨t.toArray⟩).toList = true from HLF.out]; rintro e w3 ⟨rfl, rfl⟩)
              go_roundw
              case rel => exact ⟨q + 1, hql, by go_num, hbel, Lib.hid (by
                intro j d hj hd
                by_cases e : j = q
                · subst e
                  have := HK.out
                  rw [this] at hd
                  cases hd
                  exact HB.out
                · exact hall.out j d (by omega) hd)⟩
              case measure => simp [intOf]; omega
        · have HYes := Lib.hid (all_tillL T q (by omega) hall.out)
          go_wp2_with (go_at_call 22; refine (HF.out _).mono ?_; rintro e w3 ⟨rfl, hb3⟩)
          go_ret3
          have hb4 := hb2.trans (hbel.mono hb2.size)
          exact ⟨by rw [HV.out, if_pos (HNB.out true (by omega) HYes.out)]; rfl, hb4.trans (hb3.mono hb4.size)⟩
    · have hroot : isRoot s.data.toList = false := by unfold isRoot; rw [e1]; exact decide_eq_false hd
      have hbare : bare s.data.toList = s.data.toList := by
        unfold bare trimSuffix
        rw [e1, if_neg (by simpa using hd)]
      have hne : ¬ (s[k].toNat : Int) = 46 := fun e => hd (UInt8.toNat_inj.1 (by show s[k].toNat = 46; omega))
      clear e1 e2 hd
      obtain ⟨F, hF⟩ : ∃ F : ByteArray, ⟨((s).data.toList.map low).toArray⟩ = F := ⟨_, rfl⟩
      have HV : Hid (cleanV s.data.toList = if nameB (s).data.toList = true then .tuple #[.string F, .bool false, .bool true] else .tuple #[.string ⟨#[]⟩, .bool false, .bool false]) := Lib.hid (by unfold cleanV; rw [hbare, hroot, hF])
      have hnl : (s).data.toList.length = (s).size := rfl
      have HNB : Hid (∀ b, (s).size ≤ 253 → (splitL 46 (s).data.toList).all labelB = b → nameB (s).data.toList = b) := Lib.hid (fun b h1 h2 => by unfold nameB; rw [h2, hnl, decide_eq_true h1, Bool.true_and])
      have HNL : Hid ((s).size < 1 ∨ 253 < (s).size → nameB (s).data.toList = false) := Lib.hid (fun h => by
        rcases h with h | h
        · have : (s).data.toList = [] := List.eq_nil_of_length_eq_zero (by omega)
          rw [this]; decide
        · unfold nameB; rw [hnl, decide_eq_false (by omega), Bool.false_and])
      have HSp : Hid (∀ w, Calls Tryd.prog 32 #[.string (s), .int .u8 46] w (SplitR w (splitL 46 (s).data.toList))) := Lib.hid (fun w => split_any (s) 46 w (by omega))
      have HF : Hid (∀ w, Calls Tryd.prog 22 #[.string (s)] w fun e w' => e = .returned (.string F) ∧ Below w.heap.size w w') := Lib.hid (fun w => by have := rfold_any (s) w (by unfold maxLen; omega); rw [hF] at this; exact this)
      have HS1 := Lib.hid (splitG_len 46 (s).data.toList [])
      have HS2 : Hid (∀ x, x ∈ splitL 46 (s).data.toList → x.length ≤ 1000000) := Lib.hid (fun x hx => by have := splitG_mem 46 _ _ _ hx; simp only [List.length_nil] at this; omega)
      clear hbare hroot hnl hF
      have HT1 : Hid (1 ≤ (splitL 46 (s).data.toList).length ∧ (splitL 46 (s).data.toList).length ≤ (s).data.toList.length + 1) := Lib.hid HS1.out
      clear HS1
      generalize HT0 : splitL 46 (s).data.toList = T at *
      clear HT0
      go_enter Tryd.func19, Tryd.ntmps19
      go_wp2_with (go_at_call 32; refine (HSp.out _).mono ?_; rintro e w2 ⟨v, rfl, hstr, hb2⟩; obtain ⟨g, c, rfl, hta⟩ := strC_at hstr HT1.out.1; have HTA := Lib.hid hta; have hcap := hta.fits; have hmax := hta.max; have HL := Lib.hid HT1.out.2; clear hta hstr)
      all_goals first
        | (go_ret3; exact ⟨by rw [HV.out, if_neg (by rw [HNL.out (by omega)]; decide)]; rfl, Below.refl _ _⟩)
        | skip
      go_loopw [8] (fun i wr => ∃ k : Nat, k ≤ T.length ∧ i = .int .i64 k ∧ Below w2.heap.size w2 wr ∧ Hid (∀ j b, j < k → T[j]? = some b → labelB b = true)) (fun i _ => T.length - (intOf i).toNat)
      case atStart => exact ⟨0, Nat.zero_le _, rfl, Below.refl _ _, Lib.hid (by omega)⟩
      case round =>
        obtain ⟨q, hq, rfl, hbel, hall⟩ := hrel
        by_cases hql : q < T.length
        · have hcell := (HTA.out.below hbel).cell q T[q] (List.getElem?_eq_getElem hql)
          have HK := Lib.hid (List.getElem?_eq_getElem hql)
          have htl := HS2.out T[q] (List.getElem_mem hql)
          generalize T[q] = t at hcell HK htl
          have hts : (ByteArray.mk t.toArray).size = t.length := by show t.toArray.size = _; simp
          have HLT := Lib.hid (fun w => letters_any ⟨t.toArray⟩ ⟨#[45, 95]⟩ w (by omega) (by decide))
          have HLB := Lib.hid (labelB_letters t)
          by_cases h63 : 63 < t.length
          · have hb : labelB t = false := by rw [HLB.out, decide_eq_false (by omega), Bool.false_and]
            have HNo := Lib.hid (all_notL T q t HK.out hb)
            clear hb
            go_wp2
            go_ret3
            exact ⟨by rw [HV.out, if_neg (by rw [HNB.out false (by omega) HNo.out]; decide)]; rfl, hb2.trans (hbel.mono hb2.size)⟩
          · have hb : labelB t = lettersB [45, 95] t := by rw [HLB.out, decide_eq_true (by omega), Bool.true_and]
            have HEq := Lib.hid hb
            clear hb
            cases hlb : labelB t with
            | false =>
              have HNo := Lib.hid (all_notL T q t HK.out hlb)
              have HLF : Hid (lettersB [45, 95] t = false) := Lib.hid (by rw [← HEq.out, hlb])
              clear hlb
              go_wp2_with (go_at_call 33; refine (HLT.out _).mono ?_; rw [show lettersB (ByteArray.data ⟨#[45, 95]⟩).toList (ByteArray.data ⟨t.toArray⟩).toList = false from HLF.out]; rintro e w3 ⟨rfl, rfl⟩)
              go_ret3
              exact ⟨by rw [HV.out, if_neg (by rw [HNB.out false (by omega) HNo.out]; decide)]; rfl, hb2.trans (hbel.mono hb2.size)⟩
            | true =>
              have HB := Lib.hid hlb
              have HLF : Hid (lettersB [45, 95] t = true) := Lib.hid (by rw [← HEq.out, hlb])
              clear hlb
              go_wp2_with (go_at_call 33; refine (HLT.out _).mono ?_; rw [show lettersB (ByteArray.data ⟨#[45, 95]⟩).toList (ByteArray.data ⟨t.toArray⟩).toList = true from HLF.out]; rintro e w3 ⟨rfl, rfl⟩)
              go_roundw
              case rel => exact ⟨q + 1, hql, by go_num, hbel, Lib.hid (by
                intro j d hj hd
                by_cases e : j = q
                · subst e
                  have := HK.out
                  rw [this] at hd
                  cases hd
                  exact HB.out
                · exact hall.out j d (by omega) hd)⟩
              case measure => simp [intOf]; omega
        · have HYes := Lib.hid (all_tillL T q (by omega) hall.out)
          go_wp2_with (go_at_call 22; refine (HF.out _).mono ?_; rintro e w3 ⟨rfl, hb3⟩)
          go_ret3
          have hb4 := hb2.trans (hbel.mono hb2.size)
          exact ⟨by rw [HV.out, if_pos (HNB.out true (by omega) HYes.out)]; rfl, hb4.trans (hb3.mono hb4.size)⟩
  · have h1 : s = ⟨#[]⟩ := by
      have : s.data.toList = [] := List.eq_nil_of_length_eq_zero (by show s.size = 0; omega)
      cases s; simp at this; simp [this]
    subst h1
    have HV : cleanV ([] : List UInt8) = .tuple #[.string ⟨#[]⟩, .bool false, .bool false] := by unfold cleanV; rw [if_neg (by decide)]
    have HV := Lib.hid HV
    go_enter Tryd.func19, Tryd.ntmps19
    go_wp2
    all_goals (go_ret3; exact ⟨by first | (rw [HV.out]; rfl) | exact congrArg Ending.returned HV.out.symm, Below.refl _ _⟩)
end Go.Proofs.YtaoapkbfcofamaaDoor

namespace Go.Tx
/-- A query. -/
structure QryL where
  db : Int
  name : ByteArray
  proto : ByteArray
  port : Int
def qC (q : QryL) : Array Value := #[.int .i64 q.db, .string q.name, .string q.proto, .int .i64 q.port]
def qV (q : QryL) : Value := .agg (qC q)
def zQ : QryL := ⟨0, ⟨#[]⟩, ⟨#[]⟩, 0⟩
def foldS (s : ByteArray) : ByteArray := ⟨(s.data.toList.map low).toArray⟩
/-- A name as it is asked for. -/
def askS (s : ByteArray) : ByteArray := if isRoot s.data.toList then (⟨((bare s.data.toList).map low).toArray⟩ : ByteArray) ++ ⟨#[46]⟩ else ⟨((bare s.data.toList).map low).toArray⟩
/-- A protocol, or none. -/
def protoOK (s : ByteArray) : Bool := decide (s.data.toList = []) || protoB s.data.toList
/-- What the document's Check answers. -/
def checkP (q : QryL) : QryL × Int :=
  if q.db = 1 then (if nameB (bare q.name.data.toList) = true then (⟨1, askS q.name, ⟨#[]⟩, 0⟩, 0) else (zQ, 6))
  else if q.db = 2 then (if q.name.size = 4 ∨ q.name.size = 16 then (⟨2, q.name, ⟨#[]⟩, 0⟩, 0) else (zQ, 7))
  else if q.db = 3 then (if svcB q.name.data.toList = true then (if protoOK q.proto = true then (⟨3, q.name, foldS q.proto, 0⟩, 0) else (zQ, 7)) else (zQ, 6))
  else if q.db = 4 then (if (1 ≤ q.port ∧ q.port ≤ 65535) ∧ protoOK q.proto = true then (⟨4, ⟨#[]⟩, foldS q.proto, q.port⟩, 0) else (zQ, 7))
  else (zQ, 7)
end Go.Tx
namespace Go.Proofs.YtaoapkbfcofamaaDoor
open Go.RowKit Go.Lib Go.Tx
theorem results_row2 {P : Program} {fn : Func} {p u : Tmp} {ty : TypeId} (h : fn.results = #[.cell p ty, .tmp u]) (tmps : Array Value) (w : World) (g : Nat) (t : TypeId) (cs : Array Value) (fr : Nat × Nat) (d : TypeDesc)
    (hp : tmps.getD p undef = .pointer (some ⟨g, 0, none⟩)) (hg : w.heap[g]? = some (.cells cs t fr))
    (hu : P.underlying ty = some d) (hd : (match d with | .struct _ | .array _ _ => true | _ => false) = true) (hi : (P.info? ty).map (·.size) = some cs.size) :
    (results fn tmps).run P w = .ok (.tuple #[.agg cs, tmps.getD u undef]) w := by
  have hp' : tmps[p]?.getD undef = .pointer (some ⟨g, 0, none⟩) := by rw [← hp]; simp [Array.getD_eq_getD_getElem?]
  simp only [results, h]
  simp [Sem.run_bind, hp', asAddr, run_loadVar_row w g t ty cs fr d hg hu hd hi, Result.andThen]
theorem sz_q (q : QryL) : (Tryd.prog.info? 23).map (·.size) = some (qC q).size := by kernel_rfl
theorem keepE {W w1 w2 : World} (h : Below W.heap.size W w1) (h2 : Below w1.heap.size w1 w2) : Below W.heap.size W w2 := h.trans (h2.mono h.size)
theorem al_bel (w : World) (x : Obj) : Below w.heap.size w (w.alloc x) := (Below.refl _ _).alloc (Nat.le_refl _) x
theorem al_size (w : World) (x : Obj) : (w.alloc x).heap.size = w.heap.size + 1 := by show (w.heap.push _).size = _; simp
theorem lt_of {w : World} {b : Nat} {o : Obj} (h : w.heap[b]? = some o) : b < w.heap.size := (Array.getElem?_eq_some_iff.1 h).1
theorem cellJ {w : World} {b j : Nat} {cs : Array Value} {x : Value} {e : TypeId} {fr : Nat × Nat} (h : w.heap[b]? = some (.cells cs e fr)) (hx : cs[j]? = some x) : w.cell? ⟨b, j, none⟩ = some x := by simp [World.cell?, h, hx]
theorem freeJ {w : World} {b : Nat} {cs : Array Value} {e : TypeId} (h : w.heap[b]? = some (.cells cs e (0, 0))) (j : Nat) : w.frozen? ⟨b, j, none⟩ = false := by simp [World.frozen?, h]
theorem setJ {w : World} {b j : Nat} {cs : Array Value} {y : Value} {e : TypeId} {fr : Nat × Nat} (h : w.heap[b]? = some (.cells cs e fr)) : (w.setCell ⟨b, j, none⟩ y).heap[b]? = some (.cells (cs.setIfInBounds j y) e fr) := by
  simp [World.setCell, Array.getElem?_modify, h]
theorem set4_at {w : World} {b : Nat} {y0 y1 y2 y3 : Value} {t : TypeId} {fr : Nat × Nat} (h : w.heap[b]? = some (.cells #[y0, y1, y2, y3] t fr)) (x0 x1 x2 x3 : Value) : ((((w.setCell ⟨b, 0, none⟩ x0).setCell ⟨b, 1, none⟩ x1).setCell ⟨b, 2, none⟩ x2).setCell ⟨b, 3, none⟩ x3).heap[b]? = some (.cells #[x0, x1, x2, x3] t fr) :=
  setJ (setJ (setJ (setJ h)))
theorem bel_set {B : Nat} {W w : World} (h : Below B W w) {b : Nat} (hb : B ≤ b) (j : Nat) (v : Value) : Below B W (w.setCell ⟨b, j, none⟩ v) where
  os := h.os
  tape := h.tape
  output := h.output
  size := by have := h.size; simpa [World.setCell] using this
  block := fun k hk => by
    rw [← h.block k hk]
    simp [World.setCell, Array.getElem?_modify]
    intro e
    omega
theorem bel_set4 {B : Nat} {W w : World} (h : Below B W w) {b : Nat} (hb : B ≤ b) (x0 x1 x2 x3 : Value) : Below B W ((((w.setCell ⟨b, 0, none⟩ x0).setCell ⟨b, 1, none⟩ x1).setCell ⟨b, 2, none⟩ x2).setCell ⟨b, 3, none⟩ x3) :=
  bel_set (bel_set (bel_set (bel_set h hb _ _) hb _ _) hb _ _) hb _ _
theorem two_q (w : World) (A B : Obj) : ∃ W, (w.alloc A).alloc B = W ∧ W.heap[w.heap.size]? = some A ∧ W.heap[w.heap.size + 1]? = some B ∧ W.heap.size = w.heap.size + 2 ∧ Below w.heap.size w W :=
  ⟨_, rfl, heap_alloc2_old w A B, heap_alloc2_new w A B, by rw [al_size, al_size], keepE (al_bel w A) (al_bel _ B)⟩
/-- What a function that gives a query and a code leaves. -/
def QRes (w : World) (q : QryL) (c : Int) (e : Ending) (w' : World) : Prop := e = .returned (.tuple #[qV q, .int .i64 c]) ∧ Below w.heap.size w w'
/-- Its two blocks: what is asked, and what it answers. -/
structure QB (w W : World) (q : QryL) : Prop where
  box : W.heap[w.heap.size]? = some (.cells (qC q) 23 (0, 0))
  res : W.heap[w.heap.size + 1]? = some (.cells #[.int .i64 0, .string ⟨#[]⟩, .string ⟨#[]⟩, .int .i64 0] 23 (0, 0))
  bel : Below w.heap.size w W
theorem QB.below {w W W' : World} {q : QryL} (h : QB w W q) (hb : Below W.heap.size W W') : QB w W' q :=
  ⟨(hb.block _ (lt_of h.box)).trans h.box, (hb.block _ (lt_of h.res)).trans h.res, keepE h.bel hb⟩
theorem QB.drew {w W : World} {q : QryL} (h : QB w W q) : QB w W.drew q := ⟨h.box, h.res, h.bel.drew⟩
/-- What the walk reads and writes. -/
theorem QB.facts {w W : World} {q : QryL} (h : QB w W q) : (W.cell? ⟨w.heap.size, 0, none⟩ = some (.int .i64 q.db) ∧ W.cell? ⟨w.heap.size, 1, none⟩ = some (.string q.name) ∧ W.cell? ⟨w.heap.size, 2, none⟩ = some (.string q.proto) ∧ W.cell? ⟨w.heap.size, 3, none⟩ = some (.int .i64 q.port)) ∧
    (W.cell? ⟨w.heap.size + 1, 0, none⟩ = some (.int .i64 0) ∧ W.cell? ⟨w.heap.size + 1, 1, none⟩ = some (.string ⟨#[]⟩) ∧ W.cell? ⟨w.heap.size + 1, 2, none⟩ = some (.string ⟨#[]⟩) ∧ W.cell? ⟨w.heap.size + 1, 3, none⟩ = some (.int .i64 0)) ∧
    (W.frozen? ⟨w.heap.size + 1, 0, none⟩ = false ∧ W.frozen? ⟨w.heap.size + 1, 1, none⟩ = false ∧ W.frozen? ⟨w.heap.size + 1, 2, none⟩ = false ∧ W.frozen? ⟨w.heap.size + 1, 3, none⟩ = false) :=
  ⟨⟨cellJ h.box rfl, cellJ h.box rfl, cellJ h.box rfl, cellJ h.box rfl⟩, ⟨cellJ h.res rfl, cellJ h.res rfl, cellJ h.res rfl, cellJ h.res rfl⟩, ⟨freeJ h.res 0, freeJ h.res 1, freeJ h.res 2, freeJ h.res 3⟩⟩
theorem set4_ne {w : World} {b c : Nat} (h : c ≠ b) (x0 x1 x2 x3 : Value) : ((((w.setCell ⟨b, 0, none⟩ x0).setCell ⟨b, 1, none⟩ x1).setCell ⟨b, 2, none⟩ x2).setCell ⟨b, 3, none⟩ x3).heap[c]? = w.heap[c]? := by
  have hn : ∀ (W : World) (j : Nat) (v : Value), (W.setCell ⟨b, j, none⟩ v).heap[c]? = W.heap[c]? := fun W j v => by
    simp [World.setCell, Array.getElem?_modify]
    intro e
    omega
  rw [hn, hn, hn, hn]
/-- What is asked stands where it stood when the answer is written. -/
theorem QB.box4 {w W : World} {q : QryL} (h : QB w W q) (x0 x1 x2 x3 : Value) : ∀ W', ((((W.setCell ⟨w.heap.size + 1, 0, none⟩ x0).setCell ⟨w.heap.size + 1, 1, none⟩ x1).setCell ⟨w.heap.size + 1, 2, none⟩ x2).setCell ⟨w.heap.size + 1, 3, none⟩ x3) = W' → W'.cell? ⟨w.heap.size, 0, none⟩ = some (.int .i64 q.db) ∧ W'.cell? ⟨w.heap.size, 1, none⟩ = some (.string q.name) ∧ W'.cell? ⟨w.heap.size, 2, none⟩ = some (.string q.proto) ∧ W'.cell? ⟨w.heap.size, 3, none⟩ = some (.int .i64 q.port) := by
  rintro _ rfl
  have hb := (set4_ne (w := W) (b := w.heap.size + 1) (c := w.heap.size) (by omega) x0 x1 x2 x3).trans h.box
  exact ⟨cellJ hb rfl, cellJ hb rfl, cellJ hb rfl, cellJ hb rfl⟩
theorem sz_q4 : (Tryd.prog.info? 23).map (·.size) = some 4 := by kernel_rfl
theorem QB.made (w : World) (q : QryL) (W : World) (hW : (w.alloc (.cells (qC q) 23)).alloc (.cells #[.int .i64 0, .string ⟨#[]⟩, .string ⟨#[]⟩, .int .i64 0] 23) = W) : QB w W q := by
  obtain ⟨W', hW', h1, h2, _, h4⟩ := two_q w (.cells (qC q) 23) (.cells #[.int .i64 0, .string ⟨#[]⟩, .string ⟨#[]⟩, .int .i64 0] 23)
  rw [hW] at hW'
  subst hW'
  exact ⟨h1, h2, h4⟩
end Go.Proofs.YtaoapkbfcofamaaDoor

namespace Go.Proofs.YtaoapkbfcofamaaDoor
open Go.RowKit Go.Lib Go.Tx
theorem protoOK_nil {s : ByteArray} (h : s.data.toList = []) : protoOK s = true := by unfold protoOK; rw [decide_eq_true h]; rfl
theorem protoOK_yes {s : ByteArray} (h : protoB s.data.toList = true) : protoOK s = true := by unfold protoOK; rw [h]; simp
theorem protoOK_no {s : ByteArray} (h1 : s.data.toList ≠ []) (h : protoB s.data.toList = false) : protoOK s = false := by unfold protoOK; rw [h, decide_eq_false h1]; rfl
theorem emp_nil {s : ByteArray} (h : s.data.toList = []) : s.toList.isEmpty = true := by rw [Go.Lib.toList_data, h]; rfl
theorem emp_not {s : ByteArray} (h : s.data.toList ≠ []) : s.toList.isEmpty = false := by
  rw [Go.Lib.toList_data]
  cases hs : s.data.toList with
  | nil => exact absurd hs h
  | cons x l => rfl
set_option maxHeartbeats 4000000 in
set_option maxRecDepth 100000 in
theorem rc_name_true (nm pr : ByteArray) (po : Int) (hn : nameB (bare nm.data.toList) = true) (hr : isRoot nm.data.toList = true) (w : World) (hs : nm.size ≤ 1000000) (hp : pr.size ≤ 1000000) :
    Calls Tryd.prog 9 #[.agg #[.int .i64 1, .string nm, .string pr, .int .i64 po]] w (QRes w (checkP ⟨1, nm, pr, po⟩).1 (checkP ⟨1, nm, pr, po⟩).2) := by
  have HC : Hid (∀ W, Calls Tryd.prog 19 #[.string nm] W fun e w' => e = .returned (cleanV nm.data.toList) ∧ Below W.heap.size W w') := Lib.hid (fun W => rclean_any nm W hs)
  have HV : Hid (∀ W, Calls Tryd.prog 20 #[.string nm] W fun e w' => e = .returned (.bool (svcB nm.data.toList)) ∧ w' = W) := Lib.hid (fun W => rsvc_any nm W hs)
  have HPr : Hid (∀ W, Calls Tryd.prog 21 #[.string pr] W fun e w' => e = .returned (.bool (protoB pr.data.toList)) ∧ W = w') := Lib.hid (fun W => rproto_any pr W hp)
  have HF : Hid (∀ W, Calls Tryd.prog 22 #[.string pr] W fun e w' => e = .returned (.string (foldS pr)) ∧ Below W.heap.size W w') := Lib.hid (fun W => rfold_any pr W (by unfold maxLen; omega))
  have HQ : Hid (∀ W, (w.alloc (.cells #[.int .i64 1, .string nm, .string pr, .int .i64 po] 23)).alloc (.cells #[.int .i64 0, .string ⟨#[]⟩, .string ⟨#[]⟩, .int .i64 0] 23) = W → QB w W ⟨1, nm, pr, po⟩) := Lib.hid (fun W hW => QB.made w _ W hW)
  have HE : Hid (∃ r c, checkP ⟨1, nm, pr, po⟩ = (r, c) ∧ r = ⟨1, (⟨((bare nm.data.toList).map low).toArray⟩ : ByteArray) ++ ⟨#[46]⟩, ⟨#[]⟩, 0⟩ ∧ c = 0) := Lib.hid (by
    unfold checkP askS
    rw [if_pos rfl, if_pos hn, hr]
    exact ⟨_, _, rfl, rfl, rfl⟩)
  obtain ⟨r, c, he, hr, hc⟩ := HE.out
  rw [he]
  dsimp only
  rw [hr, hc]
  clear he hr hc r c HE hp
  go_enter Tryd.func9, Tryd.ntmps9
  go_upto_region 1 with (fail)
  obtain ⟨W, hW⟩ : ∃ W, (w.alloc (.cells #[.int .i64 1, .string nm, .string pr, .int .i64 po] 23)).alloc (.cells #[.int .i64 0, .string ⟨#[]⟩, .string ⟨#[]⟩, .int .i64 0] 23) = W := ⟨_, rfl⟩
  have HB := Lib.hid (HQ.out W hW)
  rw [hW]
  clear hW HQ
  obtain ⟨⟨a0, a1, a2, a3⟩, ⟨d0, d1, d2, d3⟩, ⟨g0, g1, g2, g3⟩⟩ := HB.out.facts
  unfold cleanV at HC
  rw [if_pos hn, hr] at HC
  have hbl : ¬ 9223372036854775807 < (bare nm.data.toList).length + 1 := by have := bare_len nm.data.toList; have : nm.data.toList.length = nm.size := rfl; omega
  generalize bare nm.data.toList = bl at *
  clear hn hr
  go_wp2_with (first | (go_at_call 19; refine (HC.out _).mono ?_; rintro e w2 ⟨rfl, hb⟩; have HB2 := Lib.hid (HB.out.below hb); obtain ⟨⟨b0, b1, b2, b3⟩, ⟨c0, c1, c2, c3⟩, ⟨f0, f1, f2, f3⟩⟩ := HB2.out.facts; clear hb) | (go_at_call 20; refine (HV.out _).mono ?_; rintro e w2 ⟨rfl, rfl⟩) | (go_at_call 21; refine (HPr.out _).mono ?_; rintro e w2 ⟨rfl, rfl⟩))
  refine bodyPost_ret (results_row2 rfl _ _ (w.heap.size + 1) _ _ _ _ rfl (set4_at HB2.out.res _ _ _ _) Tryd.underlying23 rfl sz_q4) rfl ?_
  exact ⟨rfl, bel_set4 HB2.out.bel (Nat.le_succ _) _ _ _ _⟩
set_option maxHeartbeats 4000000 in
set_option maxRecDepth 100000 in
theorem rc_name_false (nm pr : ByteArray) (po : Int) (hn : nameB (bare nm.data.toList) = true) (hr : isRoot nm.data.toList = false) (w : World) (hs : nm.size ≤ 1000000) (hp : pr.size ≤ 1000000) :
    Calls Tryd.prog 9 #[.agg #[.int .i64 1, .string nm, .string pr, .int .i64 po]] w (QRes w (checkP ⟨1, nm, pr, po⟩).1 (checkP ⟨1, nm, pr, po⟩).2) := by
  have HC : Hid (∀ W, Calls Tryd.prog 19 #[.string nm] W fun e w' => e = .returned (cleanV nm.data.toList) ∧ Below W.heap.size W w') := Lib.hid (fun W => rclean_any nm W hs)
  have HV : Hid (∀ W, Calls Tryd.prog 20 #[.string nm] W fun e w' => e = .returned (.bool (svcB nm.data.toList)) ∧ w' = W) := Lib.hid (fun W => rsvc_any nm W hs)
  have HPr : Hid (∀ W, Calls Tryd.prog 21 #[.string pr] W fun e w' => e = .returned (.bool (protoB pr.data.toList)) ∧ W = w') := Lib.hid (fun W => rproto_any pr W hp)
  have HF : Hid (∀ W, Calls Tryd.prog 22 #[.string pr] W fun e w' => e = .returned (.string (foldS pr)) ∧ Below W.heap.size W w') := Lib.hid (fun W => rfold_any pr W (by unfold maxLen; omega))
  have HQ : Hid (∀ W, (w.alloc (.cells #[.int .i64 1, .string nm, .string pr, .int .i64 po] 23)).alloc (.cells #[.int .i64 0, .string ⟨#[]⟩, .string ⟨#[]⟩, .int .i64 0] 23) = W → QB w W ⟨1, nm, pr, po⟩) := Lib.hid (fun W hW => QB.made w _ W hW)
  have HE : Hid (∃ r c, checkP ⟨1, nm, pr, po⟩ = (r, c) ∧ r = ⟨1, ⟨((bare nm.data.toList).map low).toArray⟩, ⟨#[]⟩, 0⟩ ∧ c = 0) := Lib.hid (by
    unfold checkP askS
    rw [if_pos rfl, if_pos hn, hr]
    exact ⟨_, _, rfl, rfl, rfl⟩)
  obtain ⟨r, c, he, hr, hc⟩ := HE.out
  rw [he]
  dsimp only
  rw [hr, hc]
  clear he hr hc r c HE hp
  go_enter Tryd.func9, Tryd.ntmps9
  go_upto_region 1 with (fail)
  obtain ⟨W, hW⟩ : ∃ W, (w.alloc (.cells #[.int .i64 1, .string nm, .string pr, .int .i64 po] 23)).alloc (.cells #[.int .i64 0, .string ⟨#[]⟩, .string ⟨#[]⟩, .int .i64 0] 23) = W := ⟨_, rfl⟩
  have HB := Lib.hid (HQ.out W hW)
  rw [hW]
  clear hW HQ
  obtain ⟨⟨a0, a1, a2, a3⟩, ⟨d0, d1, d2, d3⟩, ⟨g0, g1, g2, g3⟩⟩ := HB.out.facts
  unfold cleanV at HC
  rw [if_pos hn, hr] at HC
  have hbl : ¬ 9223372036854775807 < (bare nm.data.toList).length + 1 := by have := bare_len nm.data.toList; have : nm.data.toList.length = nm.size := rfl; omega
  generalize bare nm.data.toList = bl at *
  clear hn hr
  go_wp2_with (first | (go_at_call 19; refine (HC.out _).mono ?_; rintro e w2 ⟨rfl, hb⟩; have HB2 := Lib.hid (HB.out.below hb); obtain ⟨⟨b0, b1, b2, b3⟩, ⟨c0, c1, c2, c3⟩, ⟨f0, f1, f2, f3⟩⟩ := HB2.out.facts; clear hb) | (go_at_call 20; refine (HV.out _).mono ?_; rintro e w2 ⟨rfl, rfl⟩) | (go_at_call 21; refine (HPr.out _).mono ?_; rintro e w2 ⟨rfl, rfl⟩))
  refine bodyPost_ret (results_row2 rfl _ _ (w.heap.size + 1) _ _ _ _ rfl (set4_at HB2.out.res _ _ _ _) Tryd.underlying23 rfl sz_q4) rfl ?_
  exact ⟨rfl, bel_set4 HB2.out.bel (Nat.le_succ _) _ _ _ _⟩
set_option maxHeartbeats 4000000 in
set_option maxRecDepth 100000 in
theorem rc_name_bad (nm pr : ByteArray) (po : Int) (hn : ¬ nameB (bare nm.data.toList) = true) (w : World) (hs : nm.size ≤ 1000000) (hp : pr.size ≤ 1000000) :
    Calls Tryd.prog 9 #[.agg #[.int .i64 1, .string nm, .string pr, .int .i64 po]] w (QRes w (checkP ⟨1, nm, pr, po⟩).1 (checkP ⟨1, nm, pr, po⟩).2) := by
  have HC : Hid (∀ W, Calls Tryd.prog 19 #[.string nm] W fun e w' => e = .returned (cleanV nm.data.toList) ∧ Below W.heap.size W w') := Lib.hid (fun W => rclean_any nm W hs)
  have HV : Hid (∀ W, Calls Tryd.prog 20 #[.string nm] W fun e w' => e = .returned (.bool (svcB nm.data.toList)) ∧ w' = W) := Lib.hid (fun W => rsvc_any nm W hs)
  have HPr : Hid (∀ W, Calls Tryd.prog 21 #[.string pr] W fun e w' => e = .returned (.bool (protoB pr.data.toList)) ∧ W = w') := Lib.hid (fun W => rproto_any pr W hp)
  have HF : Hid (∀ W, Calls Tryd.prog 22 #[.string pr] W fun e w' => e = .returned (.string (foldS pr)) ∧ Below W.heap.size W w') := Lib.hid (fun W => rfold_any pr W (by unfold maxLen; omega))
  have HQ : Hid (∀ W, (w.alloc (.cells #[.int .i64 1, .string nm, .string pr, .int .i64 po] 23)).alloc (.cells #[.int .i64 0, .string ⟨#[]⟩, .string ⟨#[]⟩, .int .i64 0] 23) = W → QB w W ⟨1, nm, pr, po⟩) := Lib.hid (fun W hW => QB.made w _ W hW)
  have HE : Hid (∃ r c, checkP ⟨1, nm, pr, po⟩ = (r, c) ∧ r = zQ ∧ c = 6) := Lib.hid (by
    unfold checkP
    rw [if_pos rfl, if_neg hn]
    exact ⟨_, _, rfl, rfl, rfl⟩)
  obtain ⟨r, c, he, hr, hc⟩ := HE.out
  rw [he]
  dsimp only
  rw [hr, hc]
  clear he hr hc r c HE hp
  go_enter Tryd.func9, Tryd.ntmps9
  go_upto_region 1 with (fail)
  obtain ⟨W, hW⟩ : ∃ W, (w.alloc (.cells #[.int .i64 1, .string nm, .string pr, .int .i64 po] 23)).alloc (.cells #[.int .i64 0, .string ⟨#[]⟩, .string ⟨#[]⟩, .int .i64 0] 23) = W := ⟨_, rfl⟩
  have HB := Lib.hid (HQ.out W hW)
  rw [hW]
  clear hW HQ
  obtain ⟨⟨a0, a1, a2, a3⟩, ⟨d0, d1, d2, d3⟩, ⟨g0, g1, g2, g3⟩⟩ := HB.out.facts
  unfold cleanV at HC
  rw [if_neg hn] at HC
  clear hn
  go_wp2_with (first | (go_at_call 19; refine (HC.out _).mono ?_; rintro e w2 ⟨rfl, hb⟩; have HB2 := Lib.hid (HB.out.below hb); obtain ⟨⟨b0, b1, b2, b3⟩, ⟨c0, c1, c2, c3⟩, ⟨f0, f1, f2, f3⟩⟩ := HB2.out.facts; clear hb) | (go_at_call 20; refine (HV.out _).mono ?_; rintro e w2 ⟨rfl, rfl⟩) | (go_at_call 21; refine (HPr.out _).mono ?_; rintro e w2 ⟨rfl, rfl⟩))
  refine bodyPost_ret (results_row2 rfl _ _ (w.heap.size + 1) _ _ _ _ rfl (set4_at HB2.out.res _ _ _ _) Tryd.underlying23 rfl sz_q4) rfl ?_
  exact ⟨rfl, bel_set4 HB2.out.bel (Nat.le_succ _) _ _ _ _⟩
set_option maxHeartbeats 4000000 in
set_option maxRecDepth 100000 in
theorem rc_addr_4 (nm pr : ByteArray) (po : Int) (hz : nm.size = 4) (w : World) (hs : nm.size ≤ 1000000) (hp : pr.size ≤ 1000000) :
    Calls Tryd.prog 9 #[.agg #[.int .i64 2, .string nm, .string pr, .int .i64 po]] w (QRes w (checkP ⟨2, nm, pr, po⟩).1 (checkP ⟨2, nm, pr, po⟩).2) := by
  have HC : Hid (∀ W, Calls Tryd.prog 19 #[.string nm] W fun e w' => e = .returned (cleanV nm.data.toList) ∧ Below W.heap.size W w') := Lib.hid (fun W => rclean_any nm W hs)
  have HV : Hid (∀ W, Calls Tryd.prog 20 #[.string nm] W fun e w' => e = .returned (.bool (svcB nm.data.toList)) ∧ w' = W) := Lib.hid (fun W => rsvc_any nm W hs)
  have HPr : Hid (∀ W, Calls Tryd.prog 21 #[.string pr] W fun e w' => e = .returned (.bool (protoB pr.data.toList)) ∧ W = w') := Lib.hid (fun W => rproto_any pr W hp)
  have HF : Hid (∀ W, Calls Tryd.prog 22 #[.string pr] W fun e w' => e = .returned (.string (foldS pr)) ∧ Below W.heap.size W w') := Lib.hid (fun W => rfold_any pr W (by unfold maxLen; omega))
  have HQ : Hid (∀ W, (w.alloc (.cells #[.int .i64 2, .string nm, .string pr, .int .i64 po] 23)).alloc (.cells #[.int .i64 0, .string ⟨#[]⟩, .string ⟨#[]⟩, .int .i64 0] 23) = W → QB w W ⟨2, nm, pr, po⟩) := Lib.hid (fun W hW => QB.made w _ W hW)
  have HE : Hid (∃ r c, checkP ⟨2, nm, pr, po⟩ = (r, c) ∧ r = ⟨2, nm, ⟨#[]⟩, 0⟩ ∧ c = 0) := Lib.hid (by
    unfold checkP
    rw [if_neg (by simp), if_pos rfl, if_pos (by show nm.size = 4 ∨ nm.size = 16; omega)]
    exact ⟨_, _, rfl, rfl, rfl⟩)
  obtain ⟨r, c, he, hr, hc⟩ := HE.out
  rw [he]
  dsimp only
  rw [hr, hc]
  clear he hr hc r c HE hp
  go_enter Tryd.func9, Tryd.ntmps9
  go_upto_region 1 with (fail)
  obtain ⟨W, hW⟩ : ∃ W, (w.alloc (.cells #[.int .i64 2, .string nm, .string pr, .int .i64 po] 23)).alloc (.cells #[.int .i64 0, .string ⟨#[]⟩, .string ⟨#[]⟩, .int .i64 0] 23) = W := ⟨_, rfl⟩
  have HB := Lib.hid (HQ.out W hW)
  rw [hW]
  clear hW HQ
  obtain ⟨⟨a0, a1, a2, a3⟩, ⟨d0, d1, d2, d3⟩, ⟨g0, g1, g2, g3⟩⟩ := HB.out.facts
  have hz1 : (nm.size : Int) = 4 := by omega
  clear hz
  go_wp2_with (first | (go_at_call 19; refine (HC.out _).mono ?_; rintro e w2 ⟨rfl, hb⟩; have HB2 := Lib.hid (HB.out.below hb); obtain ⟨⟨b0, b1, b2, b3⟩, ⟨c0, c1, c2, c3⟩, ⟨f0, f1, f2, f3⟩⟩ := HB2.out.facts; clear hb) | (go_at_call 20; refine (HV.out _).mono ?_; rintro e w2 ⟨rfl, rfl⟩) | (go_at_call 21; refine (HPr.out _).mono ?_; rintro e w2 ⟨rfl, rfl⟩))
  refine bodyPost_ret (results_row2 rfl _ _ (w.heap.size + 1) _ _ _ _ rfl (set4_at HB.out.res _ _ _ _) Tryd.underlying23 rfl sz_q4) rfl ?_
  exact ⟨rfl, bel_set4 HB.out.bel (Nat.le_succ _) _ _ _ _⟩
set_option maxHeartbeats 4000000 in
set_option maxRecDepth 100000 in
theorem rc_addr_16 (nm pr : ByteArray) (po : Int) (hz : nm.size = 16) (w : World) (hs : nm.size ≤ 1000000) (hp : pr.size ≤ 1000000) :
    Calls Tryd.prog 9 #[.agg #[.int .i64 2, .string nm, .string pr, .int .i64 po]] w (QRes w (checkP ⟨2, nm, pr, po⟩).1 (checkP ⟨2, nm, pr, po⟩).2) := by
  have HC : Hid (∀ W, Calls Tryd.prog 19 #[.string nm] W fun e w' => e = .returned (cleanV nm.data.toList) ∧ Below W.heap.size W w') := Lib.hid (fun W => rclean_any nm W hs)
  have HV : Hid (∀ W, Calls Tryd.prog 20 #[.string nm] W fun e w' => e = .returned (.bool (svcB nm.data.toList)) ∧ w' = W) := Lib.hid (fun W => rsvc_any nm W hs)
  have HPr : Hid (∀ W, Calls Tryd.prog 21 #[.string pr] W fun e w' => e = .returned (.bool (protoB pr.data.toList)) ∧ W = w') := Lib.hid (fun W => rproto_any pr W hp)
  have HF : Hid (∀ W, Calls Tryd.prog 22 #[.string pr] W fun e w' => e = .returned (.string (foldS pr)) ∧ Below W.heap.size W w') := Lib.hid (fun W => rfold_any pr W (by unfold maxLen; omega))
  have HQ : Hid (∀ W, (w.alloc (.cells #[.int .i64 2, .string nm, .string pr, .int .i64 po] 23)).alloc (.cells #[.int .i64 0, .string ⟨#[]⟩, .string ⟨#[]⟩, .int .i64 0] 23) = W → QB w W ⟨2, nm, pr, po⟩) := Lib.hid (fun W hW => QB.made w _ W hW)
  have HE : Hid (∃ r c, checkP ⟨2, nm, pr, po⟩ = (r, c) ∧ r = ⟨2, nm, ⟨#[]⟩, 0⟩ ∧ c = 0) := Lib.hid (by
    unfold checkP
    rw [if_neg (by simp), if_pos rfl, if_pos (by show nm.size = 4 ∨ nm.size = 16; omega)]
    exact ⟨_, _, rfl, rfl, rfl⟩)
  obtain ⟨r, c, he, hr, hc⟩ := HE.out
  rw [he]
  dsimp only
  rw [hr, hc]
  clear he hr hc r c HE hp
  go_enter Tryd.func9, Tryd.ntmps9
  go_upto_region 1 with (fail)
  obtain ⟨W, hW⟩ : ∃ W, (w.alloc (.cells #[.int .i64 2, .string nm, .string pr, .int .i64 po] 23)).alloc (.cells #[.int .i64 0, .string ⟨#[]⟩, .string ⟨#[]⟩, .int .i64 0] 23) = W := ⟨_, rfl⟩
  have HB := Lib.hid (HQ.out W hW)
  rw [hW]
  clear hW HQ
  obtain ⟨⟨a0, a1, a2, a3⟩, ⟨d0, d1, d2, d3⟩, ⟨g0, g1, g2, g3⟩⟩ := HB.out.facts
  have hz1 : (nm.size : Int) = 16 := by omega
  clear hz
  go_wp2_with (first | (go_at_call 19; refine (HC.out _).mono ?_; rintro e w2 ⟨rfl, hb⟩; have HB2 := Lib.hid (HB.out.below hb); obtain ⟨⟨b0, b1, b2, b3⟩, ⟨c0, c1, c2, c3⟩, ⟨f0, f1, f2, f3⟩⟩ := HB2.out.facts; clear hb) | (go_at_call 20; refine (HV.out _).mono ?_; rintro e w2 ⟨rfl, rfl⟩) | (go_at_call 21; refine (HPr.out _).mono ?_; rintro e w2 ⟨rfl, rfl⟩))
  refine bodyPost_ret (results_row2 rfl _ _ (w.heap.size + 1) _ _ _ _ rfl (set4_at HB.out.res _ _ _ _) Tryd.underlying23 rfl sz_q4) rfl ?_
  exact ⟨rfl, bel_set4 HB.out.bel (Nat.le_succ _) _ _ _ _⟩
set_option maxHeartbeats 4000000 in
set_option maxRecDepth 100000 in
theorem rc_addr_bad (nm pr : ByteArray) (po : Int) (h4 : ¬ nm.size = 4) (h16 : ¬ nm.size = 16) (w : World) (hs : nm.size ≤ 1000000) (hp : pr.size ≤ 1000000) :
    Calls Tryd.prog 9 #[.agg #[.int .i64 2, .string nm, .string pr, .int .i64 po]] w (QRes w (checkP ⟨2, nm, pr, po⟩).1 (checkP ⟨2, nm, pr, po⟩).2) := by
  have HC : Hid (∀ W, Calls Tryd.prog 19 #[.string nm] W fun e w' => e = .returned (cleanV nm.data.toList) ∧ Below W.heap.size W w') := Lib.hid (fun W => rclean_any nm W hs)
  have HV : Hid (∀ W, Calls Tryd.prog 20 #[.string nm] W fun e w' => e = .returned (.bool (svcB nm.data.toList)) ∧ w' = W) := Lib.hid (fun W => rsvc_any nm W hs)
  have HPr : Hid (∀ W, Calls Tryd.prog 21 #[.string pr] W fun e w' => e = .returned (.bool (protoB pr.data.toList)) ∧ W = w') := Lib.hid (fun W => rproto_any pr W hp)
  have HF : Hid (∀ W, Calls Tryd.prog 22 #[.string pr] W fun e w' => e = .returned (.string (foldS pr)) ∧ Below W.heap.size W w') := Lib.hid (fun W => rfold_any pr W (by unfold maxLen; omega))
  have HQ : Hid (∀ W, (w.alloc (.cells #[.int .i64 2, .string nm, .string pr, .int .i64 po] 23)).alloc (.cells #[.int .i64 0, .string ⟨#[]⟩, .string ⟨#[]⟩, .int .i64 0] 23) = W → QB w W ⟨2, nm, pr, po⟩) := Lib.hid (fun W hW => QB.made w _ W hW)
  have HE : Hid (∃ r c, checkP ⟨2, nm, pr, po⟩ = (r, c) ∧ r = zQ ∧ c = 7) := Lib.hid (by
    unfold checkP
    rw [if_neg (by simp), if_pos rfl, if_neg (by show ¬ (nm.size = 4 ∨ nm.size = 16); omega)]
    exact ⟨_, _, rfl, rfl, rfl⟩)
  obtain ⟨r, c, he, hr, hc⟩ := HE.out
  rw [he]
  dsimp only
  rw [hr, hc]
  clear he hr hc r c HE hp
  go_enter Tryd.func9, Tryd.ntmps9
  go_upto_region 1 with (fail)
  obtain ⟨W, hW⟩ : ∃ W, (w.alloc (.cells #[.int .i64 2, .string nm, .string pr, .int .i64 po] 23)).alloc (.cells #[.int .i64 0, .string ⟨#[]⟩, .string ⟨#[]⟩, .int .i64 0] 23) = W := ⟨_, rfl⟩
  have HB := Lib.hid (HQ.out W hW)
  rw [hW]
  clear hW HQ
  obtain ⟨⟨a0, a1, a2, a3⟩, ⟨d0, d1, d2, d3⟩, ⟨g0, g1, g2, g3⟩⟩ := HB.out.facts
  have hz1 : ((nm.size : Int) != 4) = true := by simp; omega
  have hz2 : ((nm.size : Int) != 16) = true := by simp; omega
  clear h4 h16
  go_wp2_with (first | (go_at_call 19; refine (HC.out _).mono ?_; rintro e w2 ⟨rfl, hb⟩; have HB2 := Lib.hid (HB.out.below hb); obtain ⟨⟨b0, b1, b2, b3⟩, ⟨c0, c1, c2, c3⟩, ⟨f0, f1, f2, f3⟩⟩ := HB2.out.facts; clear hb) | (go_at_call 20; refine (HV.out _).mono ?_; rintro e w2 ⟨rfl, rfl⟩) | (go_at_call 21; refine (HPr.out _).mono ?_; rintro e w2 ⟨rfl, rfl⟩))
  refine bodyPost_ret (results_row2 rfl _ _ (w.heap.size + 1) _ _ _ _ rfl (set4_at HB.out.res _ _ _ _) Tryd.underlying23 rfl sz_q4) rfl ?_
  exact ⟨rfl, bel_set4 HB.out.bel (Nat.le_succ _) _ _ _ _⟩
set_option maxHeartbeats 4000000 in
set_option maxRecDepth 100000 in
theorem rc_svc_none (nm pr : ByteArray) (po : Int) (hv : svcB nm.data.toList = true) (hq : pr.data.toList = []) (w : World) (hs : nm.size ≤ 1000000) (hp : pr.size ≤ 1000000) :
    Calls Tryd.prog 9 #[.agg #[.int .i64 3, .string nm, .string pr, .int .i64 po]] w (QRes w (checkP ⟨3, nm, pr, po⟩).1 (checkP ⟨3, nm, pr, po⟩).2) := by
  have HC : Hid (∀ W, Calls Tryd.prog 19 #[.string nm] W fun e w' => e = .returned (cleanV nm.data.toList) ∧ Below W.heap.size W w') := Lib.hid (fun W => rclean_any nm W hs)
  have HV : Hid (∀ W, Calls Tryd.prog 20 #[.string nm] W fun e w' => e = .returned (.bool (svcB nm.data.toList)) ∧ w' = W) := Lib.hid (fun W => rsvc_any nm W hs)
  have HPr : Hid (∀ W, Calls Tryd.prog 21 #[.string pr] W fun e w' => e = .returned (.bool (protoB pr.data.toList)) ∧ W = w') := Lib.hid (fun W => rproto_any pr W hp)
  have HF : Hid (∀ W, Calls Tryd.prog 22 #[.string pr] W fun e w' => e = .returned (.string (foldS pr)) ∧ Below W.heap.size W w') := Lib.hid (fun W => rfold_any pr W (by unfold maxLen; omega))
  have HQ : Hid (∀ W, (w.alloc (.cells #[.int .i64 3, .string nm, .string pr, .int .i64 po] 23)).alloc (.cells #[.int .i64 0, .string ⟨#[]⟩, .string ⟨#[]⟩, .int .i64 0] 23) = W → QB w W ⟨3, nm, pr, po⟩) := Lib.hid (fun W hW => QB.made w _ W hW)
  have HE : Hid (∃ r c, checkP ⟨3, nm, pr, po⟩ = (r, c) ∧ r = ⟨3, nm, foldS pr, 0⟩ ∧ c = 0) := Lib.hid (by
    unfold checkP
    rw [if_neg (by simp), if_neg (by simp), if_pos rfl, if_pos hv, if_pos (protoOK_nil hq)]
    exact ⟨_, _, rfl, rfl, rfl⟩)
  obtain ⟨r, c, he, hr, hc⟩ := HE.out
  rw [he]
  dsimp only
  rw [hr, hc]
  clear he hr hc r c HE hp
  go_enter Tryd.func9, Tryd.ntmps9
  go_upto_region 1 with (fail)
  obtain ⟨W, hW⟩ : ∃ W, (w.alloc (.cells #[.int .i64 3, .string nm, .string pr, .int .i64 po] 23)).alloc (.cells #[.int .i64 0, .string ⟨#[]⟩, .string ⟨#[]⟩, .int .i64 0] 23) = W := ⟨_, rfl⟩
  have HB := Lib.hid (HQ.out W hW)
  rw [hW]
  clear hW HQ
  obtain ⟨⟨a0, a1, a2, a3⟩, ⟨d0, d1, d2, d3⟩, ⟨g0, g1, g2, g3⟩⟩ := HB.out.facts
  rw [hv] at HV
  have hqe : pr.toList.isEmpty = true := emp_nil hq
  clear hv hq
  go_upto_region 18 with (first | (go_at_call 19; refine (HC.out _).mono ?_; rintro e w2 ⟨rfl, hb⟩; have HB2 := Lib.hid (HB.out.below hb); obtain ⟨⟨b0, b1, b2, b3⟩, ⟨c0, c1, c2, c3⟩, ⟨f0, f1, f2, f3⟩⟩ := HB2.out.facts; clear hb) | (go_at_call 20; refine (HV.out _).mono ?_; rintro e w2 ⟨rfl, rfl⟩) | (go_at_call 21; refine (HPr.out _).mono ?_; rintro e w2 ⟨rfl, rfl⟩))
  refine wp_region_held_drew (S := fun W => (W.cell? ⟨w.heap.size, 0, none⟩ = some (.int .i64 3) ∧ W.cell? ⟨w.heap.size, 1, none⟩ = some (.string nm) ∧ W.cell? ⟨w.heap.size, 2, none⟩ = some (.string pr) ∧ W.cell? ⟨w.heap.size, 3, none⟩ = some (.int .i64 po))) (by kernel_rfl) (⟨a0, a1, a2, a3⟩) (fun hHeld => ?_)
  try simp only [Act.put, List.setIfInBounds_toArray, List.set_cons_zero, List.set_cons_succ]
  refine wpAnyH_take (i := 0) (oi := { dst := some 63, op := Op.fieldAddr 23 (Operand.tmp 1) 0, type := 0, pos := "ref.go:426", after := #[], guard := none }) (v := ?_) rfl (by kernel_rfl) (by kernel_rfl) (by kernel_rfl) (fun _ _ _ h => h) (Or.inl ⟨by rfl, ?_⟩) (by assumption) ?_
  rotate_left 1
  · (intro w hSw; (try dsimp only at hSw); go_simp; all_goals (first | with_reducible rfl | (simp; done)))
  try simp only [Act.put, List.setIfInBounds_toArray, List.set_cons_zero, List.set_cons_succ]
  refine wpAnyH_take (i := 1) (oi := { dst := some 64, op := Op.load 3 (Operand.tmp 63), type := 3, pos := "ref.go:426", after := #[{ on := 0, ground := Ground.data }], guard := none }) (v := ?_) rfl (by kernel_rfl) (by kernel_rfl) (by kernel_rfl) (fun _ _ _ h => h) (Or.inl ⟨by rfl, ?_⟩) (by assumption) ?_
  rotate_left 1
  · (intro w hSw; (try dsimp only at hSw); go_simp; all_goals (first | with_reducible rfl | (simp; done)))
  try simp only [Act.put, List.setIfInBounds_toArray, List.set_cons_zero, List.set_cons_succ]
  refine wpAnyH_take (i := 2) (oi := { dst := some 65, op := Op.fieldAddr 23 (Operand.tmp 1) 1, type := 0, pos := "ref.go:426", after := #[], guard := none }) (v := ?_) rfl (by kernel_rfl) (by kernel_rfl) (by kernel_rfl) (fun _ _ _ h => h) (Or.inl ⟨by rfl, ?_⟩) (by assumption) ?_
  rotate_left 1
  · (intro w hSw; (try dsimp only at hSw); go_simp; all_goals (first | with_reducible rfl | (simp; done)))
  try simp only [Act.put, List.setIfInBounds_toArray, List.set_cons_zero, List.set_cons_succ]
  refine wpAnyH_take (i := 3) (oi := { dst := some 66, op := Op.load 9 (Operand.tmp 65), type := 9, pos := "ref.go:426", after := #[{ on := 2, ground := Ground.data }], guard := none }) (v := ?_) rfl (by kernel_rfl) (by kernel_rfl) (by kernel_rfl) (fun _ _ _ h => h) (Or.inl ⟨by rfl, ?_⟩) (by assumption) ?_
  rotate_left 1
  · (intro w hSw; (try dsimp only at hSw); go_simp; all_goals (first | with_reducible rfl | (simp; done)))
  try simp only [Act.put, List.setIfInBounds_toArray, List.set_cons_zero, List.set_cons_succ]
  refine wpAnyH_take (i := 4) (oi := { dst := some 67, op := Op.fieldAddr 23 (Operand.tmp 1) 2, type := 0, pos := "ref.go:426", after := #[], guard := none }) (v := ?_) rfl (by kernel_rfl) (by kernel_rfl) (by kernel_rfl) (fun _ _ _ h => h) (Or.inl ⟨by rfl, ?_⟩) (by assumption) ?_
  rotate_left 1
  · (intro w hSw; (try dsimp only at hSw); go_simp; all_goals (first | with_reducible rfl | (simp; done)))
  try simp only [Act.put, List.setIfInBounds_toArray, List.set_cons_zero, List.set_cons_succ]
  refine wpAnyH_take (i := 5) (oi := { dst := some 68, op := Op.load 9 (Operand.tmp 67), type := 9, pos := "ref.go:426", after := #[{ on := 4, ground := Ground.data }], guard := none }) (v := ?_) rfl (by kernel_rfl) (by kernel_rfl) (by kernel_rfl) (fun _ _ _ h => h) (Or.inl ⟨by rfl, ?_⟩) (by assumption) ?_
  rotate_left 1
  · (intro w hSw; (try dsimp only at hSw); go_simp; all_goals (first | with_reducible rfl | (simp; done)))
  try simp only [Act.put, List.setIfInBounds_toArray, List.set_cons_zero, List.set_cons_succ]
  refine wpAnyH_ready (rs := [6]) (by kernel_rfl) (by simp) ?_
  refine AllReadyH.cons (o := { dst := some 69, op := Op.call { callee := Callee.value (Operand.func 22), args := #[Operand.tmp 68], argTypes := #[9] }, type := 9, pos := "ref.go:426", after := #[{ on := 5, ground := Ground.data }], guard := none }) rfl (fun K hK => ?_) AllReadyH.nil
  go_simp
  go_at_call 22
  refine (HF.out _).mono ?_
  rintro e w2 ⟨rfl, hb⟩
  have HB2 := Lib.hid (HB.out.drew.below hb)
  obtain ⟨⟨b0, b1, b2, b3⟩, ⟨c0, c1, c2, c3⟩, ⟨f0, f1, f2, f3⟩⟩ := HB2.out.facts
  clear hb
  try go_wp2_with fail
  refine hK.out _ _ ?_ (fun hHeld => ?_)
  · ((try dsimp only); exact ⟨b0, b1, b2, b3⟩)
  clear hK K
  try simp only [Act.put, List.setIfInBounds_toArray, List.set_cons_zero, List.set_cons_succ]
  refine wpAnyH_take (i := 7) (oi := { dst := some 70, op := Op.build 23 #[(0, Operand.tmp 64), (1, Operand.tmp 66), (2, Operand.tmp 69)], type := 23, pos := "ref.go:426", after := #[{ on := 1, ground := Ground.data }, { on := 3, ground := Ground.data }, { on := 6, ground := Ground.data }], guard := none }) (v := ?_) rfl (by kernel_rfl) (by kernel_rfl) (by kernel_rfl) (fun _ _ _ h => h) (Or.inl ⟨by rfl, ?_⟩) (by assumption) ?_
  rotate_left 1
  · (intro w hSw; (try dsimp only at hSw); go_simp; all_goals (first | with_reducible rfl | (simp; done)))
  try simp only [Act.put, List.setIfInBounds_toArray, List.set_cons_zero, List.set_cons_succ]
  refine wpAnyH_ready (rs := [8]) (by kernel_rfl) (by simp) ?_
  refine AllReadyH.cons (o := { dst := none, op := Op.store 23 (Operand.tmp 2) (Operand.tmp 70), type := 0, pos := "ref.go:426", after := #[{ on := 7, ground := Ground.data }, { on := 6, ground := Ground.chain }, { on := 0, ground := Ground.phase }, { on := 1, ground := Ground.phase }, { on := 2, ground := Ground.phase }, { on := 3, ground := Ground.phase }, { on := 4, ground := Ground.phase }, { on := 5, ground := Ground.phase }, { on := 6, ground := Ground.phase }, { on := 7, ground := Ground.phase }], guard := none }) rfl (fun K hK => ?_) AllReadyH.nil
  go_simp
  refine hK.out _ _ ?_ (fun hHeld => ?_)
  · ((try dsimp only); exact HB2.out.box4 _ _ _ _ _ rfl)
  clear hK K
  try simp only [Act.put, List.setIfInBounds_toArray, List.set_cons_zero, List.set_cons_succ]
  refine wpAnyH_take (i := 9) (oi := { dst := some 3, op := Op.assign (Operand.const (Value.int IntKind.i64 0)), type := 30, pos := "ref.go:426", after := #[{ on := 8, ground := Ground.chain }, { on := 0, ground := Ground.phase }, { on := 1, ground := Ground.phase }, { on := 2, ground := Ground.phase }, { on := 3, ground := Ground.phase }, { on := 4, ground := Ground.phase }, { on := 5, ground := Ground.phase }, { on := 6, ground := Ground.phase }, { on := 7, ground := Ground.phase }, { on := 8, ground := Ground.phase }], guard := none }) (v := ?_) rfl (by kernel_rfl) (by kernel_rfl) (by kernel_rfl) (fun _ _ _ h => h) (Or.inl ⟨by rfl, ?_⟩) (by assumption) ?_
  rotate_left 1
  · (intro w hSw; (try dsimp only at hSw); go_simp; all_goals (first | with_reducible rfl | (simp; done)))
  try simp only [Act.put, List.setIfInBounds_toArray, List.set_cons_zero, List.set_cons_succ]
  refine wpAnyH_done (by kernel_rfl) ?_ _
  go_wp2
  refine bodyPost_ret (results_row2 rfl _ _ (w.heap.size + 1) _ _ _ _ rfl (set4_at HB2.out.res _ _ _ _) Tryd.underlying23 rfl sz_q4) rfl ?_
  exact ⟨rfl, bel_set4 HB2.out.bel (Nat.le_succ _) _ _ _ _⟩
set_option maxHeartbeats 4000000 in
set_option maxRecDepth 100000 in
theorem rc_svc_ok (nm pr : ByteArray) (po : Int) (hv : svcB nm.data.toList = true) (hq : pr.data.toList ≠ []) (hq2 : protoB pr.data.toList = true) (w : World) (hs : nm.size ≤ 1000000) (hp : pr.size ≤ 1000000) :
    Calls Tryd.prog 9 #[.agg #[.int .i64 3, .string nm, .string pr, .int .i64 po]] w (QRes w (checkP ⟨3, nm, pr, po⟩).1 (checkP ⟨3, nm, pr, po⟩).2) := by
  have HC : Hid (∀ W, Calls Tryd.prog 19 #[.string nm] W fun e w' => e = .returned (cleanV nm.data.toList) ∧ Below W.heap.size W w') := Lib.hid (fun W => rclean_any nm W hs)
  have HV : Hid (∀ W, Calls Tryd.prog 20 #[.string nm] W fun e w' => e = .returned (.bool (svcB nm.data.toList)) ∧ w' = W) := Lib.hid (fun W => rsvc_any nm W hs)
  have HPr : Hid (∀ W, Calls Tryd.prog 21 #[.string pr] W fun e w' => e = .returned (.bool (protoB pr.data.toList)) ∧ W = w') := Lib.hid (fun W => rproto_any pr W hp)
  have HF : Hid (∀ W, Calls Tryd.prog 22 #[.string pr] W fun e w' => e = .returned (.string (foldS pr)) ∧ Below W.heap.size W w') := Lib.hid (fun W => rfold_any pr W (by unfold maxLen; omega))
  have HQ : Hid (∀ W, (w.alloc (.cells #[.int .i64 3, .string nm, .string pr, .int .i64 po] 23)).alloc (.cells #[.int .i64 0, .string ⟨#[]⟩, .string ⟨#[]⟩, .int .i64 0] 23) = W → QB w W ⟨3, nm, pr, po⟩) := Lib.hid (fun W hW => QB.made w _ W hW)
  have HE : Hid (∃ r c, checkP ⟨3, nm, pr, po⟩ = (r, c) ∧ r = ⟨3, nm, foldS pr, 0⟩ ∧ c = 0) := Lib.hid (by
    unfold checkP
    rw [if_neg (by simp), if_neg (by simp), if_pos rfl, if_pos hv, if_pos (protoOK_yes hq2)]
    exact ⟨_, _, rfl, rfl, rfl⟩)
  obtain ⟨r, c, he, hr, hc⟩ := HE.out
  rw [he]
  dsimp only
  rw [hr, hc]
  clear he hr hc r c HE hp
  go_enter Tryd.func9, Tryd.ntmps9
  go_upto_region 1 with (fail)
  obtain ⟨W, hW⟩ : ∃ W, (w.alloc (.cells #[.int .i64 3, .string nm, .string pr, .int .i64 po] 23)).alloc (.cells #[.int .i64 0, .string ⟨#[]⟩, .string ⟨#[]⟩, .int .i64 0] 23) = W := ⟨_, rfl⟩
  have HB := Lib.hid (HQ.out W hW)
  rw [hW]
  clear hW HQ
  obtain ⟨⟨a0, a1, a2, a3⟩, ⟨d0, d1, d2, d3⟩, ⟨g0, g1, g2, g3⟩⟩ := HB.out.facts
  rw [hv] at HV
  have hqe : pr.toList.isEmpty = false := emp_not hq
  rw [hq2] at HPr
  clear hv hq hq2
  go_upto_region 18 with (first | (go_at_call 19; refine (HC.out _).mono ?_; rintro e w2 ⟨rfl, hb⟩; have HB2 := Lib.hid (HB.out.below hb); obtain ⟨⟨b0, b1, b2, b3⟩, ⟨c0, c1, c2, c3⟩, ⟨f0, f1, f2, f3⟩⟩ := HB2.out.facts; clear hb) | (go_at_call 20; refine (HV.out _).mono ?_; rintro e w2 ⟨rfl, rfl⟩) | (go_at_call 21; refine (HPr.out _).mono ?_; rintro e w2 ⟨rfl, rfl⟩))
  refine wp_region_held_drew (S := fun W => (W.cell? ⟨w.heap.size, 0, none⟩ = some (.int .i64 3) ∧ W.cell? ⟨w.heap.size, 1, none⟩ = some (.string nm) ∧ W.cell? ⟨w.heap.size, 2, none⟩ = some (.string pr) ∧ W.cell? ⟨w.heap.size, 3, none⟩ = some (.int .i64 po))) (by kernel_rfl) (⟨a0, a1, a2, a3⟩) (fun hHeld => ?_)
  try simp only [Act.put, List.setIfInBounds_toArray, List.set_cons_zero, List.set_cons_succ]
  refine wpAnyH_take (i := 0) (oi := { dst := some 63, op := Op.fieldAddr 23 (Operand.tmp 1) 0, type := 0, pos := "ref.go:426", after := #[], guard := none }) (v := ?_) rfl (by kernel_rfl) (by kernel_rfl) (by kernel_rfl) (fun _ _ _ h => h) (Or.inl ⟨by rfl, ?_⟩) (by assumption) ?_
  rotate_left 1
  · (intro w hSw; (try dsimp only at hSw); go_simp; all_goals (first | with_reducible rfl | (simp; done)))
  try simp only [Act.put, List.setIfInBounds_toArray, List.set_cons_zero, List.set_cons_succ]
  refine wpAnyH_take (i := 1) (oi := { dst := some 64, op := Op.load 3 (Operand.tmp 63), type := 3, pos := "ref.go:426", after := #[{ on := 0, ground := Ground.data }], guard := none }) (v := ?_) rfl (by kernel_rfl) (by kernel_rfl) (by kernel_rfl) (fun _ _ _ h => h) (Or.inl ⟨by rfl, ?_⟩) (by assumption) ?_
  rotate_left 1
  · (intro w hSw; (try dsimp only at hSw); go_simp; all_goals (first | with_reducible rfl | (simp; done)))
  try simp only [Act.put, List.setIfInBounds_toArray, List.set_cons_zero, List.set_cons_succ]
  refine wpAnyH_take (i := 2) (oi := { dst := some 65, op := Op.fieldAddr 23 (Operand.tmp 1) 1, type := 0, pos := "ref.go:426", after := #[], guard := none }) (v := ?_) rfl (by kernel_rfl) (by kernel_rfl) (by kernel_rfl) (fun _ _ _ h => h) (Or.inl ⟨by rfl, ?_⟩) (by assumption) ?_
  rotate_left 1
  · (intro w hSw; (try dsimp only at hSw); go_simp; all_goals (first | with_reducible rfl | (simp; done)))
  try simp only [Act.put, List.setIfInBounds_toArray, List.set_cons_zero, List.set_cons_succ]
  refine wpAnyH_take (i := 3) (oi := { dst := some 66, op := Op.load 9 (Operand.tmp 65), type := 9, pos := "ref.go:426", after := #[{ on := 2, ground := Ground.data }], guard := none }) (v := ?_) rfl (by kernel_rfl) (by kernel_rfl) (by kernel_rfl) (fun _ _ _ h => h) (Or.inl ⟨by rfl, ?_⟩) (by assumption) ?_
  rotate_left 1
  · (intro w hSw; (try dsimp only at hSw); go_simp; all_goals (first | with_reducible rfl | (simp; done)))
  try simp only [Act.put, List.setIfInBounds_toArray, List.set_cons_zero, List.set_cons_succ]
  refine wpAnyH_take (i := 4) (oi := { dst := some 67, op := Op.fieldAddr 23 (Operand.tmp 1) 2, type := 0, pos := "ref.go:426", after := #[], guard := none }) (v := ?_) rfl (by kernel_rfl) (by kernel_rfl) (by kernel_rfl) (fun _ _ _ h => h) (Or.inl ⟨by rfl, ?_⟩) (by assumption) ?_
  rotate_left 1
  · (intro w hSw; (try dsimp only at hSw); go_simp; all_goals (first | with_reducible rfl | (simp; done)))
  try simp only [Act.put, List.setIfInBounds_toArray, List.set_cons_zero, List.set_cons_succ]
  refine wpAnyH_take (i := 5) (oi := { dst := some 68, op := Op.load 9 (Operand.tmp 67), type := 9, pos := "ref.go:426", after := #[{ on := 4, ground := Ground.data }], guard := none }) (v := ?_) rfl (by kernel_rfl) (by kernel_rfl) (by kernel_rfl) (fun _ _ _ h => h) (Or.inl ⟨by rfl, ?_⟩) (by assumption) ?_
  rotate_left 1
  · (intro w hSw; (try dsimp only at hSw); go_simp; all_goals (first | with_reducible rfl | (simp; done)))
  try simp only [Act.put, List.setIfInBounds_toArray, List.set_cons_zero, List.set_cons_succ]
  refine wpAnyH_ready (rs := [6]) (by kernel_rfl) (by simp) ?_
  refine AllReadyH.cons (o := { dst := some 69, op := Op.call { callee := Callee.value (Operand.func 22), args := #[Operand.tmp 68], argTypes := #[9] }, type := 9, pos := "ref.go:426", after := #[{ on := 5, ground := Ground.data }], guard := none }) rfl (fun K hK => ?_) AllReadyH.nil
  go_simp
  go_at_call 22
  refine (HF.out _).mono ?_
  rintro e w2 ⟨rfl, hb⟩
  have HB2 := Lib.hid (HB.out.drew.below hb)
  obtain ⟨⟨b0, b1, b2, b3⟩, ⟨c0, c1, c2, c3⟩, ⟨f0, f1, f2, f3⟩⟩ := HB2.out.facts
  clear hb
  try go_wp2_with fail
  refine hK.out _ _ ?_ (fun hHeld => ?_)
  · ((try dsimp only); exact ⟨b0, b1, b2, b3⟩)
  clear hK K
  try simp only [Act.put, List.setIfInBounds_toArray, List.set_cons_zero, List.set_cons_succ]
  refine wpAnyH_take (i := 7) (oi := { dst := some 70, op := Op.build 23 #[(0, Operand.tmp 64), (1, Operand.tmp 66), (2, Operand.tmp 69)], type := 23, pos := "ref.go:426", after := #[{ on := 1, ground := Ground.data }, { on := 3, ground := Ground.data }, { on := 6, ground := Ground.data }], guard := none }) (v := ?_) rfl (by kernel_rfl) (by kernel_rfl) (by kernel_rfl) (fun _ _ _ h => h) (Or.inl ⟨by rfl, ?_⟩) (by assumption) ?_
  rotate_left 1
  · (intro w hSw; (try dsimp only at hSw); go_simp; all_goals (first | with_reducible rfl | (simp; done)))
  try simp only [Act.put, List.setIfInBounds_toArray, List.set_cons_zero, List.set_cons_succ]
  refine wpAnyH_ready (rs := [8]) (by kernel_rfl) (by simp) ?_
  refine AllReadyH.cons (o := { dst := none, op := Op.store 23 (Operand.tmp 2) (Operand.tmp 70), type := 0, pos := "ref.go:426", after := #[{ on := 7, ground := Ground.data }, { on := 6, ground := Ground.chain }, { on := 0, ground := Ground.phase }, { on := 1, ground := Ground.phase }, { on := 2, ground := Ground.phase }, { on := 3, ground := Ground.phase }, { on := 4, ground := Ground.phase }, { on := 5, ground := Ground.phase }, { on := 6, ground := Ground.phase }, { on := 7, ground := Ground.phase }], guard := none }) rfl (fun K hK => ?_) AllReadyH.nil
  go_simp
  refine hK.out _ _ ?_ (fun hHeld => ?_)
  · ((try dsimp only); exact HB2.out.box4 _ _ _ _ _ rfl)
  clear hK K
  try simp only [Act.put, List.setIfInBounds_toArray, List.set_cons_zero, List.set_cons_succ]
  refine wpAnyH_take (i := 9) (oi := { dst := some 3, op := Op.assign (Operand.const (Value.int IntKind.i64 0)), type := 30, pos := "ref.go:426", after := #[{ on := 8, ground := Ground.chain }, { on := 0, ground := Ground.phase }, { on := 1, ground := Ground.phase }, { on := 2, ground := Ground.phase }, { on := 3, ground := Ground.phase }, { on := 4, ground := Ground.phase }, { on := 5, ground := Ground.phase }, { on := 6, ground := Ground.phase }, { on := 7, ground := Ground.phase }, { on := 8, ground := Ground.phase }], guard := none }) (v := ?_) rfl (by kernel_rfl) (by kernel_rfl) (by kernel_rfl) (fun _ _ _ h => h) (Or.inl ⟨by rfl, ?_⟩) (by assumption) ?_
  rotate_left 1
  · (intro w hSw; (try dsimp only at hSw); go_simp; all_goals (first | with_reducible rfl | (simp; done)))
  try simp only [Act.put, List.setIfInBounds_toArray, List.set_cons_zero, List.set_cons_succ]
  refine wpAnyH_done (by kernel_rfl) ?_ _
  go_wp2
  refine bodyPost_ret (results_row2 rfl _ _ (w.heap.size + 1) _ _ _ _ rfl (set4_at HB2.out.res _ _ _ _) Tryd.underlying23 rfl sz_q4) rfl ?_
  exact ⟨rfl, bel_set4 HB2.out.bel (Nat.le_succ _) _ _ _ _⟩
set_option maxHeartbeats 4000000 in
set_option maxRecDepth 100000 in
theorem rc_svc_bad (nm pr : ByteArray) (po : Int) (hv : svcB nm.data.toList = true) (hq : pr.data.toList ≠ []) (hq2 : protoB pr.data.toList = false) (w : World) (hs : nm.size ≤ 1000000) (hp : pr.size ≤ 1000000) :
    Calls Tryd.prog 9 #[.agg #[.int .i64 3, .string nm, .string pr, .int .i64 po]] w (QRes w (checkP ⟨3, nm, pr, po⟩).1 (checkP ⟨3, nm, pr, po⟩).2) := by
  have HC : Hid (∀ W, Calls Tryd.prog 19 #[.string nm] W fun e w' => e = .returned (cleanV nm.data.toList) ∧ Below W.heap.size W w') := Lib.hid (fun W => rclean_any nm W hs)
  have HV : Hid (∀ W, Calls Tryd.prog 20 #[.string nm] W fun e w' => e = .returned (.bool (svcB nm.data.toList)) ∧ w' = W) := Lib.hid (fun W => rsvc_any nm W hs)
  have HPr : Hid (∀ W, Calls Tryd.prog 21 #[.string pr] W fun e w' => e = .returned (.bool (protoB pr.data.toList)) ∧ W = w') := Lib.hid (fun W => rproto_any pr W hp)
  have HF : Hid (∀ W, Calls Tryd.prog 22 #[.string pr] W fun e w' => e = .returned (.string (foldS pr)) ∧ Below W.heap.size W w') := Lib.hid (fun W => rfold_any pr W (by unfold maxLen; omega))
  have HQ : Hid (∀ W, (w.alloc (.cells #[.int .i64 3, .string nm, .string pr, .int .i64 po] 23)).alloc (.cells #[.int .i64 0, .string ⟨#[]⟩, .string ⟨#[]⟩, .int .i64 0] 23) = W → QB w W ⟨3, nm, pr, po⟩) := Lib.hid (fun W hW => QB.made w _ W hW)
  have HE : Hid (∃ r c, checkP ⟨3, nm, pr, po⟩ = (r, c) ∧ r = zQ ∧ c = 7) := Lib.hid (by
    unfold checkP
    rw [if_neg (by simp), if_neg (by simp), if_pos rfl, if_pos hv, if_neg (by rw [protoOK_no hq hq2]; decide)]
    exact ⟨_, _, rfl, rfl, rfl⟩)
  obtain ⟨r, c, he, hr, hc⟩ := HE.out
  rw [he]
  dsimp only
  rw [hr, hc]
  clear he hr hc r c HE hp
  go_enter Tryd.func9, Tryd.ntmps9
  go_upto_region 1 with (fail)
  obtain ⟨W, hW⟩ : ∃ W, (w.alloc (.cells #[.int .i64 3, .string nm, .string pr, .int .i64 po] 23)).alloc (.cells #[.int .i64 0, .string ⟨#[]⟩, .string ⟨#[]⟩, .int .i64 0] 23) = W := ⟨_, rfl⟩
  have HB := Lib.hid (HQ.out W hW)
  rw [hW]
  clear hW HQ
  obtain ⟨⟨a0, a1, a2, a3⟩, ⟨d0, d1, d2, d3⟩, ⟨g0, g1, g2, g3⟩⟩ := HB.out.facts
  rw [hv] at HV
  have hqe : pr.toList.isEmpty = false := emp_not hq
  rw [hq2] at HPr
  clear hv hq hq2
  go_wp2_with (first | (go_at_call 19; refine (HC.out _).mono ?_; rintro e w2 ⟨rfl, hb⟩; have HB2 := Lib.hid (HB.out.below hb); obtain ⟨⟨b0, b1, b2, b3⟩, ⟨c0, c1, c2, c3⟩, ⟨f0, f1, f2, f3⟩⟩ := HB2.out.facts; clear hb) | (go_at_call 20; refine (HV.out _).mono ?_; rintro e w2 ⟨rfl, rfl⟩) | (go_at_call 21; refine (HPr.out _).mono ?_; rintro e w2 ⟨rfl, rfl⟩))
  refine bodyPost_ret (results_row2 rfl _ _ (w.heap.size + 1) _ _ _ _ rfl (set4_at HB.out.res _ _ _ _) Tryd.underlying23 rfl sz_q4) rfl ?_
  exact ⟨rfl, bel_set4 HB.out.bel (Nat.le_succ _) _ _ _ _⟩
set_option maxHeartbeats 4000000 in
set_option maxRecDepth 100000 in
theorem rc_svc_none_such (nm pr : ByteArray) (po : Int) (hv : svcB nm.data.toList = false) (w : World) (hs : nm.size ≤ 1000000) (hp : pr.size ≤ 1000000) :
    Calls Tryd.prog 9 #[.agg #[.int .i64 3, .string nm, .string pr, .int .i64 po]] w (QRes w (checkP ⟨3, nm, pr, po⟩).1 (checkP ⟨3, nm, pr, po⟩).2) := by
  have HC : Hid (∀ W, Calls Tryd.prog 19 #[.string nm] W fun e w' => e = .returned (cleanV nm.data.toList) ∧ Below W.heap.size W w') := Lib.hid (fun W => rclean_any nm W hs)
  have HV : Hid (∀ W, Calls Tryd.prog 20 #[.string nm] W fun e w' => e = .returned (.bool (svcB nm.data.toList)) ∧ w' = W) := Lib.hid (fun W => rsvc_any nm W hs)
  have HPr : Hid (∀ W, Calls Tryd.prog 21 #[.string pr] W fun e w' => e = .returned (.bool (protoB pr.data.toList)) ∧ W = w') := Lib.hid (fun W => rproto_any pr W hp)
  have HF : Hid (∀ W, Calls Tryd.prog 22 #[.string pr] W fun e w' => e = .returned (.string (foldS pr)) ∧ Below W.heap.size W w') := Lib.hid (fun W => rfold_any pr W (by unfold maxLen; omega))
  have HQ : Hid (∀ W, (w.alloc (.cells #[.int .i64 3, .string nm, .string pr, .int .i64 po] 23)).alloc (.cells #[.int .i64 0, .string ⟨#[]⟩, .string ⟨#[]⟩, .int .i64 0] 23) = W → QB w W ⟨3, nm, pr, po⟩) := Lib.hid (fun W hW => QB.made w _ W hW)
  have HE : Hid (∃ r c, checkP ⟨3, nm, pr, po⟩ = (r, c) ∧ r = zQ ∧ c = 6) := Lib.hid (by
    unfold checkP
    rw [if_neg (by simp), if_neg (by simp), if_pos rfl, if_neg (by rw [hv]; decide)]
    exact ⟨_, _, rfl, rfl, rfl⟩)
  obtain ⟨r, c, he, hr, hc⟩ := HE.out
  rw [he]
  dsimp only
  rw [hr, hc]
  clear he hr hc r c HE hp
  go_enter Tryd.func9, Tryd.ntmps9
  go_upto_region 1 with (fail)
  obtain ⟨W, hW⟩ : ∃ W, (w.alloc (.cells #[.int .i64 3, .string nm, .string pr, .int .i64 po] 23)).alloc (.cells #[.int .i64 0, .string ⟨#[]⟩, .string ⟨#[]⟩, .int .i64 0] 23) = W := ⟨_, rfl⟩
  have HB := Lib.hid (HQ.out W hW)
  rw [hW]
  clear hW HQ
  obtain ⟨⟨a0, a1, a2, a3⟩, ⟨d0, d1, d2, d3⟩, ⟨g0, g1, g2, g3⟩⟩ := HB.out.facts
  rw [hv] at HV
  clear hv
  go_wp2_with (first | (go_at_call 19; refine (HC.out _).mono ?_; rintro e w2 ⟨rfl, hb⟩; have HB2 := Lib.hid (HB.out.below hb); obtain ⟨⟨b0, b1, b2, b3⟩, ⟨c0, c1, c2, c3⟩, ⟨f0, f1, f2, f3⟩⟩ := HB2.out.facts; clear hb) | (go_at_call 20; refine (HV.out _).mono ?_; rintro e w2 ⟨rfl, rfl⟩) | (go_at_call 21; refine (HPr.out _).mono ?_; rintro e w2 ⟨rfl, rfl⟩))
  refine bodyPost_ret (results_row2 rfl _ _ (w.heap.size + 1) _ _ _ _ rfl (set4_at HB.out.res _ _ _ _) Tryd.underlying23 rfl sz_q4) rfl ?_
  exact ⟨rfl, bel_set4 HB.out.bel (Nat.le_succ _) _ _ _ _⟩
set_option maxHeartbeats 4000000 in
set_option maxRecDepth 100000 in
theorem rc_port_low (nm pr : ByteArray) (po : Int) (hl : po < 1) (w : World) (hs : nm.size ≤ 1000000) (hp : pr.size ≤ 1000000) :
    Calls Tryd.prog 9 #[.agg #[.int .i64 4, .string nm, .string pr, .int .i64 po]] w (QRes w (checkP ⟨4, nm, pr, po⟩).1 (checkP ⟨4, nm, pr, po⟩).2) := by
  have HC : Hid (∀ W, Calls Tryd.prog 19 #[.string nm] W fun e w' => e = .returned (cleanV nm.data.toList) ∧ Below W.heap.size W w') := Lib.hid (fun W => rclean_any nm W hs)
  have HV : Hid (∀ W, Calls Tryd.prog 20 #[.string nm] W fun e w' => e = .returned (.bool (svcB nm.data.toList)) ∧ w' = W) := Lib.hid (fun W => rsvc_any nm W hs)
  have HPr : Hid (∀ W, Calls Tryd.prog 21 #[.string pr] W fun e w' => e = .returned (.bool (protoB pr.data.toList)) ∧ W = w') := Lib.hid (fun W => rproto_any pr W hp)
  have HF : Hid (∀ W, Calls Tryd.prog 22 #[.string pr] W fun e w' => e = .returned (.string (foldS pr)) ∧ Below W.heap.size W w') := Lib.hid (fun W => rfold_any pr W (by unfold maxLen; omega))
  have HQ : Hid (∀ W, (w.alloc (.cells #[.int .i64 4, .string nm, .string pr, .int .i64 po] 23)).alloc (.cells #[.int .i64 0, .string ⟨#[]⟩, .string ⟨#[]⟩, .int .i64 0] 23) = W → QB w W ⟨4, nm, pr, po⟩) := Lib.hid (fun W hW => QB.made w _ W hW)
  have HE : Hid (∃ r c, checkP ⟨4, nm, pr, po⟩ = (r, c) ∧ r = zQ ∧ c = 7) := Lib.hid (by
    unfold checkP
    rw [if_neg (by simp), if_neg (by simp), if_neg (by simp), if_pos rfl, if_neg (by rintro ⟨⟨h1, h2⟩, _⟩; dsimp only at h1 h2; omega)]
    exact ⟨_, _, rfl, rfl, rfl⟩)
  obtain ⟨r, c, he, hr, hc⟩ := HE.out
  rw [he]
  dsimp only
  rw [hr, hc]
  clear he hr hc r c HE hp
  go_enter Tryd.func9, Tryd.ntmps9
  go_upto_region 1 with (fail)
  obtain ⟨W, hW⟩ : ∃ W, (w.alloc (.cells #[.int .i64 4, .string nm, .string pr, .int .i64 po] 23)).alloc (.cells #[.int .i64 0, .string ⟨#[]⟩, .string ⟨#[]⟩, .int .i64 0] 23) = W := ⟨_, rfl⟩
  have HB := Lib.hid (HQ.out W hW)
  rw [hW]
  clear hW HQ
  obtain ⟨⟨a0, a1, a2, a3⟩, ⟨d0, d1, d2, d3⟩, ⟨g0, g1, g2, g3⟩⟩ := HB.out.facts
  have hl2 : decide (po < 1) = true := by exact decide_eq_true hl
  have hl3 : True := by trivial
  clear hl
  go_wp2_with (first | (go_at_call 19; refine (HC.out _).mono ?_; rintro e w2 ⟨rfl, hb⟩; have HB2 := Lib.hid (HB.out.below hb); obtain ⟨⟨b0, b1, b2, b3⟩, ⟨c0, c1, c2, c3⟩, ⟨f0, f1, f2, f3⟩⟩ := HB2.out.facts; clear hb) | (go_at_call 20; refine (HV.out _).mono ?_; rintro e w2 ⟨rfl, rfl⟩) | (go_at_call 21; refine (HPr.out _).mono ?_; rintro e w2 ⟨rfl, rfl⟩))
  refine bodyPost_ret (results_row2 rfl _ _ (w.heap.size + 1) _ _ _ _ rfl (set4_at HB.out.res _ _ _ _) Tryd.underlying23 rfl sz_q4) rfl ?_
  exact ⟨rfl, bel_set4 HB.out.bel (Nat.le_succ _) _ _ _ _⟩
set_option maxHeartbeats 4000000 in
set_option maxRecDepth 100000 in
theorem rc_port_high (nm pr : ByteArray) (po : Int) (hl : 65535 < po) (w : World) (hs : nm.size ≤ 1000000) (hp : pr.size ≤ 1000000) :
    Calls Tryd.prog 9 #[.agg #[.int .i64 4, .string nm, .string pr, .int .i64 po]] w (QRes w (checkP ⟨4, nm, pr, po⟩).1 (checkP ⟨4, nm, pr, po⟩).2) := by
  have HC : Hid (∀ W, Calls Tryd.prog 19 #[.string nm] W fun e w' => e = .returned (cleanV nm.data.toList) ∧ Below W.heap.size W w') := Lib.hid (fun W => rclean_any nm W hs)
  have HV : Hid (∀ W, Calls Tryd.prog 20 #[.string nm] W fun e w' => e = .returned (.bool (svcB nm.data.toList)) ∧ w' = W) := Lib.hid (fun W => rsvc_any nm W hs)
  have HPr : Hid (∀ W, Calls Tryd.prog 21 #[.string pr] W fun e w' => e = .returned (.bool (protoB pr.data.toList)) ∧ W = w') := Lib.hid (fun W => rproto_any pr W hp)
  have HF : Hid (∀ W, Calls Tryd.prog 22 #[.string pr] W fun e w' => e = .returned (.string (foldS pr)) ∧ Below W.heap.size W w') := Lib.hid (fun W => rfold_any pr W (by unfold maxLen; omega))
  have HQ : Hid (∀ W, (w.alloc (.cells #[.int .i64 4, .string nm, .string pr, .int .i64 po] 23)).alloc (.cells #[.int .i64 0, .string ⟨#[]⟩, .string ⟨#[]⟩, .int .i64 0] 23) = W → QB w W ⟨4, nm, pr, po⟩) := Lib.hid (fun W hW => QB.made w _ W hW)
  have HE : Hid (∃ r c, checkP ⟨4, nm, pr, po⟩ = (r, c) ∧ r = zQ ∧ c = 7) := Lib.hid (by
    unfold checkP
    rw [if_neg (by simp), if_neg (by simp), if_neg (by simp), if_pos rfl, if_neg (by rintro ⟨⟨h1, h2⟩, _⟩; dsimp only at h1 h2; omega)]
    exact ⟨_, _, rfl, rfl, rfl⟩)
  obtain ⟨r, c, he, hr, hc⟩ := HE.out
  rw [he]
  dsimp only
  rw [hr, hc]
  clear he hr hc r c HE hp
  go_enter Tryd.func9, Tryd.ntmps9
  go_upto_region 1 with (fail)
  obtain ⟨W, hW⟩ : ∃ W, (w.alloc (.cells #[.int .i64 4, .string nm, .string pr, .int .i64 po] 23)).alloc (.cells #[.int .i64 0, .string ⟨#[]⟩, .string ⟨#[]⟩, .int .i64 0] 23) = W := ⟨_, rfl⟩
  have HB := Lib.hid (HQ.out W hW)
  rw [hW]
  clear hW HQ
  obtain ⟨⟨a0, a1, a2, a3⟩, ⟨d0, d1, d2, d3⟩, ⟨g0, g1, g2, g3⟩⟩ := HB.out.facts
  have hl2 : decide (po < 1) = false := by exact decide_eq_false (by omega)
  have hl3 : decide (65535 < po) = true := by exact decide_eq_true hl
  clear hl
  go_wp2_with (first | (go_at_call 19; refine (HC.out _).mono ?_; rintro e w2 ⟨rfl, hb⟩; have HB2 := Lib.hid (HB.out.below hb); obtain ⟨⟨b0, b1, b2, b3⟩, ⟨c0, c1, c2, c3⟩, ⟨f0, f1, f2, f3⟩⟩ := HB2.out.facts; clear hb) | (go_at_call 20; refine (HV.out _).mono ?_; rintro e w2 ⟨rfl, rfl⟩) | (go_at_call 21; refine (HPr.out _).mono ?_; rintro e w2 ⟨rfl, rfl⟩))
  refine bodyPost_ret (results_row2 rfl _ _ (w.heap.size + 1) _ _ _ _ rfl (set4_at HB.out.res _ _ _ _) Tryd.underlying23 rfl sz_q4) rfl ?_
  exact ⟨rfl, bel_set4 HB.out.bel (Nat.le_succ _) _ _ _ _⟩
set_option maxHeartbeats 4000000 in
set_option maxRecDepth 100000 in
theorem rc_port_none (nm pr : ByteArray) (po : Int) (h1 : 1 ≤ po) (h2 : po ≤ 65535) (hq : pr.data.toList = []) (w : World) (hs : nm.size ≤ 1000000) (hp : pr.size ≤ 1000000) :
    Calls Tryd.prog 9 #[.agg #[.int .i64 4, .string nm, .string pr, .int .i64 po]] w (QRes w (checkP ⟨4, nm, pr, po⟩).1 (checkP ⟨4, nm, pr, po⟩).2) := by
  have HC : Hid (∀ W, Calls Tryd.prog 19 #[.string nm] W fun e w' => e = .returned (cleanV nm.data.toList) ∧ Below W.heap.size W w') := Lib.hid (fun W => rclean_any nm W hs)
  have HV : Hid (∀ W, Calls Tryd.prog 20 #[.string nm] W fun e w' => e = .returned (.bool (svcB nm.data.toList)) ∧ w' = W) := Lib.hid (fun W => rsvc_any nm W hs)
  have HPr : Hid (∀ W, Calls Tryd.prog 21 #[.string pr] W fun e w' => e = .returned (.bool (protoB pr.data.toList)) ∧ W = w') := Lib.hid (fun W => rproto_any pr W hp)
  have HF : Hid (∀ W, Calls Tryd.prog 22 #[.string pr] W fun e w' => e = .returned (.string (foldS pr)) ∧ Below W.heap.size W w') := Lib.hid (fun W => rfold_any pr W (by unfold maxLen; omega))
  have HQ : Hid (∀ W, (w.alloc (.cells #[.int .i64 4, .string nm, .string pr, .int .i64 po] 23)).alloc (.cells #[.int .i64 0, .string ⟨#[]⟩, .string ⟨#[]⟩, .int .i64 0] 23) = W → QB w W ⟨4, nm, pr, po⟩) := Lib.hid (fun W hW => QB.made w _ W hW)
  have HE : Hid (∃ r c, checkP ⟨4, nm, pr, po⟩ = (r, c) ∧ r = ⟨4, ⟨#[]⟩, foldS pr, po⟩ ∧ c = 0) := Lib.hid (by
    unfold checkP
    rw [if_neg (by simp), if_neg (by simp), if_neg (by simp), if_pos rfl, if_pos ⟨⟨h1, h2⟩, protoOK_nil hq⟩]
    exact ⟨_, _, rfl, rfl, rfl⟩)
  obtain ⟨r, c, he, hr, hc⟩ := HE.out
  rw [he]
  dsimp only
  rw [hr, hc]
  clear he hr hc r c HE hp
  go_enter Tryd.func9, Tryd.ntmps9
  go_upto_region 1 with (fail)
  obtain ⟨W, hW⟩ : ∃ W, (w.alloc (.cells #[.int .i64 4, .string nm, .string pr, .int .i64 po] 23)).alloc (.cells #[.int .i64 0, .string ⟨#[]⟩, .string ⟨#[]⟩, .int .i64 0] 23) = W := ⟨_, rfl⟩
  have HB := Lib.hid (HQ.out W hW)
  rw [hW]
  clear hW HQ
  obtain ⟨⟨a0, a1, a2, a3⟩, ⟨d0, d1, d2, d3⟩, ⟨g0, g1, g2, g3⟩⟩ := HB.out.facts
  have hl1 : decide (po < 1) = false := decide_eq_false (by omega)
  have hl2 : decide (65535 < po) = false := decide_eq_false (by omega)
  have hqe : pr.toList.isEmpty = true := emp_nil hq
  clear hq h1 h2
  go_upto_region 22 with (first | (go_at_call 19; refine (HC.out _).mono ?_; rintro e w2 ⟨rfl, hb⟩; have HB2 := Lib.hid (HB.out.below hb); obtain ⟨⟨b0, b1, b2, b3⟩, ⟨c0, c1, c2, c3⟩, ⟨f0, f1, f2, f3⟩⟩ := HB2.out.facts; clear hb) | (go_at_call 20; refine (HV.out _).mono ?_; rintro e w2 ⟨rfl, rfl⟩) | (go_at_call 21; refine (HPr.out _).mono ?_; rintro e w2 ⟨rfl, rfl⟩))
  refine wp_region_held_drew (S := fun W => (W.cell? ⟨w.heap.size, 0, none⟩ = some (.int .i64 4) ∧ W.cell? ⟨w.heap.size, 1, none⟩ = some (.string nm) ∧ W.cell? ⟨w.heap.size, 2, none⟩ = some (.string pr) ∧ W.cell? ⟨w.heap.size, 3, none⟩ = some (.int .i64 po))) (by kernel_rfl) (⟨a0, a1, a2, a3⟩) (fun hHeld => ?_)
  try simp only [Act.put, List.setIfInBounds_toArray, List.set_cons_zero, List.set_cons_succ]
  refine wpAnyH_take (i := 0) (oi := { dst := some 93, op := Op.fieldAddr 23 (Operand.tmp 1) 0, type := 0, pos := "ref.go:431", after := #[], guard := none }) (v := ?_) rfl (by kernel_rfl) (by kernel_rfl) (by kernel_rfl) (fun _ _ _ h => h) (Or.inl ⟨by rfl, ?_⟩) (by assumption) ?_
  rotate_left 1
  · (intro w hSw; (try dsimp only at hSw); go_simp; all_goals (first | with_reducible rfl | (simp; done)))
  try simp only [Act.put, List.setIfInBounds_toArray, List.set_cons_zero, List.set_cons_succ]
  refine wpAnyH_take (i := 1) (oi := { dst := some 94, op := Op.load 3 (Operand.tmp 93), type := 3, pos := "ref.go:431", after := #[{ on := 0, ground := Ground.data }], guard := none }) (v := ?_) rfl (by kernel_rfl) (by kernel_rfl) (by kernel_rfl) (fun _ _ _ h => h) (Or.inl ⟨by rfl, ?_⟩) (by assumption) ?_
  rotate_left 1
  · (intro w hSw; (try dsimp only at hSw); go_simp; all_goals (first | with_reducible rfl | (simp; done)))
  try simp only [Act.put, List.setIfInBounds_toArray, List.set_cons_zero, List.set_cons_succ]
  refine wpAnyH_take (i := 2) (oi := { dst := some 95, op := Op.fieldAddr 23 (Operand.tmp 1) 3, type := 0, pos := "ref.go:431", after := #[], guard := none }) (v := ?_) rfl (by kernel_rfl) (by kernel_rfl) (by kernel_rfl) (fun _ _ _ h => h) (Or.inl ⟨by rfl, ?_⟩) (by assumption) ?_
  rotate_left 1
  · (intro w hSw; (try dsimp only at hSw); go_simp; all_goals (first | with_reducible rfl | (simp; done)))
  try simp only [Act.put, List.setIfInBounds_toArray, List.set_cons_zero, List.set_cons_succ]
  refine wpAnyH_take (i := 3) (oi := { dst := some 96, op := Op.load 3 (Operand.tmp 95), type := 3, pos := "ref.go:431", after := #[{ on := 2, ground := Ground.data }], guard := none }) (v := ?_) rfl (by kernel_rfl) (by kernel_rfl) (by kernel_rfl) (fun _ _ _ h => h) (Or.inl ⟨by rfl, ?_⟩) (by assumption) ?_
  rotate_left 1
  · (intro w hSw; (try dsimp only at hSw); go_simp; all_goals (first | with_reducible rfl | (simp; done)))
  try simp only [Act.put, List.setIfInBounds_toArray, List.set_cons_zero, List.set_cons_succ]
  refine wpAnyH_take (i := 4) (oi := { dst := some 97, op := Op.fieldAddr 23 (Operand.tmp 1) 2, type := 0, pos := "ref.go:431", after := #[], guard := none }) (v := ?_) rfl (by kernel_rfl) (by kernel_rfl) (by kernel_rfl) (fun _ _ _ h => h) (Or.inl ⟨by rfl, ?_⟩) (by assumption) ?_
  rotate_left 1
  · (intro w hSw; (try dsimp only at hSw); go_simp; all_goals (first | with_reducible rfl | (simp; done)))
  try simp only [Act.put, List.setIfInBounds_toArray, List.set_cons_zero, List.set_cons_succ]
  refine wpAnyH_take (i := 5) (oi := { dst := some 98, op := Op.load 9 (Operand.tmp 97), type := 9, pos := "ref.go:431", after := #[{ on := 4, ground := Ground.data }], guard := none }) (v := ?_) rfl (by kernel_rfl) (by kernel_rfl) (by kernel_rfl) (fun _ _ _ h => h) (Or.inl ⟨by rfl, ?_⟩) (by assumption) ?_
  rotate_left 1
  · (intro w hSw; (try dsimp only at hSw); go_simp; all_goals (first | with_reducible rfl | (simp; done)))
  try simp only [Act.put, List.setIfInBounds_toArray, List.set_cons_zero, List.set_cons_succ]
  refine wpAnyH_ready (rs := [6]) (by kernel_rfl) (by simp) ?_
  refine AllReadyH.cons (o := { dst := some 99, op := Op.call { callee := Callee.value (Operand.func 22), args := #[Operand.tmp 98], argTypes := #[9] }, type := 9, pos := "ref.go:431", after := #[{ on := 5, ground := Ground.data }], guard := none }) rfl (fun K hK => ?_) AllReadyH.nil
  go_simp
  go_at_call 22
  refine (HF.out _).mono ?_
  rintro e w2 ⟨rfl, hb⟩
  have HB2 := Lib.hid (HB.out.drew.below hb)
  obtain ⟨⟨b0, b1, b2, b3⟩, ⟨c0, c1, c2, c3⟩, ⟨f0, f1, f2, f3⟩⟩ := HB2.out.facts
  clear hb
  try go_wp2_with fail
  refine hK.out _ _ ?_ (fun hHeld => ?_)
  · ((try dsimp only); exact ⟨b0, b1, b2, b3⟩)
  clear hK K
  try simp only [Act.put, List.setIfInBounds_toArray, List.set_cons_zero, List.set_cons_succ]
  refine wpAnyH_take (i := 7) (oi := { dst := some 100, op := Op.build 23 #[(0, Operand.tmp 94), (3, Operand.tmp 96), (2, Operand.tmp 99)], type := 23, pos := "ref.go:431", after := #[{ on := 1, ground := Ground.data }, { on := 3, ground := Ground.data }, { on := 6, ground := Ground.data }], guard := none }) (v := ?_) rfl (by kernel_rfl) (by kernel_rfl) (by kernel_rfl) (fun _ _ _ h => h) (Or.inl ⟨by rfl, ?_⟩) (by assumption) ?_
  rotate_left 1
  · (intro w hSw; (try dsimp only at hSw); go_simp; all_goals (first | with_reducible rfl | (simp; done)))
  try simp only [Act.put, List.setIfInBounds_toArray, List.set_cons_zero, List.set_cons_succ]
  refine wpAnyH_ready (rs := [8]) (by kernel_rfl) (by simp) ?_
  refine AllReadyH.cons (o := { dst := none, op := Op.store 23 (Operand.tmp 2) (Operand.tmp 100), type := 0, pos := "ref.go:431", after := #[{ on := 7, ground := Ground.data }, { on := 6, ground := Ground.chain }, { on := 0, ground := Ground.phase }, { on := 1, ground := Ground.phase }, { on := 2, ground := Ground.phase }, { on := 3, ground := Ground.phase }, { on := 4, ground := Ground.phase }, { on := 5, ground := Ground.phase }, { on := 6, ground := Ground.phase }, { on := 7, ground := Ground.phase }], guard := none }) rfl (fun K hK => ?_) AllReadyH.nil
  go_simp
  refine hK.out _ _ ?_ (fun hHeld => ?_)
  · ((try dsimp only); exact HB2.out.box4 _ _ _ _ _ rfl)
  clear hK K
  try simp only [Act.put, List.setIfInBounds_toArray, List.set_cons_zero, List.set_cons_succ]
  refine wpAnyH_take (i := 9) (oi := { dst := some 3, op := Op.assign (Operand.const (Value.int IntKind.i64 0)), type := 30, pos := "ref.go:431", after := #[{ on := 8, ground := Ground.chain }, { on := 0, ground := Ground.phase }, { on := 1, ground := Ground.phase }, { on := 2, ground := Ground.phase }, { on := 3, ground := Ground.phase }, { on := 4, ground := Ground.phase }, { on := 5, ground := Ground.phase }, { on := 6, ground := Ground.phase }, { on := 7, ground := Ground.phase }, { on := 8, ground := Ground.phase }], guard := none }) (v := ?_) rfl (by kernel_rfl) (by kernel_rfl) (by kernel_rfl) (fun _ _ _ h => h) (Or.inl ⟨by rfl, ?_⟩) (by assumption) ?_
  rotate_left 1
  · (intro w hSw; (try dsimp only at hSw); go_simp; all_goals (first | with_reducible rfl | (simp; done)))
  try simp only [Act.put, List.setIfInBounds_toArray, List.set_cons_zero, List.set_cons_succ]
  refine wpAnyH_done (by kernel_rfl) ?_ _
  go_wp2
  refine bodyPost_ret (results_row2 rfl _ _ (w.heap.size + 1) _ _ _ _ rfl (set4_at HB2.out.res _ _ _ _) Tryd.underlying23 rfl sz_q4) rfl ?_
  exact ⟨rfl, bel_set4 HB2.out.bel (Nat.le_succ _) _ _ _ _⟩
set_option maxHeartbeats 4000000 in
set_option maxRecDepth 100000 in
theorem rc_port_ok (nm pr : ByteArray) (po : Int) (h1 : 1 ≤ po) (h2 : po ≤ 65535) (hq : pr.data.toList ≠ []) (hq2 : protoB pr.data.toList = true) (w : World) (hs : nm.size ≤ 1000000) (hp : pr.size ≤ 1000000) :
    Calls Tryd.prog 9 #[.agg #[.int .i64 4, .string nm, .string pr, .int .i64 po]] w (QRes w (checkP ⟨4, nm, pr, po⟩).1 (checkP ⟨4, nm, pr, po⟩).2) := by
  have HC : Hid (∀ W, Calls Tryd.prog 19 #[.string nm] W fun e w' => e = .returned (cleanV nm.data.toList) ∧ Below W.heap.size W w') := Lib.hid (fun W => rclean_any nm W hs)
  have HV : Hid (∀ W, Calls Tryd.prog 20 #[.string nm] W fun e w' => e = .returned (.bool (svcB nm.data.toList)) ∧ w' = W) := Lib.hid (fun W => rsvc_any nm W hs)
  have HPr : Hid (∀ W, Calls Tryd.prog 21 #[.string pr] W fun e w' => e = .returned (.bool (protoB pr.data.toList)) ∧ W = w') := Lib.hid (fun W => rproto_any pr W hp)
  have HF : Hid (∀ W, Calls Tryd.prog 22 #[.string pr] W fun e w' => e = .returned (.string (foldS pr)) ∧ Below W.heap.size W w') := Lib.hid (fun W => rfold_any pr W (by unfold maxLen; omega))
  have HQ : Hid (∀ W, (w.alloc (.cells #[.int .i64 4, .string nm, .string pr, .int .i64 po] 23)).alloc (.cells #[.int .i64 0, .string ⟨#[]⟩, .string ⟨#[]⟩, .int .i64 0] 23) = W → QB w W ⟨4, nm, pr, po⟩) := Lib.hid (fun W hW => QB.made w _ W hW)
  have HE : Hid (∃ r c, checkP ⟨4, nm, pr, po⟩ = (r, c) ∧ r = ⟨4, ⟨#[]⟩, foldS pr, po⟩ ∧ c = 0) := Lib.hid (by
    unfold checkP
    rw [if_neg (by simp), if_neg (by simp), if_neg (by simp), if_pos rfl, if_pos ⟨⟨h1, h2⟩, protoOK_yes hq2⟩]
    exact ⟨_, _, rfl, rfl, rfl⟩)
  obtain ⟨r, c, he, hr, hc⟩ := HE.out
  rw [he]
  dsimp only
  rw [hr, hc]
  clear he hr hc r c HE hp
  go_enter Tryd.func9, Tryd.ntmps9
  go_upto_region 1 with (fail)
  obtain ⟨W, hW⟩ : ∃ W, (w.alloc (.cells #[.int .i64 4, .string nm, .string pr, .int .i64 po] 23)).alloc (.cells #[.int .i64 0, .string ⟨#[]⟩, .string ⟨#[]⟩, .int .i64 0] 23) = W := ⟨_, rfl⟩
  have HB := Lib.hid (HQ.out W hW)
  rw [hW]
  clear hW HQ
  obtain ⟨⟨a0, a1, a2, a3⟩, ⟨d0, d1, d2, d3⟩, ⟨g0, g1, g2, g3⟩⟩ := HB.out.facts
  have hl1 : decide (po < 1) = false := decide_eq_false (by omega)
  have hl2 : decide (65535 < po) = false := decide_eq_false (by omega)
  have hqe : pr.toList.isEmpty = false := emp_not hq
  rw [hq2] at HPr
  clear hq hq2 h1 h2
  go_upto_region 22 with (first | (go_at_call 19; refine (HC.out _).mono ?_; rintro e w2 ⟨rfl, hb⟩; have HB2 := Lib.hid (HB.out.below hb); obtain ⟨⟨b0, b1, b2, b3⟩, ⟨c0, c1, c2, c3⟩, ⟨f0, f1, f2, f3⟩⟩ := HB2.out.facts; clear hb) | (go_at_call 20; refine (HV.out _).mono ?_; rintro e w2 ⟨rfl, rfl⟩) | (go_at_call 21; refine (HPr.out _).mono ?_; rintro e w2 ⟨rfl, rfl⟩))
  refine wp_region_held_drew (S := fun W => (W.cell? ⟨w.heap.size, 0, none⟩ = some (.int .i64 4) ∧ W.cell? ⟨w.heap.size, 1, none⟩ = some (.string nm) ∧ W.cell? ⟨w.heap.size, 2, none⟩ = some (.string pr) ∧ W.cell? ⟨w.heap.size, 3, none⟩ = some (.int .i64 po))) (by kernel_rfl) (⟨a0, a1, a2, a3⟩) (fun hHeld => ?_)
  try simp only [Act.put, List.setIfInBounds_toArray, List.set_cons_zero, List.set_cons_succ]
  refine wpAnyH_take (i := 0) (oi := { dst := some 93, op := Op.fieldAddr 23 (Operand.tmp 1) 0, type := 0, pos := "ref.go:431", after := #[], guard := none }) (v := ?_) rfl (by kernel_rfl) (by kernel_rfl) (by kernel_rfl) (fun _ _ _ h => h) (Or.inl ⟨by rfl, ?_⟩) (by assumption) ?_
  rotate_left 1
  · (intro w hSw; (try dsimp only at hSw); go_simp; all_goals (first | with_reducible rfl | (simp; done)))
  try simp only [Act.put, List.setIfInBounds_toArray, List.set_cons_zero, List.set_cons_succ]
  refine wpAnyH_take (i := 1) (oi := { dst := some 94, op := Op.load 3 (Operand.tmp 93), type := 3, pos := "ref.go:431", after := #[{ on := 0, ground := Ground.data }], guard := none }) (v := ?_) rfl (by kernel_rfl) (by kernel_rfl) (by kernel_rfl) (fun _ _ _ h => h) (Or.inl ⟨by rfl, ?_⟩) (by assumption) ?_
  rotate_left 1
  · (intro w hSw; (try dsimp only at hSw); go_simp; all_goals (first | with_reducible rfl | (simp; done)))
  try simp only [Act.put, List.setIfInBounds_toArray, List.set_cons_zero, List.set_cons_succ]
  refine wpAnyH_take (i := 2) (oi := { dst := some 95, op := Op.fieldAddr 23 (Operand.tmp 1) 3, type := 0, pos := "ref.go:431", after := #[], guard := none }) (v := ?_) rfl (by kernel_rfl) (by kernel_rfl) (by kernel_rfl) (fun _ _ _ h => h) (Or.inl ⟨by rfl, ?_⟩) (by assumption) ?_
  rotate_left 1
  · (intro w hSw; (try dsimp only at hSw); go_simp; all_goals (first | with_reducible rfl | (simp; done)))
  try simp only [Act.put, List.setIfInBounds_toArray, List.set_cons_zero, List.set_cons_succ]
  refine wpAnyH_take (i := 3) (oi := { dst := some 96, op := Op.load 3 (Operand.tmp 95), type := 3, pos := "ref.go:431", after := #[{ on := 2, ground := Ground.data }], guard := none }) (v := ?_) rfl (by kernel_rfl) (by kernel_rfl) (by kernel_rfl) (fun _ _ _ h => h) (Or.inl ⟨by rfl, ?_⟩) (by assumption) ?_
  rotate_left 1
  · (intro w hSw; (try dsimp only at hSw); go_simp; all_goals (first | with_reducible rfl | (simp; done)))
  try simp only [Act.put, List.setIfInBounds_toArray, List.set_cons_zero, List.set_cons_succ]
  refine wpAnyH_take (i := 4) (oi := { dst := some 97, op := Op.fieldAddr 23 (Operand.tmp 1) 2, type := 0, pos := "ref.go:431", after := #[], guard := none }) (v := ?_) rfl (by kernel_rfl) (by kernel_rfl) (by kernel_rfl) (fun _ _ _ h => h) (Or.inl ⟨by rfl, ?_⟩) (by assumption) ?_
  rotate_left 1
  · (intro w hSw; (try dsimp only at hSw); go_simp; all_goals (first | with_reducible rfl | (simp; done)))
  try simp only [Act.put, List.setIfInBounds_toArray, List.set_cons_zero, List.set_cons_succ]
  refine wpAnyH_take (i := 5) (oi := { dst := some 98, op := Op.load 9 (Operand.tmp 97), type := 9, pos := "ref.go:431", after := #[{ on := 4, ground := Ground.data }], guard := none }) (v := ?_) rfl (by kernel_rfl) (by kernel_rfl) (by kernel_rfl) (fun _ _ _ h => h) (Or.inl ⟨by rfl, ?_⟩) (by assumption) ?_
  rotate_left 1
  · (intro w hSw; (try dsimp only at hSw); go_simp; all_goals (first | with_reducible rfl | (simp; done)))
  try simp only [Act.put, List.setIfInBounds_toArray, List.set_cons_zero, List.set_cons_succ]
  refine wpAnyH_ready (rs := [6]) (by kernel_rfl) (by simp) ?_
  refine AllReadyH.cons (o := { dst := some 99, op := Op.call { callee := Callee.value (Operand.func 22), args := #[Operand.tmp 98], argTypes := #[9] }, type := 9, pos := "ref.go:431", after := #[{ on := 5, ground := Ground.data }], guard := none }) rfl (fun K hK => ?_) AllReadyH.nil
  go_simp
  go_at_call 22
  refine (HF.out _).mono ?_
  rintro e w2 ⟨rfl, hb⟩
  have HB2 := Lib.hid (HB.out.drew.below hb)
  obtain ⟨⟨b0, b1, b2, b3⟩, ⟨c0, c1, c2, c3⟩, ⟨f0, f1, f2, f3⟩⟩ := HB2.out.facts
  clear hb
  try go_wp2_with fail
  refine hK.out _ _ ?_ (fun hHeld => ?_)
  · ((try dsimp only); exact ⟨b0, b1, b2, b3⟩)
  clear hK K
  try simp only [Act.put, List.setIfInBounds_toArray, List.set_cons_zero, List.set_cons_succ]
  refine wpAnyH_take (i := 7) (oi := { dst := some 100, op := Op.build 23 #[(0, Operand.tmp 94), (3, Operand.tmp 96), (2, Operand.tmp 99)], type := 23, pos := "ref.go:431", after := #[{ on := 1, ground := Ground.data }, { on := 3, ground := Ground.data }, { on := 6, ground := Ground.data }], guard := none }) (v := ?_) rfl (by kernel_rfl) (by kernel_rfl) (by kernel_rfl) (fun _ _ _ h => h) (Or.inl ⟨by rfl, ?_⟩) (by assumption) ?_
  rotate_left 1
  · (intro w hSw; (try dsimp only at hSw); go_simp; all_goals (first | with_reducible rfl | (simp; done)))
  try simp only [Act.put, List.setIfInBounds_toArray, List.set_cons_zero, List.set_cons_succ]
  refine wpAnyH_ready (rs := [8]) (by kernel_rfl) (by simp) ?_
  refine AllReadyH.cons (o := { dst := none, op := Op.store 23 (Operand.tmp 2) (Operand.tmp 100), type := 0, pos := "ref.go:431", after := #[{ on := 7, ground := Ground.data }, { on := 6, ground := Ground.chain }, { on := 0, ground := Ground.phase }, { on := 1, ground := Ground.phase }, { on := 2, ground := Ground.phase }, { on := 3, ground := Ground.phase }, { on := 4, ground := Ground.phase }, { on := 5, ground := Ground.phase }, { on := 6, ground := Ground.phase }, { on := 7, ground := Ground.phase }], guard := none }) rfl (fun K hK => ?_) AllReadyH.nil
  go_simp
  refine hK.out _ _ ?_ (fun hHeld => ?_)
  · ((try dsimp only); exact HB2.out.box4 _ _ _ _ _ rfl)
  clear hK K
  try simp only [Act.put, List.setIfInBounds_toArray, List.set_cons_zero, List.set_cons_succ]
  refine wpAnyH_take (i := 9) (oi := { dst := some 3, op := Op.assign (Operand.const (Value.int IntKind.i64 0)), type := 30, pos := "ref.go:431", after := #[{ on := 8, ground := Ground.chain }, { on := 0, ground := Ground.phase }, { on := 1, ground := Ground.phase }, { on := 2, ground := Ground.phase }, { on := 3, ground := Ground.phase }, { on := 4, ground := Ground.phase }, { on := 5, ground := Ground.phase }, { on := 6, ground := Ground.phase }, { on := 7, ground := Ground.phase }, { on := 8, ground := Ground.phase }], guard := none }) (v := ?_) rfl (by kernel_rfl) (by kernel_rfl) (by kernel_rfl) (fun _ _ _ h => h) (Or.inl ⟨by rfl, ?_⟩) (by assumption) ?_
  rotate_left 1
  · (intro w hSw; (try dsimp only at hSw); go_simp; all_goals (first | with_reducible rfl | (simp; done)))
  try simp only [Act.put, List.setIfInBounds_toArray, List.set_cons_zero, List.set_cons_succ]
  refine wpAnyH_done (by kernel_rfl) ?_ _
  go_wp2
  refine bodyPost_ret (results_row2 rfl _ _ (w.heap.size + 1) _ _ _ _ rfl (set4_at HB2.out.res _ _ _ _) Tryd.underlying23 rfl sz_q4) rfl ?_
  exact ⟨rfl, bel_set4 HB2.out.bel (Nat.le_succ _) _ _ _ _⟩
set_option maxHeartbeats 4000000 in
set_option maxRecDepth 100000 in
theorem rc_port_bad (nm pr : ByteArray) (po : Int) (h1 : 1 ≤ po) (h2 : po ≤ 65535) (hq : pr.data.toList ≠ []) (hq2 : protoB pr.data.toList = false) (w : World) (hs : nm.size ≤ 1000000) (hp : pr.size ≤ 1000000) :
    Calls Tryd.prog 9 #[.agg #[.int .i64 4, .string nm, .string pr, .int .i64 po]] w (QRes w (checkP ⟨4, nm, pr, po⟩).1 (checkP ⟨4, nm, pr, po⟩).2) := by
  have HC : Hid (∀ W, Calls Tryd.prog 19 #[.string nm] W fun e w' => e = .returned (cleanV nm.data.toList) ∧ Below W.heap.size W w') := Lib.hid (fun W => rclean_any nm W hs)
  have HV : Hid (∀ W, Calls Tryd.prog 20 #[.string nm] W fun e w' => e = .returned (.bool (svcB nm.data.toList)) ∧ w' = W) := Lib.hid (fun W => rsvc_any nm W hs)
  have HPr : Hid (∀ W, Calls Tryd.prog 21 #[.string pr] W fun e w' => e = .returned (.bool (protoB pr.data.toList)) ∧ W = w') := Lib.hid (fun W => rproto_any pr W hp)
  have HF : Hid (∀ W, Calls Tryd.prog 22 #[.string pr] W fun e w' => e = .returned (.string (foldS pr)) ∧ Below W.heap.size W w') := Lib.hid (fun W => rfold_any pr W (by unfold maxLen; omega))
  have HQ : Hid (∀ W, (w.alloc (.cells #[.int .i64 4, .string nm, .string pr, .int .i64 po] 23)).alloc (.cells #[.int .i64 0, .string ⟨#[]⟩, .string ⟨#[]⟩, .int .i64 0] 23) = W → QB w W ⟨4, nm, pr, po⟩) := Lib.hid (fun W hW => QB.made w _ W hW)
  have HE : Hid (∃ r c, checkP ⟨4, nm, pr, po⟩ = (r, c) ∧ r = zQ ∧ c = 7) := Lib.hid (by
    unfold checkP
    rw [if_neg (by simp), if_neg (by simp), if_neg (by simp), if_pos rfl, if_neg (by rintro ⟨_, h⟩; dsimp only at h; rw [protoOK_no hq hq2] at h; cases h)]
    exact ⟨_, _, rfl, rfl, rfl⟩)
  obtain ⟨r, c, he, hr, hc⟩ := HE.out
  rw [he]
  dsimp only
  rw [hr, hc]
  clear he hr hc r c HE hp
  go_enter Tryd.func9, Tryd.ntmps9
  go_upto_region 1 with (fail)
  obtain ⟨W, hW⟩ : ∃ W, (w.alloc (.cells #[.int .i64 4, .string nm, .string pr, .int .i64 po] 23)).alloc (.cells #[.int .i64 0, .string ⟨#[]⟩, .string ⟨#[]⟩, .int .i64 0] 23) = W := ⟨_, rfl⟩
  have HB := Lib.hid (HQ.out W hW)
  rw [hW]
  clear hW HQ
  obtain ⟨⟨a0, a1, a2, a3⟩, ⟨d0, d1, d2, d3⟩, ⟨g0, g1, g2, g3⟩⟩ := HB.out.facts
  have hl1 : decide (po < 1) = false := decide_eq_false (by omega)
  have hl2 : decide (65535 < po) = false := decide_eq_false (by omega)
  have hqe : pr.toList.isEmpty = false := emp_not hq
  rw [hq2] at HPr
  clear hq hq2 h1 h2
  go_wp2_with (first | (go_at_call 19; refine (HC.out _).mono ?_; rintro e w2 ⟨rfl, hb⟩; have HB2 := Lib.hid (HB.out.below hb); obtain ⟨⟨b0, b1, b2, b3⟩, ⟨c0, c1, c2, c3⟩, ⟨f0, f1, f2, f3⟩⟩ := HB2.out.facts; clear hb) | (go_at_call 20; refine (HV.out _).mono ?_; rintro e w2 ⟨rfl, rfl⟩) | (go_at_call 21; refine (HPr.out _).mono ?_; rintro e w2 ⟨rfl, rfl⟩))
  refine bodyPost_ret (results_row2 rfl _ _ (w.heap.size + 1) _ _ _ _ rfl (set4_at HB.out.res _ _ _ _) Tryd.underlying23 rfl sz_q4) rfl ?_
  exact ⟨rfl, bel_set4 HB.out.bel (Nat.le_succ _) _ _ _ _⟩
set_option maxHeartbeats 4000000 in
set_option maxRecDepth 100000 in
theorem rc_other (db : Int) (nm pr : ByteArray) (po : Int) (h1 : ¬ db = 1) (h2 : ¬ db = 2) (h3 : ¬ db = 3) (h4 : ¬ db = 4) (w : World) (hs : nm.size ≤ 1000000) (hp : pr.size ≤ 1000000) :
    Calls Tryd.prog 9 #[.agg #[.int .i64 db, .string nm, .string pr, .int .i64 po]] w (QRes w (checkP ⟨db, nm, pr, po⟩).1 (checkP ⟨db, nm, pr, po⟩).2) := by
  have HC : Hid (∀ W, Calls Tryd.prog 19 #[.string nm] W fun e w' => e = .returned (cleanV nm.data.toList) ∧ Below W.heap.size W w') := Lib.hid (fun W => rclean_any nm W hs)
  have HV : Hid (∀ W, Calls Tryd.prog 20 #[.string nm] W fun e w' => e = .returned (.bool (svcB nm.data.toList)) ∧ w' = W) := Lib.hid (fun W => rsvc_any nm W hs)
  have HPr : Hid (∀ W, Calls Tryd.prog 21 #[.string pr] W fun e w' => e = .returned (.bool (protoB pr.data.toList)) ∧ W = w') := Lib.hid (fun W => rproto_any pr W hp)
  have HF : Hid (∀ W, Calls Tryd.prog 22 #[.string pr] W fun e w' => e = .returned (.string (foldS pr)) ∧ Below W.heap.size W w') := Lib.hid (fun W => rfold_any pr W (by unfold maxLen; omega))
  have HQ : Hid (∀ W, (w.alloc (.cells #[.int .i64 db, .string nm, .string pr, .int .i64 po] 23)).alloc (.cells #[.int .i64 0, .string ⟨#[]⟩, .string ⟨#[]⟩, .int .i64 0] 23) = W → QB w W ⟨db, nm, pr, po⟩) := Lib.hid (fun W hW => QB.made w _ W hW)
  have HE : Hid (∃ r c, checkP ⟨db, nm, pr, po⟩ = (r, c) ∧ r = zQ ∧ c = 7) := Lib.hid (by
    unfold checkP
    rw [if_neg h1, if_neg h2, if_neg h3, if_neg h4]
    exact ⟨_, _, rfl, rfl, rfl⟩)
  obtain ⟨r, c, he, hr, hc⟩ := HE.out
  rw [he]
  dsimp only
  rw [hr, hc]
  clear he hr hc r c HE hp
  go_enter Tryd.func9, Tryd.ntmps9
  go_upto_region 1 with (fail)
  obtain ⟨W, hW⟩ : ∃ W, (w.alloc (.cells #[.int .i64 db, .string nm, .string pr, .int .i64 po] 23)).alloc (.cells #[.int .i64 0, .string ⟨#[]⟩, .string ⟨#[]⟩, .int .i64 0] 23) = W := ⟨_, rfl⟩
  have HB := Lib.hid (HQ.out W hW)
  rw [hW]
  clear hW HQ
  obtain ⟨⟨a0, a1, a2, a3⟩, ⟨d0, d1, d2, d3⟩, ⟨g0, g1, g2, g3⟩⟩ := HB.out.facts
  have e1 : (db == 1) = false := by simpa using h1
  have e2 : (db == 2) = false := by simpa using h2
  have e3 : (db == 3) = false := by simpa using h3
  have e4 : (db == 4) = false := by simpa using h4
  clear h1 h2 h3 h4
  go_wp2_with (first | (go_at_call 19; refine (HC.out _).mono ?_; rintro e w2 ⟨rfl, hb⟩; have HB2 := Lib.hid (HB.out.below hb); obtain ⟨⟨b0, b1, b2, b3⟩, ⟨c0, c1, c2, c3⟩, ⟨f0, f1, f2, f3⟩⟩ := HB2.out.facts; clear hb) | (go_at_call 20; refine (HV.out _).mono ?_; rintro e w2 ⟨rfl, rfl⟩) | (go_at_call 21; refine (HPr.out _).mono ?_; rintro e w2 ⟨rfl, rfl⟩))
  refine bodyPost_ret (results_row2 rfl _ _ (w.heap.size + 1) _ _ _ _ rfl (set4_at HB.out.res _ _ _ _) Tryd.underlying23 rfl sz_q4) rfl ?_
  exact ⟨rfl, bel_set4 HB.out.bel (Nat.le_succ _) _ _ _ _⟩
/-- The document's Check, whatever the query. -/
theorem rcheck_any (q : QryL) (w : World) (hs : q.name.size ≤ 1000000) (hp : q.proto.size ≤ 1000000) :
    Calls Tryd.prog 9 #[qV q] w (QRes w (checkP q).1 (checkP q).2) := by
  obtain ⟨db, nm, pr, po⟩ := q
  show Calls Tryd.prog 9 #[.agg #[.int .i64 db, .string nm, .string pr, .int .i64 po]] w _
  by_cases h1 : db = 1
  · subst h1
    by_cases hn : nameB (bare nm.data.toList) = true
    · cases hr : isRoot nm.data.toList
      · exact rc_name_false nm pr po hn hr w hs hp
      · exact rc_name_true nm pr po hn hr w hs hp
    · exact rc_name_bad nm pr po hn w hs hp
  · by_cases h2 : db = 2
    · subst h2
      by_cases h4 : nm.size = 4
      · exact rc_addr_4 nm pr po h4 w hs hp
      · by_cases h16 : nm.size = 16
        · exact rc_addr_16 nm pr po h16 w hs hp
        · exact rc_addr_bad nm pr po h4 h16 w hs hp
    · by_cases h3 : db = 3
      · subst h3
        cases hv : svcB nm.data.toList
        · exact rc_svc_none_such nm pr po hv w hs hp
        · by_cases hq : pr.data.toList = []
          · exact rc_svc_none nm pr po hv hq w hs hp
          · cases hq2 : protoB pr.data.toList
            · exact rc_svc_bad nm pr po hv hq hq2 w hs hp
            · exact rc_svc_ok nm pr po hv hq hq2 w hs hp
      · by_cases h4 : db = 4
        · subst h4
          by_cases hl : po < 1
          · exact rc_port_low nm pr po hl w hs hp
          · by_cases hh : 65535 < po
            · exact rc_port_high nm pr po hh w hs hp
            · by_cases hq : pr.data.toList = []
              · exact rc_port_none nm pr po (by omega) (by omega) hq w hs hp
              · cases hq2 : protoB pr.data.toList
                · exact rc_port_bad nm pr po (by omega) (by omega) hq hq2 w hs hp
                · exact rc_port_ok nm pr po (by omega) (by omega) hq hq2 w hs hp
        · exact rc_other db nm pr po h1 h2 h3 h4 w hs hp
end Go.Proofs.YtaoapkbfcofamaaDoor

namespace Go.Proofs.YtaoapkbfcofamaaDoor
open Go.RowKit Go.Lib Go.Tx Go.WideShapes
/-- Two queries are one. -/
def eqQ (a b : QryL) : Bool := decide (a.db = b.db) && (decide (a.name = b.name) && (decide (a.proto = b.proto) && decide (a.port = b.port)))
theorem eqQ_iff (a b : QryL) : eqQ a b = true ↔ a = b := by
  obtain ⟨a1, a2, a3, a4⟩ := a
  obtain ⟨b1, b2, b3, b4⟩ := b
  unfold eqQ
  simp only [Bool.and_eq_true, decide_eq_true_eq, QryL.mk.injEq]
theorem list_beq (a b : ByteArray) : (a.toList == b.toList) = decide (a = b) := by
  rw [Go.Lib.toList_data, Go.Lib.toList_data, Bool.eq_iff_iff]
  simp only [beq_iff_eq, decide_eq_true_eq]
  exact ⟨fun h => ByteArray.ext (Array.toList_inj.1 h), fun h => by rw [h]⟩
set_option maxHeartbeats 4000000 in
set_option maxRecDepth 100000 in
theorem reqq_any (a b : QryL) (w : World) : Calls Tryd.prog 11 #[qV a, qV b] w fun e w' => e = .returned (.bool (eqQ a b)) ∧ Below w.heap.size w w' := by
  obtain ⟨a1, a2, a3, a4⟩ := a
  obtain ⟨b1, b2, b3, b4⟩ := b
  have h1 : (a1 == b1) = decide (a1 = b1) := by rw [Bool.eq_iff_iff]; simp
  have h2 := list_beq a2 b2
  have h3 := list_beq a3 b3
  have h4 : (a4 == b4) = decide (a4 = b4) := by rw [Bool.eq_iff_iff]; simp
  have HE : Hid (eqQ ⟨a1, a2, a3, a4⟩ ⟨b1, b2, b3, b4⟩ = (decide (a1 = b1) && (decide (a2 = b2) && (decide (a3 = b3) && decide (a4 = b4))))) := Lib.hid rfl
  show Calls Tryd.prog 11 #[.agg #[.int .i64 a1, .string a2, .string a3, .int .i64 a4], .agg #[.int .i64 b1, .string b2, .string b3, .int .i64 b4]] w _
  rw [HE.out]
  clear HE
  obtain ⟨rb, hrb⟩ : ∃ rb, (decide (a1 = b1) && (decide (a2 = b2) && (decide (a3 = b3) && decide (a4 = b4)))) = rb := ⟨_, rfl⟩
  have HR := Lib.hid hrb
  rw [hrb]
  clear hrb
  have HQ : Hid (∀ W, (w.alloc (.cells #[.int .i64 a1, .string a2, .string a3, .int .i64 a4] 23)).alloc (.cells #[.int .i64 b1, .string b2, .string b3, .int .i64 b4] 23) = W → W.heap[w.heap.size]? = some (.cells #[.int .i64 a1, .string a2, .string a3, .int .i64 a4] 23 (0, 0)) ∧ W.heap[w.heap.size + 1]? = some (.cells #[.int .i64 b1, .string b2, .string b3, .int .i64 b4] 23 (0, 0)) ∧ Below w.heap.size w W) := Lib.hid (fun W hW => by
    obtain ⟨W', hW', h1, h2, _, h4⟩ := two_q w (.cells #[.int .i64 a1, .string a2, .string a3, .int .i64 a4] 23) (.cells #[.int .i64 b1, .string b2, .string b3, .int .i64 b4] 23)
    rw [hW] at hW'
    subst hW'
    exact ⟨h1, h2, h4⟩)
  go_enter Tryd.func11, Tryd.ntmps11
  go_upto_region 1 with (fail)
  obtain ⟨W, hW⟩ : ∃ W, (w.alloc (.cells #[.int .i64 a1, .string a2, .string a3, .int .i64 a4] 23)).alloc (.cells #[.int .i64 b1, .string b2, .string b3, .int .i64 b4] 23) = W := ⟨_, rfl⟩
  obtain ⟨hA, hB, hb⟩ := HQ.out W hW
  have HB := Lib.hid hb
  have c0 : W.cell? ⟨w.heap.size, 0, none⟩ = some (.int .i64 a1) := cellJ hA rfl
  have c1 : W.cell? ⟨w.heap.size, 1, none⟩ = some (.string a2) := cellJ hA rfl
  have c2 : W.cell? ⟨w.heap.size, 2, none⟩ = some (.string a3) := cellJ hA rfl
  have c3 : W.cell? ⟨w.heap.size, 3, none⟩ = some (.int .i64 a4) := cellJ hA rfl
  have d0 : W.cell? ⟨w.heap.size + 1, 0, none⟩ = some (.int .i64 b1) := cellJ hB rfl
  have d1 : W.cell? ⟨w.heap.size + 1, 1, none⟩ = some (.string b2) := cellJ hB rfl
  have d2 : W.cell? ⟨w.heap.size + 1, 2, none⟩ = some (.string b3) := cellJ hB rfl
  have d3 : W.cell? ⟨w.heap.size + 1, 3, none⟩ = some (.int .i64 b4) := cellJ hB rfl
  rw [hW]
  clear hW HQ hA hB hb
  generalize decide (a1 = b1) = t1 at *
  generalize decide (a2 = b2) = t2 at *
  generalize decide (a3 = b3) = t3 at *
  generalize decide (a4 = b4) = t4 at *
  cases t1
  · go_wp2
    go_ret
    exact ⟨by rw [← HR.out]; first | rfl | simp, HB.out⟩
  · cases t2
    · go_wp2
      go_ret
      exact ⟨by rw [← HR.out]; first | rfl | simp, HB.out⟩
    · cases t3
      · go_wp2
        go_ret
        exact ⟨by rw [← HR.out]; first | rfl | simp, HB.out⟩
      · go_wp2
        go_ret
        exact ⟨by rw [← HR.out]; first | rfl | simp, HB.out⟩
theorem setN1 {w : World} {b c : Nat} (h : c ≠ b) (j : Nat) (v : Value) : (w.setCell ⟨b, j, none⟩ v).heap[c]? = w.heap[c]? := by
  simp [World.setCell, Array.getElem?_modify]
  intro e
  omega
/-- A text, cut. -/
def cutB (n : Nat) (s : ByteArray) : ByteArray := ⟨(s.data.toList.take n).toArray⟩
theorem cutB_le (n : Nat) (s : ByteArray) : (cutB n s).size ≤ n := by
  unfold cutB
  show (List.take n _).toArray.size ≤ n
  rw [List.size_toArray, List.length_take]
  omega
theorem cut2_short (s : ByteArray) (n : Int) (w : World) (hs : s.size ≤ maxLen) (h : (s.size : Int) ≤ n) :
    Calls Tryd.prog 14 #[.string s, .int .i64 n] w fun e w' => e = .returned (.string s) ∧ w' = w := by
  unfold maxLen at hs
  go_enter Tryd.func14, Tryd.ntmps14
  go_wp2
  go_ret
  exact ⟨rfl, rfl⟩
theorem cut2_long (s : ByteArray) (n : Nat) (w : World) (hs : s.size ≤ maxLen) (h : n < s.size) :
    Calls Tryd.prog 14 #[.string s, .int .i64 n] w fun e w' => e = .returned (.string (s.extract 0 n)) ∧ w' = w := by
  unfold maxLen at hs
  go_enter Tryd.func14, Tryd.ntmps14
  go_wp2
  go_ret
  exact ⟨rfl, rfl⟩
theorem cut2_any (s : ByteArray) (n : Nat) (w : World) (hs : s.size ≤ maxLen) :
    Calls Tryd.prog 14 #[.string s, .int .i64 n] w fun e w' => e = .returned (.string (cutB n s)) ∧ w' = w := by
  by_cases h : s.size ≤ n
  · have e : cutB n s = s := by
      unfold cutB
      rw [List.take_of_length_le (by rw [Array.length_toList]; exact h)]
    rw [e]
    exact cut2_short s n w hs (by omega)
  · have e : cutB n s = s.extract 0 n := by
      apply ByteArray.ext
      unfold cutB
      rw [ByteArray.data_extract]
      apply Array.ext'
      simp
    rw [e]
    exact cut2_long s n w hs (by omega)
def cutQ (q : QryL) : QryL := ⟨q.db, cutB 300 q.name, cutB 20 q.proto, q.port⟩
theorem results_row1 {P : Program} {fn : Func} {p : Tmp} {ty : TypeId} (h : fn.results = #[.cell p ty]) (tmps : Array Value) (w : World) (g : Nat) (t : TypeId) (cs : Array Value) (fr : Nat × Nat) (d : TypeDesc)
    (hp : tmps.getD p undef = .pointer (some ⟨g, 0, none⟩)) (hg : w.heap[g]? = some (.cells cs t fr))
    (hu : P.underlying ty = some d) (hd : (match d with | .struct _ | .array _ _ => true | _ => false) = true) (hi : (P.info? ty).map (·.size) = some cs.size) :
    (results fn tmps).run P w = .ok (.agg cs) w := by
  have hp' : tmps[p]?.getD undef = .pointer (some ⟨g, 0, none⟩) := by rw [← hp]; simp [Array.getD_eq_getD_getElem?]
  simp only [results, h]
  simp [Sem.run_bind, hp', asAddr, run_loadVar_row w g t ty cs fr d hg hu hd hi, Result.andThen]
set_option maxHeartbeats 4000000 in
set_option maxRecDepth 100000 in
theorem cutq_any (q : QryL) (w : World) (hs : q.name.size ≤ maxLen) (hp : q.proto.size ≤ maxLen) :
    Calls Tryd.prog 7 #[qV q] w fun e w' => e = .returned (qV (cutQ q)) ∧ Below w.heap.size w w' := by
  obtain ⟨db, nm, pr, po⟩ := q
  have HC1 : Hid (∀ W, Calls Tryd.prog 14 #[.string nm, .int .i64 300] W fun e w' => e = .returned (.string (cutB 300 nm)) ∧ w' = W) := Lib.hid (fun W => cut2_any nm 300 W hs)
  have HC2 : Hid (∀ W, Calls Tryd.prog 14 #[.string pr, .int .i64 20] W fun e w' => e = .returned (.string (cutB 20 pr)) ∧ w' = W) := Lib.hid (fun W => cut2_any pr 20 W hp)
  show Calls Tryd.prog 7 #[.agg #[.int .i64 db, .string nm, .string pr, .int .i64 po]] w fun e w' => e = .returned (.agg #[.int .i64 db, .string (cutB 300 nm), .string (cutB 20 pr), .int .i64 po]) ∧ Below w.heap.size w w'
  clear hs hp
  generalize cutB 300 nm = n2 at *
  generalize cutB 20 pr = p2 at *
  have HQ : Hid (∀ W, (w.alloc (.cells #[.int .i64 db, .string nm, .string pr, .int .i64 po] 23)).alloc (.cells #[.int .i64 0, .string ⟨#[]⟩, .string ⟨#[]⟩, .int .i64 0] 23) = W → QB w W ⟨db, nm, pr, po⟩) := Lib.hid (fun W hW => QB.made w _ W hW)
  go_enter Tryd.func7, Tryd.ntmps7
  go_upto_region 1 with (fail)
  obtain ⟨W, hW⟩ : ∃ W, (w.alloc (.cells #[.int .i64 db, .string nm, .string pr, .int .i64 po] 23)).alloc (.cells #[.int .i64 0, .string ⟨#[]⟩, .string ⟨#[]⟩, .int .i64 0] 23) = W := ⟨_, rfl⟩
  have HB := Lib.hid (HQ.out W hW)
  rw [hW]
  clear hW HQ
  obtain ⟨⟨a0, a1, a2, a3⟩, ⟨d0, d1, d2, d3⟩, ⟨g0, g1, g2, g3⟩⟩ := HB.out.facts
  have b0 := freeJ HB.out.box 0
  have b1 := freeJ HB.out.box 1
  have b2 := freeJ HB.out.box 2
  have b3 := freeJ HB.out.box 3
  go_wp2_with (first | (go_at_call 14; with_reducible refine (HC1.out _).mono ?_; rintro e w2 ⟨rfl, rfl⟩) | (go_at_call 14; refine (HC2.out _).mono ?_; rintro e w2 ⟨rfl, rfl⟩))
  refine bodyPost_ret (results_row1 rfl _ _ (w.heap.size + 1) _ _ _ _ rfl (set4_at ((setN1 (by omega) _ _).trans ((setN1 (by omega) _ _).trans HB.out.res)) _ _ _ _) Tryd.underlying23 rfl sz_q4) rfl ?_
  exact ⟨rfl, bel_set4 (bel_set (bel_set HB.out.bel (Nat.le_refl _) _ _) (Nat.le_refl _) _ _) (Nat.le_succ _) _ _ _ _⟩
/-! ### A query as an argument. -/
theorem list4q {α : Type} : ∀ l : List α, l.length = 4 → ∃ c0 c1 c2 c3, l = [c0, c1, c2, c3]
  | [c0, c1, c2, c3], _ => ⟨c0, c1, c2, c3, rfl⟩
theorem some_ofQ {α : Type} {xs : List α} {i n : Nat} (h : xs.length = n) (hi : i < n) : ∃ y, xs[i]? = some y := ⟨_, List.getElem?_eq_getElem (by omega)⟩
theorem fldQ {H : Type} {enc : TypeId × Value → H} {P : Program} {w : World} {b : Nat} {sp : Nat → Bool} {hd : Bool} {m : Nat} {t : TypeId} {l seg : List Value} {o k : Nat} {z : Option (DataW H × List MemPlace)} {y : DataW H × List MemPlace}
    (h : DataW.trod enc P w b sp hd m t (List.take (P.cellsOf t) (List.drop o l)) = z) (hc : P.cellsOf t = k) (hs : (l.drop o).take k = seg) (hz : z = some y) : DataW.trod enc P w b sp hd m t seg = some y := by
  rw [hc, hs] at h
  exact h.trans hz
/-- A query that came in: its texts are no longer than texts can be, its numbers are numbers. -/
def QIn (q : QryL) : Prop := q.name.size ≤ maxLen ∧ q.proto.size ≤ maxLen ∧ (Lit.int .i64 q.db).wf = true ∧ (Lit.int .i64 q.port).wf = true
set_option maxRecDepth 100000 in
theorem isQry_of {H : Type} {enc : TypeId × Value → H} {w : World} {v : Value} {d : DataW H} {ps : List MemPlace} (hv : ∃ cs, v = .agg cs ∧ cs.size = Tryd.prog.cellsOf 23)
    (h : DataW.Trod enc Tryd.prog w 0 (fun _ => true) true 23 v d ps) : ∃ q, v = qV q ∧ QIn q := by
  obtain ⟨cs, rfl, _⟩ := hv
  obtain ⟨fuel, hf⟩ := h
  have cI : Tryd.prog.cellsOf 3 = 1 := by kernel_rfl
  have cS : Tryd.prog.cellsOf 9 = 1 := by kernel_rfl
  have cM : Tryd.prog.cellsOf 23 = 4 := by kernel_rfl
  obtain ⟨xs, m, _, _, hl, hx, hg⟩ := DataW.trod_struct Tryd.underlying23 hf
  rw [cM] at hl
  have hc : (Value.agg cs).cells = cs := rfl
  rw [hc] at hl hg
  obtain ⟨l, hL⟩ : ∃ l, cs.toList = l := ⟨_, rfl⟩
  rw [hL] at hl hg
  obtain ⟨c0, c1, c2, c3, rfl⟩ := list4q l hl
  obtain ⟨y0, hy0⟩ := some_ofQ hx (i := 0) (by decide)
  obtain ⟨y1, hy1⟩ := some_ofQ hx (i := 1) (by decide)
  obtain ⟨y2, hy2⟩ := some_ofQ hx (i := 2) (by decide)
  obtain ⟨y3, hy3⟩ := some_ofQ hx (i := 3) (by decide)
  obtain ⟨i, hi, _, hw0⟩ := DataW.trod_int Tryd.underlying3 (fldQ (t := 3) (seg := [c0]) (hg 0 _ rfl) cI rfl hy0)
  obtain ⟨s, hs, _, hz1⟩ := DataW.trod_string Tryd.underlying9 (fldQ (t := 9) (seg := [c1]) (hg 1 _ rfl) cS rfl hy1)
  obtain ⟨r, hr, _, hz2⟩ := DataW.trod_string Tryd.underlying9 (fldQ (t := 9) (seg := [c2]) (hg 2 _ rfl) cS rfl hy2)
  obtain ⟨k, hk, _, hw3⟩ := DataW.trod_int Tryd.underlying3 (fldQ (t := 3) (seg := [c3]) (hg 3 _ rfl) cI rfl hy3)
  have hcs : cs = #[c0, c1, c2, c3] := by
    obtain ⟨l⟩ := cs
    simp only at hL
    rw [hL]
  cases hi; cases hs; cases hr; cases hk
  exact ⟨⟨i, s, r, k⟩, by rw [hcs]; rfl, hz1, hz2, hw0, hw3⟩
end Go.Proofs.YtaoapkbfcofamaaDoor

namespace Go.Tx
open Go.Lib
theorem low_all : ∀ i : Fin 256, low (low (UInt8.ofNat i.1)) = low (UInt8.ofNat i.1) ∧ (low (UInt8.ofNat i.1) = 46 ↔ UInt8.ofNat i.1 = 46) ∧ sign (low (UInt8.ofNat i.1)).toNat = sign (UInt8.ofNat i.1).toNat := by decide +kernel
theorem low_facts (c : UInt8) : low (low c) = low c ∧ (low c = 46 ↔ c = 46) ∧ sign (low c).toNat = sign c.toNat := by
  have := low_all ⟨c.toNat, c.toNat_lt⟩
  simpa using this
theorem split_low : ∀ (l cur : List UInt8), splitG 46 (cur.map low) (l.map low) = (splitG 46 cur l).map (List.map low)
  | [], cur => by simp [splitG]
  | c :: l, cur => by
    simp only [List.map_cons, splitG]
    by_cases h : c = 46
    · rw [if_pos ((low_facts c).2.1.2 h), if_pos h]
      simp only [List.map_cons]
      congr 1
      exact split_low l []
    · rw [if_neg (fun e => h ((low_facts c).2.1.1 e)), if_neg h]
      have := split_low l (cur ++ [c])
      simpa using this
theorem label_low (l : List UInt8) : labelB (l.map low) = labelB l := by
  unfold labelB
  have e : ((l.map low).all fun b => sign b.toNat) = l.all fun b => sign b.toNat := by
    rw [List.all_map]
    congr 1
    funext c
    exact (low_facts c).2.2
  rw [e]
  simp
theorem name_low (l : List UInt8) : nameB (l.map low) = nameB l := by
  unfold nameB splitL
  have := split_low l []
  simp only [List.map_nil] at this
  rw [this, List.all_map, List.length_map]
  congr 2
  funext x
  exact label_low x
theorem low_low (l : List UInt8) : (l.map low).map low = l.map low := by
  rw [List.map_map]
  exact List.map_congr_left fun c _ => (low_facts c).1
theorem suf_snoc (l : List UInt8) : hasSuffix (l ++ [46]) [46] = true := by
  unfold hasSuffix
  exact List.isSuffixOf_iff_suffix.2 ⟨l, rfl⟩
theorem bare_snoc (l : List UInt8) : bare (l ++ [46]) = l := by
  unfold bare trimSuffix
  rw [suf_snoc, if_pos rfl]
  simp
/-- A name that is cleaned, rooted anew. -/
theorem clean_rooted (l : List UInt8) (h : nameB l = true) : cleanV (l.map low ++ [46]) = .tuple #[.string ⟨(l.map low).toArray⟩, .bool true, .bool true] := by
  unfold cleanV isRoot
  rw [bare_snoc, suf_snoc, name_low, if_pos h, low_low]
theorem cleanV_cases (l : List UInt8) : (nameB (bare l) = true ∧ cleanV l = .tuple #[.string ⟨((bare l).map low).toArray⟩, .bool (isRoot l), .bool true]) ∨ (nameB (bare l) = false ∧ cleanV l = .tuple #[.string ⟨#[]⟩, .bool false, .bool false]) := by
  unfold cleanV
  cases h : nameB (bare l) with
  | true => exact .inl ⟨rfl, if_pos rfl⟩
  | false => exact .inr ⟨rfl, if_neg (by decide)⟩
end Go.Tx

namespace Go.Proofs.YtaoapkbfcofamaaDoor
open Go.RowKit Go.Lib Go.Tx
theorem cut_short (s : ByteArray) (n : Int) (w : World) (hs : s.size ≤ maxLen) (h : (s.size : Int) ≤ n) :
    Calls Tryd.prog 14 #[.string s, .int .i64 n] w fun e w' => e = .returned (.string s) ∧ w' = w := by
  unfold maxLen at hs
  go_enter Tryd.func14, Tryd.ntmps14
  go_wp2
  go_ret
  exact ⟨rfl, rfl⟩
theorem cut_long (s : ByteArray) (n : Nat) (w : World) (hs : s.size ≤ maxLen) (h : n < s.size) :
    Calls Tryd.prog 14 #[.string s, .int .i64 n] w fun e w' => e = .returned (.string (s.extract 0 n)) ∧ w' = w := by
  unfold maxLen at hs
  go_enter Tryd.func14, Tryd.ntmps14
  go_wp2
  go_ret
  exact ⟨rfl, rfl⟩
theorem ret_num {l : List UInt8} {m a : Int} {b : Bool} (h : numRes l m = (a, b)) : Ending.returned (.tuple #[.int .i64 a, .bool b]) = .returned (.tuple #[.int .i64 (numRes l m).1, .bool (numRes l m).2]) := by rw [h]
theorem head_eq (s : ByteArray) (h1 : 1 ≤ s.size) : s.data.toList.head? = some s[0] := by
  rw [List.head?_eq_getElem?]
  have : s.data.toList.length = s.size := rfl
  rw [List.getElem?_eq_getElem (by omega)]
  rfl
theorem u8_48 (c : UInt8) : ((c.toNat : Int) == 48) = (c == 48) := by
  by_cases h : c = 48
  · subst h; rfl
  · rw [beq_eq_false_iff_ne.2 h, beq_eq_false_iff_ne]
    intro h2
    exact h (UInt8.toNat_inj.1 (by show c.toNat = 48; omega))
theorem size_len (s : ByteArray) : s.data.toList.length = s.size := rfl
end Go.Proofs.YtaoapkbfcofamaaDoor

namespace Go.Tx
def okN (l : List UInt8) : Bool := (numRes l 255).2
def byN (l : List UInt8) : UInt8 := UInt8.ofNat (numRes l 255).1.toNat
def fourP (p : List (List UInt8)) : Option (List UInt8) := if p.length = 4 ∧ p.all okN = true then some (p.map byN) else none
theorem numRes_bd (l : List UInt8) (h : okN l = true) : 0 ≤ (numRes l 255).1 ∧ (numRes l 255).1 ≤ 255 := by
  unfold okN at h
  unfold numRes at h ⊢
  split
  · simp
  · split
    · simp
    · rename_i h1 h2
      simp
      omega
theorem byN_int (l : List UInt8) (h : okN l = true) : ((byN l).toNat : Int) = (numRes l 255).1 := by
  have := numRes_bd l h
  unfold byN
  simp
  omega
def u8V (l : List UInt8) : List Value := l.map fun c => .int .u8 (c.toNat : Int)
end Go.Tx
namespace Go.Proofs.YtaoapkbfcofamaaDoor
open Go.RowKit Go.Lib Go.Tx
def FourR (w : World) (r : Option (List UInt8)) (e : Ending) (w' : World) : Prop := e = .returned (.tuple #[.string ⟨(r.getD []).toArray⟩, .bool r.isSome]) ∧ Below w.heap.size w w'
theorem info5 : (Tryd.prog.info? 5).map (fun i => (i.zero, i.size, i.bytes)) = some (some (.int .u8 0), 1, 1) := by kernel_rfl
theorem byte_cell (w : World) (x : Int) (e : TypeId) : ∀ j u, [Value.int .u8 x][j]? = some u → (w.alloc (.cells #[.int .u8 x] e)).cell? ((⟨w.heap.size, 0, none⟩ : Addr).add j) = some u := by
  intro j u hj
  have ha : (⟨w.heap.size, 0, none⟩ : Addr).add j = ⟨w.heap.size, j, none⟩ := by unfold Addr.add; split <;> simp_all
  rw [ha, World.cell?_alloc_new]
  simpa using hj
/-- string(b) of a row of bytes of the call's own. -/
theorem own_str {w : World} {B : Nat} {v : Value} {l : List UInt8} (h : w.ownsRow B 5 1 v l.length (u8V l)) : (convert 56 9 v).run Tryd.prog w = .ok (.string ⟨l.toArray⟩) w := by
  rcases h.2 with ⟨rfl, h2⟩ | ⟨g, cap, cur, rfl, _⟩
  · obtain rfl : l = [] := List.eq_nil_of_length_eq_zero h2
    rw [run_convert_bytes_string w 56 9 5 none 0 0 Tryd.underlying56 Tryd.underlying5 Tryd.underlying9]
    rfl
  · refine run_convert_bytes_back w 56 9 5 ⟨g, 0, none⟩ cap l Tryd.underlying56 Tryd.underlying5 Tryd.underlying9 fun j hj => ?_
    have ha : (⟨g, 0, none⟩ : Addr).add j = ⟨g, j, none⟩ := by unfold Addr.add; split <;> simp_all
    rw [ha, h.cellAt j (by omega)]
    simp [u8V, hj]
theorem fourP_no {p : List (List UInt8)} {k : Nat} {l : List UInt8} (h : p[k]? = some l) (hn : okN l = false) : fourP p = none := by
  unfold fourP
  rw [if_neg]
  rintro ⟨_, h2⟩
  rw [List.all_eq_true] at h2
  have := h2 l (List.mem_of_getElem? h)
  rw [hn] at this
  cases this
theorem own_push {w' : World} {B k : Nat} {v' : Value} {P : List (List UInt8)} {l : List UInt8} {x : Int} (hl : P[k]? = some l) (hx : ((byN l).toNat : Int) = x)
    (h : w'.ownsRow B 5 1 v' (k + 1) (u8V ((P.take k).map byN) ++ [.int .u8 x])) : w'.ownsRow B 5 1 v' (k + 1) (u8V ((P.take (k + 1)).map byN)) := by
  have hk := (List.getElem?_eq_some_iff.1 hl).1
  have e : P.take (k + 1) = P.take k ++ [l] := by
    rw [List.take_succ_eq_append_getElem hk]
    rw [List.getElem?_eq_getElem hk] at hl
    cases hl
    rfl
  rw [e]
  unfold u8V at h ⊢
  rw [List.map_append, List.map_append]
  rw [← hx] at h
  exact h
theorem all_push {P : List (List UInt8)} {k : Nat} {l : List UInt8} (hl : P[k]? = some l) (h : (P.take k).all okN = true) (ho : okN l = true) : (P.take (k + 1)).all okN = true := by
  have hk := (List.getElem?_eq_some_iff.1 hl).1
  have e : P.take (k + 1) = P.take k ++ [l] := by
    rw [List.take_succ_eq_append_getElem hk]
    rw [List.getElem?_eq_getElem hk] at hl
    cases hl
    rfl
  rw [e, List.all_append, h]
  simp [ho]
end Go.Proofs.YtaoapkbfcofamaaDoor

namespace Go.Tx
def hexA (l : List UInt8) : Int := l.foldl (fun n c => 16 * n + hexV c) 0
def hexOk (l : List UInt8) : Bool := l.all fun c => decide (0 ≤ hexV c)
def hexG (l : List UInt8) : Option (List UInt8) :=
  if l.length < 1 ∨ 4 < l.length then none else if hexOk l = true then some [UInt8.ofNat ((hexA l).toNat / 256), UInt8.ofNat ((hexA l).toNat % 256)] else none
def partG (lst : Bool) (l : List UInt8) : Option (List UInt8) :=
  if lst = true then (match fourP (splitL 46 l) with | some f => some f | none => hexG l) else hexG l
def accG (last : Bool) (P : List (List UInt8)) : Nat → Option (List UInt8)
  | 0 => some []
  | k + 1 => match accG last P k with
    | none => none
    | some a => match partG (last && decide (k + 1 = P.length)) (P.getD k []) with
      | none => none
      | some x => some (a ++ x)
def groupsP (last : Bool) (s : List UInt8) : Option (List UInt8) := if s = [] then some [] else accG last (splitL 58 s) (splitL 58 s).length
theorem hexA_snoc (l : List UInt8) (c : UInt8) : hexA (l ++ [c]) = 16 * hexA l + hexV c := by simp [hexA, List.foldl_append]
theorem hexOk_snoc (l : List UInt8) (c : UInt8) : hexOk (l ++ [c]) = (hexOk l && decide (0 ≤ hexV c)) := by simp [hexOk, List.all_append]
theorem hexA_bd4 : ∀ l : List UInt8, l.length ≤ 4 → hexOk l = true → 0 ≤ hexA l ∧ hexA l ≤ 65535
  | [], _, _ => by simp [hexA]
  | [a], _, h => by
    have := hexV_bd a
    simp [hexOk, hexA] at h ⊢
    omega
  | [a, b], _, h => by
    have := hexV_bd a
    have := hexV_bd b
    simp [hexOk, hexA] at h ⊢
    omega
  | [a, b, c], _, h => by
    have := hexV_bd a
    have := hexV_bd b
    have := hexV_bd c
    simp [hexOk, hexA] at h ⊢
    omega
  | [a, b, c, d], _, h => by
    have := hexV_bd a
    have := hexV_bd b
    have := hexV_bd c
    have := hexV_bd d
    simp [hexOk, hexA] at h ⊢
    omega
  | a :: b :: c :: d :: e :: l, h, _ => by simp at h
/-- Once none, none at the end. -/
theorem accG_none {last : Bool} {P : List (List UInt8)} {k : Nat} (h : accG last P k = none) : ∀ j, k ≤ j → accG last P j = none
  | 0, hj => by
    obtain rfl : k = 0 := by omega
    exact h
  | j + 1, hj => by
    by_cases e : k = j + 1
    · rw [← e]; exact h
    · have := accG_none h j (by omega)
      simp [accG, this]
theorem accG_step {last : Bool} {P : List (List UInt8)} {k : Nat} {a l x : List UInt8} {t : Bool} (h : accG last P k = some a) (hl : P[k]? = some l) (ht : (last && decide (k + 1 = P.length)) = t) (hx : partG t l = some x) : accG last P (k + 1) = some (a ++ x) := by
  simp only [accG, h, ht, List.getD_eq_getElem?_getD, hl, Option.getD_some, hx]
theorem accG_stop {last : Bool} {P : List (List UInt8)} {k : Nat} {l : List UInt8} {t : Bool} (hl : P[k]? = some l) (ht : (last && decide (k + 1 = P.length)) = t) (hx : partG t l = none) : accG last P P.length = none := by
  have hk := (List.getElem?_eq_some_iff.1 hl).1
  refine accG_none (k := k + 1) ?_ _ hk
  simp only [accG, List.getD_eq_getElem?_getD, hl, Option.getD_some, ht, hx]
  cases accG last P k <;> rfl
theorem partG_four {l f : List UInt8} (h : fourP (splitL 46 l) = some f) : partG true l = some f := by simp [partG, h]
theorem partG_hex {l : List UInt8} {t : Bool} (h : t = true → fourP (splitL 46 l) = none) : partG t l = hexG l := by
  unfold partG
  cases t with
  | false => rfl
  | true => simp [h rfl]
theorem hexG_len {l : List UInt8} (h : l.length < 1 ∨ 4 < l.length) : hexG l = none := by unfold hexG; rw [if_pos h]
theorem hexG_bad {l : List UInt8} {k : Nat} {c : UInt8} (h : l[k]? = some c) (hc : hexV c < 0) : hexG l = none := by
  have hno : ¬ hexOk l = true := by
    unfold hexOk
    rw [List.all_eq_true]
    intro h2
    have := h2 c (List.mem_of_getElem? h)
    simp at this
    omega
  unfold hexG
  rw [if_neg hno]
  split <;> rfl
theorem hexG_ok {l : List UInt8} (h : ¬ (l.length < 1 ∨ 4 < l.length)) (h2 : hexOk l = true) : hexG l = some [UInt8.ofNat ((hexA l).toNat / 256), UInt8.ofNat ((hexA l).toNat % 256)] := by
  unfold hexG; rw [if_neg h, if_pos h2]
theorem partG_len {t : Bool} {l x : List UInt8} (h : partG t l = some x) : x.length ≤ 4 := by
  unfold partG at h
  have hh : ∀ x, hexG l = some x → x.length ≤ 4 := by
    intro x hx
    unfold hexG at hx
    split at hx
    · cases hx
    · split at hx
      · cases hx; simp
      · cases hx
  split at h
  · cases e : fourP (splitL 46 l) with
    | some f =>
      rw [e] at h
      cases h
      unfold fourP at e
      split at e
      · rename_i h4
        cases e
        rw [List.length_map]
        omega
      · cases e
    | none =>
      rw [e] at h
      exact hh _ h
  · exact hh _ h
theorem accG_len {last : Bool} {P : List (List UInt8)} : ∀ {k : Nat} {a : List UInt8}, accG last P k = some a → a.length ≤ 4 * k
  | 0, a, h => by simp [accG] at h; subst h; simp
  | k + 1, a, h => by
    unfold accG at h
    split at h
    · cases h
    · rename_i b hb
      split at h
      · cases h
      · rename_i x hx
        cases h
        have := accG_len hb
        have := partG_len hx
        simp
        omega
end Go.Tx

namespace Go.Rb
open Go.RowKit Go.Ev
def vbytes (l : List UInt8) : List Value := l.map fun c => .int .u8 (c.toNat : Int)
/-- What append reads: a text or a slice that reads as m. -/
structure Src (P : Program) (w : World) (v : Value) (m : List UInt8) : Prop where
  len : ∀ w' : World, (Builtin.lenOf v).run P w' = .ok m.length w'
  read : ∀ w' : World, w'.heap = w.heap → (Builtin.firstCells 1 m.length v).run P w' = .ok (vbytes m).toArray w'
theorem Src.str (P : Program) (w : World) (s : ByteArray) : Src P w (.string s) s.data.toList := by
  refine ⟨fun w' => by simp [Builtin.lenOf], fun w' _ => ?_⟩
  simp only [Builtin.firstCells, Sem.run_pure]
  congr 1
  apply Array.ext'
  simp [vbytes, ByteArray.extract, ByteArray.copySlice]
  exact List.take_of_length_le (by simp)
theorem Src.row {P : Program} {w : World} {b cap c : Nat} {l : List UInt8} (h : RowB 5 w b cap l) : Src P w (.slice (some ⟨b, 0, none⟩) l.length c) l := by
  refine ⟨fun w' => rfl, fun w' hw => ?_⟩
  refine run_firstCells_some w' 1 _ _ l.length c (vbytes l) (by simp [vbytes]) fun j v hj => ?_
  have ha : (⟨b, 0, none⟩ : Addr).add j = ⟨b, j, none⟩ := by unfold Addr.add; split <;> simp_all
  rw [ha]
  simp only [vbytes, List.getElem?_map, Option.map_eq_some_iff] at hj
  obtain ⟨c, hc, rfl⟩ := hj
  have := h.cell hc
  simpa [World.cell?, hw] using this
/-- Cells written over. -/
theorem run_stores' {P : Program} (b el : Nat) (fr : Nat × Nat) : ∀ (vs : List Value) (off i : Nat) (w : World) (arr : Array Value), w.heap[b]? = some (.cells arr el fr) → off + i + vs.length ≤ arr.size →
    (∀ i, i < arr.size → ¬ (fr.1 ≤ i ∧ i < fr.2)) → (∀ v ∈ vs, v.oneCell' = true) →
    ∃ w' arr', (storeCells ⟨b, off, none⟩ vs i).run P w = .ok () w' ∧ w'.heap[b]? = some (.cells arr' el fr) ∧ arr'.size = arr.size ∧ (∀ j, arr'[j]? = if off + i ≤ j ∧ j < off + i + vs.length then vs[j - (off + i)]? else arr[j]?) ∧
      (∀ k, k ≠ b → w'.heap[k]? = w.heap[k]?) ∧ w'.heap.size = w.heap.size ∧ w'.os = w.os ∧ w'.tape = w.tape ∧ w'.output = w.output
  | [], off, i, w, arr, hb, _, _, _ => ⟨w, arr, rfl, hb, rfl, fun j => by rw [if_neg (by simp <;> omega)], fun _ _ => rfl, rfl, rfl, rfl, rfl⟩
  | v :: vs, off, i, w, arr, hb, hl, hf, h1 => by
    simp only [List.length_cons] at hl
    have hcell : w.cell? ⟨b, off + i, none⟩ = some arr[off + i] := by simp [World.cell?, hb]
    have hfz : w.frozen? ⟨b, off + i, none⟩ = false := by
      simp only [World.frozen?, hb]
      have := hf (off + i) (by omega)
      cases h : decide (fr.1 ≤ off + i) && decide (off + i < fr.2)
      · rfl
      · simp at h; exact absurd h this
    have hb1 : (w.setCell ⟨b, off + i, none⟩ v).heap[b]? = some (.cells (arr.setIfInBounds (off + i) v) el fr) := by
      simp [World.setCell, Array.getElem?_modify, hb]
    obtain ⟨w', arr', e1, e2, e3, e4, e5, e6, e7, e8, e9⟩ := run_stores' b el fr vs off (i + 1) (w.setCell ⟨b, off + i, none⟩ v) (arr.setIfInBounds (off + i) v) hb1 (by simp; omega) (by simpa using hf) (fun u hu => h1 u (by simp [hu]))
    refine ⟨w', arr', ?_, e2, by simpa using e3, fun j => ?_, fun k hk => ?_, by simpa using e6, e7, e8, e9⟩
    · unfold storeCells
      simp only [Sem.run_bind]
      rw [add_off, run_store P w _ v .plain (h1 v (by simp)), hcell]
      simp only [hfz, Bool.false_eq_true, if_false, Result.andThen_ok]
      exact e1
    · rw [e4 j, Array.getElem?_setIfInBounds]
      simp only [List.length_cons]
      by_cases c1 : off + (i + 1) ≤ j ∧ j < off + (i + 1) + vs.length
      · rw [if_pos c1, if_pos (by omega), show j - (off + i) = (j - (off + (i + 1))) + 1 from by omega, List.getElem?_cons_succ]
      · rw [if_neg c1]
        by_cases c2 : off + i = j
        · rw [if_pos c2, if_pos (by omega), if_pos (by omega), show j - (off + i) = 0 from by omega]; rfl
        · rw [if_neg c2, if_neg (by omega)]
    · rw [e5 k hk]
      simp only [World.setCell, Array.getElem?_modify]
      rw [if_neg (by omega)]
theorem run_append_row {P : Program} {ts : Array TypeId} {ty t u : TypeId} {d : TypeDesc} {i : TypeInfo} {w : World} {b cap B : Nat} {l m : List UInt8} {v : Value}
    (h0 : ts[0]? = some t) (h1 : ts[1]? = some u) (ht : P.underlying t = some (.slice 5)) (hu : P.underlying u = some d) (hd : ∀ k, d ≠ .int k)
    (hi : P.info? 5 = some i) (hz0 : i.zero = some (.int .u8 0)) (hz1 : i.size = 1) (hz2 : i.bytes = 1)
    (hr : RowB 5 w b cap l) (hs : Src P w v m) (hB : B ≤ b) (hcap : cap ≤ 9223372036854775807) (hbd : l.length + m.length ≤ 1000000) :
    ∃ b' cap' w', (Builtin.append_ ts ty #[.slice (some ⟨b, 0, none⟩) l.length cap, v]).run P w = .ok (.slice (some ⟨b', 0, none⟩) (l.length + m.length) cap') w' ∧
      RowB 5 w' b' cap' (l ++ m) ∧ Below B w w' ∧ B ≤ b' ∧ cap' ≤ 9223372036854775807 ∧ l.length + m.length ≤ cap' := by
  have hr0 := hr
  obtain ⟨arr, lo, hi', hh, hmk, hsz, hle, hat⟩ := hr
  have hb : b < w.heap.size := (Array.getElem?_eq_some_iff.1 hh).1
  have hsrc := hs.read
  rw [← hz1] at hsrc
  by_cases hfit : l.length + m.length ≤ cap
  · have hrun := append_fits (P := P) (w := w) (ty := ty) (base := some ⟨b, 0, none⟩) (sLen := l.length) (sCap := cap) h0 h1 ht hu hd hi hs.len (hsrc w rfl) hfit
    have hadd : (⟨b, 0, none⟩ : Addr).add (l.length * i.size) = ⟨b, l.length, none⟩ := by
      rw [hz1]; unfold Addr.add; split <;> simp_all
    obtain ⟨w', arr', e1, e2, e3, e4, e5, e6, e7, e8, e9⟩ := run_stores' b 5 (lo, hi') (P := P) (vbytes m) l.length 0 w arr hh (by simp [vbytes]; omega) (fun j hj hc => by
        simp only at hc
        omega) (by simp [vbytes, Value.oneCell'])
    simp only [hadd, e1, Result.andThen_ok] at hrun
    refine ⟨b, cap, w', hrun, ⟨arr', lo, hi', e2, hmk, e3.trans hsz, by simpa using hfit, fun j c hj => ?_⟩, ⟨e7, e8, e9, by omega, fun k hk => e5 k (by omega)⟩, hB, hcap, hfit⟩
    rw [e4 j]
    have hjl := (List.getElem?_eq_some_iff.1 hj).1
    simp at hjl
    by_cases hlt : j < l.length
    · rw [if_neg (by omega)]
      rw [List.getElem?_append_left hlt] at hj
      exact hat j c hj
    · rw [if_pos (by simp [vbytes]; omega)]
      rw [List.getElem?_append_right (by omega)] at hj
      simp only [vbytes, List.getElem?_map, Nat.add_zero, hj, Option.map_some]
  · have hold := (Src.row (P := P) (c := cap) hr0).read
    rw [← hz1] at hold
    have hrun := append_grows (P := P) (w := w) (ty := ty) (base := some ⟨b, 0, none⟩) (sLen := l.length) (sCap := cap) (us := vbytes l) h0 h1 ht hu hd hi hz0 hs.len (hsrc w.drew rfl) (hold w.drew rfl) (by omega) (by rw [hz2]; omega) (by omega)
    have hge := grownCap_ge w (l.length + m.length) cap 5
    have hmx := grownCap_le_maxLen w (l.length + m.length) cap 5 (by unfold maxLen; omega)
    unfold maxLen at hmx
    refine ⟨w.heap.size, _, _, hrun, ⟨_, 0, 0, heap_alloc_new w.drew _, .inr rfl, ?_, by simpa using hge, fun j c hj => ?_⟩, (Below.refl _ _).drew.alloc (by show B ≤ w.heap.size; omega) _, by omega, by omega, hge⟩
    · simp [vbytes, Builtin.zeroCells, Value.cells]
      omega
    · have hjl := (List.getElem?_eq_some_iff.1 hj).1
      simp at hjl
      have e : (vbytes l).toArray ++ (vbytes m).toArray = (vbytes (l ++ m)).toArray := by simp [vbytes]
      rw [e, Array.getElem?_append_left (by simp [vbytes]; omega), List.getElem?_toArray]
      simp only [vbytes, List.getElem?_map, hj, Option.map_some]
end Go.Rb

