/- One operation, calls among them; regions in the text's order. -/
import Derived.Test.YtjlaiimcbkbciaaDoorEv18
import Derived.Lib.BytesEntry
import Derived.Tactics
import Derived.LoopN
import Derived.Defers
noncomputable section
namespace Go.Ev
open Go
abbrev CallEv := FuncId → List AV → AHeap → Option (AV × AHeap)
/-- What a call of a function answers, by 'call', is what the model's call answers. -/
def FnOK (P : Program) (B : Bas) (f : FuncId) (h : List AV → AHeap → Option (AV × AHeap)) : Prop :=
  ∀ (l : List AV) (H : AHeap) (r : AV) (H' : AHeap), h l H = some (r, H') → ∀ (ρ : Ren) (w : World) (vs : List Value), HR P B ρ H w → Free ρ H.next H'.next → VRL ρ l vs →
    Calls P f vs.toArray w fun e w' => ∃ v ρ', e = .returned v ∧ VR ρ' r v ∧ HR P B ρ' H' w' ∧ Post ρ H w ρ' H' w'
def CallOK (P : Program) (B : Bas) (call : CallEv) : Prop := ∀ f : FuncId, FnOK P B f (call f)
def enters (P : Program) (f : FuncId) : Bool :=
  match P.funcs[f]? with
  | some fn => !(fn.name == "runtime.NumGoroutine") && fn.body.isSome
  | none => false
theorem enters_run {P : Program} {f : FuncId} (h : enters P f = true) (args : Array Value) (w : World) : (callFunc f args).run P w = .ok (.enter f args) w := by
  unfold enters at h
  split at h
  · rename_i fn hf
    obtain ⟨h1, h2⟩ := bAnd h
    simp only [Bool.not_eq_true'] at h1
    have h3 : fn.body.isNone = false := by cases hb : fn.body <;> simp_all
    simp only [callFunc, Sem.run_bind, run_program, Result.andThen_ok, hf, h1, h3, Bool.false_eq_true, if_false, Sem.run_pure]
  · cases h
/-- The method of a value in an interface: its function; the value is the receiver as it stands. -/
def aMethod (P : Program) (t : TypeId) (name : String) : Option FuncId :=
  match P.info? t with
  | none => none
  | some i => match i.methods.find? (·.name == name) with
    | none => none
    | some m => match m.path.toList, m.func, P.underlying t with
      | [], some (f, true), some (.pointer _) => some f
      | [], some (f, false), some d => match d with
        | .pointer _ => none
        | _ => some f
      | _, _, _ => none
theorem aMethod_run {P : Program} {t : TypeId} {name : String} {f : FuncId} (h : aMethod P t name = some f) (v : Value) (w : World) (n : Nat) : (method (n + 1) t v name).run P w = .ok (f, v) w := by
  unfold aMethod at h
  split at h
  · cases h
  rename_i i hi
  split at h
  · cases h
  rename_i m hm
  split at h
  · rename_i f' e hp hf hd
    cases h
    simp only [method, Sem.run_bind, run_info hi, Result.andThen_ok, hm, hp, follow, Sem.run_pure, hf, receiverAt, run_und hd, Place.get]
  · rename_i f' d hp hf hd
    have : ∀ e, d ≠ .pointer e := fun e he => by subst he; simp at h
    have hff : f' = f := by cases d <;> simp_all
    subst hff
    simp only [method, Sem.run_bind, run_info hi, Result.andThen_ok, hm, hp, follow, Sem.run_pure, hf, receiverAt, run_und hd]
    cases d <;> first | exact absurd rfl (this _) | simp [Place.get]
  · cases h
/-- The library's functions that are called and have no Go body; functions that are known by a contract. -/
inductive ExtK where
  | mapsClone
  | indexByte
  | fn (h : List AV → AHeap → Option (AV × AHeap))
def ExtK.plain : ExtK → Bool
  | .fn _ => false
  | _ => true
def ExtK.entry : ExtK → Array Value → Sem Value
  | .mapsClone => Extern.MapsClone.clone
  | .indexByte => Extern.BytealgIndexByte.indexByte
  | .fn _ => fun _ => pure undef
def ExtOK (P : Program) (ext : FuncId → Option ExtK) : Prop :=
  ∀ f k, ext f = some k → k.plain = true → ∀ args w, (callFunc f args).run P w = ((k.entry args).run P w).andThen fun v w' => .ok (.value v) w'
/-- The bytes of a text or of a row. -/
def aBytes (H : AHeap) (x : AV) : Option (List Nat) :=
  match x with
  | .nilSlice => some []
  | .eslice _ => some []
  | .str l => some l
  | .slice g off n sh => match aSrc H 1 (.slice g off n sh) with
    | some (_, l) => intBytes l
    | none => none
  | .sliceC g off n cap => match aSrc H 1 (.sliceC g off n cap) with
    | some (_, l) => intBytes l
    | none => none
  | _ => none
def idxB (c : Nat) : List Nat → Nat → AV
  | [], _ => .int .i64 (-1)
  | x :: l, i => match Nat.beq x c with
    | true => .int .i64 (Int.ofNat i)
    | false => idxB c l (i + 1)
def aExt (H : AHeap) (k : ExtK) (args : List AV) : Option (AV × AHeap) :=
  match k, args with
  | .mapsClone, [.iface t (.map g)] => match H.objs.get g, H.room with
    | some (.map es clock), true => some (.iface t (.map H.next), H.alloc (.map es clock))
    | _, _ => none
  | .indexByte, [x, .int .u8 (.ofNat c)] => match aBytes H x, Nat.blt c 256 with
    | some m, true => some (idxB c m 0, H)
    | _, _ => none
  | _, _ => none
theorem idxB_eq (ρ : Ren) (c : Nat) (hc : c < 256) : ∀ (m : List Nat) (i : Nat), (∀ x ∈ m, x < 256) → ∃ r : Int, idxB c m i = .int .i64 r ∧ (r = if 0 ≤ Lib.indexByte (m.map UInt8.ofNat) (UInt8.ofNat c) then (i : Int) + Lib.indexByte (m.map UInt8.ofNat) (UInt8.ofNat c) else -1)
  | [], i, _ => ⟨-1, rfl, by simp [Lib.indexByte]⟩
  | x :: l, i, h => by
    unfold idxB
    simp only [List.map_cons, Lib.indexByte]
    by_cases hx : x = c
    · subst hx
      have hb : Nat.beq x x = true := by rw [Nat.beq_eq]
      rw [hb]
      exact ⟨_, rfl, by simp⟩
    · have hb : Nat.beq x c = false := by
        cases hh : Nat.beq x c
        · rfl
        · exact absurd (Nat.eq_of_beq_eq_true hh) hx
      rw [hb]
      have hne : (UInt8.ofNat x == UInt8.ofNat c) = false := by
        rw [beq_eq_false_iff_ne]
        intro he
        have h1 := h x (by simp)
        have := congrArg UInt8.toNat he
        simp [Nat.mod_eq_of_lt h1, Nat.mod_eq_of_lt hc] at this
        exact hx this
      rw [hne]
      obtain ⟨r, h1, h2⟩ := idxB_eq ρ c hc l (i + 1) fun y hy => h y (by simp [hy])
      refine ⟨r, h1, ?_⟩
      rw [h2]
      have hge := Lib.indexByte_ge (l.map UInt8.ofNat) (UInt8.ofNat c)
      by_cases hr : 0 ≤ Lib.indexByte (l.map UInt8.ofNat) (UInt8.ofNat c)
      · have : (Lib.indexByte (l.map UInt8.ofNat) (UInt8.ofNat c) == -1) = false := beq_eq_false_iff_ne.2 (by omega)
        simp [this, hr]
        split <;> omega
      · have : Lib.indexByte (l.map UInt8.ofNat) (UInt8.ofNat c) = -1 := by omega
        simp [this]
theorem idxB_lib (c : Nat) (hc : c < 256) (m : List Nat) (hm : ∀ x ∈ m, x < 256) : idxB c m 0 = .int .i64 (Lib.indexByte (m.map UInt8.ofNat) (Int.ofNat c).toNat.toUInt8) := by
  obtain ⟨r, h1, h2⟩ := idxB_eq (fun _ => none) c hc m 0 hm
  rw [h1, h2]
  have e : (Int.ofNat c).toNat.toUInt8 = UInt8.ofNat c := rfl
  rw [e]
  have hge := Lib.indexByte_ge (m.map UInt8.ofNat) (UInt8.ofNat c)
  split
  · simp
  · congr 1; omega
theorem aBytes_idx {P : Program} {B : Bas} {ρ : Ren} {H : AHeap} {w : World} (h : HR P B ρ H w) {x : AV} {v : Value} {m : List Nat} {c : Nat} (hb : aBytes H x = some m) (hx : VR ρ x v) (_ : c < 256) :
    (Extern.BytealgIndexByte.indexByte #[v, .int .u8 (Int.ofNat c)]).run P w = .ok (.int .i64 (Lib.indexByte (m.map UInt8.ofNat) (Int.ofNat c).toNat.toUInt8)) w ∧ ∀ x ∈ m, x < 256 := by
  have fin : ∀ {b off n cap : Nat} {l : List AV} {vs : List Value}, VRL ρ l vs → vs.length = n → (∀ j v, vs[j]? = some v → w.cell? ⟨b, off + j, none⟩ = some v) → intBytes l = some m →
      (Extern.BytealgIndexByte.indexByte #[.slice (some ⟨b, off, none⟩) n cap, .int .u8 (Int.ofNat c)]).run P w = .ok (.int .i64 (Lib.indexByte (m.map UInt8.ofNat) (Int.ofNat c).toNat.toUInt8)) w ∧ ∀ x ∈ m, x < 256 := by
    intro b off n cap l vs hv hn hcell hi
    obtain ⟨e1, e2⟩ := intBytes_sound hi hv
    have hlen : (m.map fun n => (Int.ofNat n)).length = n := by rw [← hn, e1]; simp
    have := Lib.run_indexByteSlice (P := P) w b off n cap (m.map fun n => (Int.ofNat n)) hlen (fun i hi => by
      refine hcell i _ ?_
      rw [e1, List.getElem?_map, List.getD_eq_getElem?_getD]
      have : i < (m.map fun n => (Int.ofNat n)).length := by omega
      rw [List.getElem?_eq_getElem this]
      rfl) (Int.ofNat c)
    have e3 : Lib.bytesOf (m.map fun n => (Int.ofNat n)) = m.map UInt8.ofNat := by
      simp [Lib.bytesOf]
    rw [e3] at this
    exact ⟨this, e2⟩
  unfold aBytes at hb
  split at hb
  · cases hb
    simp only [VR] at hx
    subst hx
    have hs := Lib.run_indexByteString (P := P) ⟨#[]⟩ (Int.ofNat c) w
    refine ⟨?_, by simp⟩
    rw [show (List.map UInt8.ofNat ([] : List Nat)) = (⟨#[]⟩ : ByteArray).data.toList from rfl, ← hs]
    rfl
  · cases hb
    simp only [VR] at hx
    obtain ⟨b, cp, _, off, cap, rfl⟩ := hx
    exact fin (l := []) VRL.nil rfl (by simp) rfl
  · cases hb
    simp only [VR] at hx
    obtain ⟨rfl, hl⟩ := hx
    refine ⟨?_, hl⟩
    have hs := Lib.run_indexByteString (P := P) (bs m) (Int.ofNat c) w
    have : (bs m).data.toList = m.map UInt8.ofNat := by simp [bs]
    rw [this] at hs
    exact hs
  · rename_i g off n sh
    simp only [VR] at hx
    obtain ⟨b, cp, hr, hcap, rfl⟩ := hx
    split at hb
    · rename_i n0 l hsrc
      unfold aSrc at hsrc
      simp only at hsrc
      split at hsrc
      · rename_i e k c0 t hg
        split at hsrc
        · rename_i hble
          split at hsrc
          · rename_i l' hl
            cases hsrc
            obtain ⟨vs, h1, h2, h3⟩ := h.cellsL hg hr _ _ _ hl (Nat.le_of_ble_eq_true hble)
            exact fin h1 (by simpa using h2) h3 hb
          · cases hsrc
        · cases hsrc
      · cases hsrc
    · cases hb
  · rename_i g off n cap
    simp only [VR] at hx
    obtain ⟨b, cp, hr, rfl⟩ := hx
    split at hb
    · rename_i n0 l hsrc
      unfold aSrc at hsrc
      simp only at hsrc
      split at hsrc
      · rename_i e k c0 t hg
        split at hsrc
        · rename_i hble
          split at hsrc
          · rename_i l' hl
            cases hsrc
            obtain ⟨vs, h1, h2, h3⟩ := h.cellsL hg hr _ _ _ hl (Nat.le_of_ble_eq_true hble)
            exact fin h1 (by simpa using h2) h3 hb
          · cases hsrc
        · cases hsrc
      · cases hsrc
    · cases hb
  · cases hb
structure Env where
  P : Program
  ext : FuncId → Option ExtK
  G : Nat → Option (List AV) := fun _ => none
/-- What is known of package variables holds where all began. -/
def GloOK (B : Bas) (G : Nat → Option (List AV)) : Prop :=
  ∀ b l, G b = some l → b < B.size ∧ ∃ arr elem fr, B.held b = some (.cells arr elem fr) ∧ ∃ vs, VRL (fun _ => none) l vs ∧ ∀ (i : Nat) v, vs[i]? = some v → arr[i]? = some v
structure EOK (E : Env) (B : Bas) : Prop where
  ext : ExtOK E.P E.ext
  fn : ∀ f h, E.ext f = some (.fn h) → FnOK E.P B f h
  glo : GloOK B E.G
theorem VRL.ofNone {ρ : Ren} {l : List AV} {vs : List Value} (h : VRL (fun _ => none) l vs) : VRL ρ l vs := VRL.mono (fun _ _ e => by cases e) l vs h
/-- A cell, or several, of a package variable. -/
def gLoad (P : Program) (G : Nat → Option (List AV)) (t : TypeId) (b off : Nat) : Option AV :=
  match G b with
  | none => none
  | some l => match P.underlying t with
    | none => none
    | some d => match aggB d with
      | false => l[off]?
      | true => match P.info? t with
        | none => none
        | some i => match Nat.ble (off + i.size) l.length with
          | false => none
          | true => some (.agg ((l.drop off).take i.size))
theorem gLoad_sound {P : Program} {B : Bas} {G : Nat → Option (List AV)} {ρ : Ren} {H : AHeap} {w : World} (hG : GloOK B G) (h : HR P B ρ H w) {t : TypeId} {b off : Nat} {r : AV} (hl : gLoad P G t b off = some r) :
    ∃ z, (loadVar t ⟨b, off, none⟩).run P w = .ok z w ∧ VR ρ r z := by
  unfold gLoad at hl
  split at hl
  · cases hl
  rename_i l hg
  obtain ⟨hb, arr, elem, fr, h1, vs, h2, h3⟩ := hG b l hg
  have h2 : VRL ρ l vs := h2.ofNone
  have hh : w.heap[b]? = some (.cells arr elem fr) := (h.snap b hb).trans h1
  have hc : ∀ (j : Nat) v, vs[j]? = some v → w.cell? ⟨b, j, none⟩ = some v := fun j v e => by simp [World.cell?, hh, h3 j v e]
  split at hl
  · cases hl
  rename_i d hd
  split at hl
  · rename_i ha
    obtain ⟨v, e1, e2⟩ := h2.get off r hl
    refine ⟨v, ?_, e2⟩
    simp only [loadVar, Sem.run_bind, run_agg hd, ha, Result.andThen_ok, Bool.false_eq_true, if_false, run_load, hc off v e1]
  · rename_i ha
    split at hl
    · cases hl
    rename_i i hi
    split at hl
    · cases hl
    rename_i hle
    cases hl
    have hle := Nat.le_of_ble_eq_true hle
    have hlen := h2.length
    refine ⟨.agg ((vs.drop off).take i.size).toArray, ?_, ?_⟩
    · have hl2 : ((vs.drop off).take i.size).length = i.size := by simp; omega
      have := run_loads (P := P) (w := w) b off ((vs.drop off).take i.size) fun j v e => by
        rw [List.getElem?_take] at e
        split at e
        · rw [List.getElem?_drop] at e; exact hc _ _ e
        · cases e
      rw [hl2] at this
      simp only [loadVar, Sem.run_bind, run_agg hd, ha, Result.andThen_ok, if_true, run_size hi, this, Sem.run_pure]
    · refine ⟨_, rfl, VRL.mk (by simp; omega) fun j a e => ?_⟩
      rw [List.getElem?_take] at e ⊢
      split at e
      · rename_i hj
        rw [if_pos hj, List.getElem?_drop]
        rw [List.getElem?_drop] at e
        exact h2.get _ a e
      · cases e
def calleeOf (ev : Operand → AV) (P : Program) (c : Call) : Option (FuncId × List AV) :=
  match c.callee with
  | .value f => match ev f with
    | .func (.func fid) first captured => some (fid, first ++ c.args.toList.map ev ++ captured)
    | _ => none
  | .invoke recv name => match ev recv with
    | .iface t v => match aMethod P t name with
      | some fid => some (fid, v :: c.args.toList.map ev)
      | none => none
    | _ => none
  | _ => none
def aCall (E : Env) (call : CallEv) (c : Call) (ev : Operand → AV) (H : AHeap) : Option (AV × AHeap) :=
  match calleeOf ev E.P c with
  | none => none
  | some (f, args) => match E.ext f with
    | none => match enters E.P f with
      | true => call f args H
      | false => none
    | some k => match k with
      | .fn h => match enters E.P f with
        | true => h args H
        | false => none
      | k => aExt H k args
def isCall : Op → Bool
  | .call c => match c.callee with
    | .builtin _ => false
    | _ => true
  | _ => false
/-- Names go on. -/
def chk (H : AHeap) (x : Option (AV × AHeap)) : Option (AV × AHeap) :=
  match x with
  | none => none
  | some (r, H') => match Nat.ble H.next H'.next with
    | true => some (r, H')
    | false => none
theorem chk_some {H H' : AHeap} {x : Option (AV × AHeap)} {r : AV} (h : chk H x = some (r, H')) : x = some (r, H') ∧ H.next ≤ H'.next := by
  unfold chk at h
  split at h
  · cases h
  · split at h
    · rename_i hb
      cases h
      exact ⟨rfl, Nat.le_of_ble_eq_true hb⟩
    · cases h
/-- One operation. -/
def opStep (E : Env) (call : CallEv) (op : Op) (ev : Operand → AV) (H : AHeap) : Option (AV × AHeap) :=
  match pureOp E.P op ev with
  | some r => some (r, H)
  | none => match heapOp E.P op ev H with
    | some x => chk H (some x)
    | none => match op with
      | .call c => chk H (aCall E call c ev H)
      | .load t x => match ev x with
        | .glob b off => match gLoad E.P E.G t b off with
          | some r => some (r, H)
          | none => none
        | _ => none
      | _ => none
theorem opStep_next {E : Env} {call : CallEv} {op : Op} {ev : Operand → AV} {H H' : AHeap} {r : AV} (h : opStep E call op ev H = some (r, H')) : H.next ≤ H'.next := by
  unfold opStep at h
  split at h
  · cases h; exact Nat.le_refl _
  · split at h
    · exact (chk_some h).2
    · split at h
      · exact (chk_some h).2
      · split at h
        · split at h
          · cases h; exact Nat.le_refl _
          · cases h
        · cases h
      · cases h
section
variable {E : Env} {call : CallEv} {B : Bas} {ρ : Ren} {H : AHeap} {w : World}
theorem calleeOf_run {ev : Operand → AV} {e : Operand → Value} {c : Call} {t : TypeId} {f : FuncId} {args : List AV} (h : calleeOf ev E.P c = some (f, args)) (hr : ∀ x ∈ c.operands, VR ρ (ev x) (e x)) (w : World) :
    ∃ vs : List Value, VRL ρ args vs ∧ (do let d ← resolve e c t; invoke d.target d.args : Sem Next).run E.P w = (callFunc f vs.toArray).run E.P w := by
  unfold calleeOf at h
  have ha : (∀ x ∈ c.args.toList, VR ρ (ev x) (e x)) → VRL ρ (c.args.toList.map ev) (c.args.toList.map e) := VRL.ofMap _
  split at h
  · rename_i fo hc
    have hf := hr fo (by simp [Call.operands, hc])
    split at h
    · rename_i fid first captured hev
      cases h
      rw [hev] at hf
      simp only [VR] at hf
      obtain ⟨us, xs, he, h1, h2⟩ := hf
      have h3 := ha fun x hx => hr x (by simp [Call.operands, hc, Array.mem_toList_iff.1 hx])
      refine ⟨us ++ c.args.toList.map e ++ xs, (h1.append h3).append h2, ?_⟩
      simp only [resolve, hc, he, Deferred.ofValue, pure_bind, invoke]
      congr 2
      apply Array.ext'
      simp
    · cases h
  · rename_i recv name hc
    have hf := hr recv (by simp [Call.operands, hc])
    split at h
    · rename_i ty v hev
      split at h
      · rename_i fid hm
        cases h
        rw [hev] at hf
        simp only [VR] at hf
        obtain ⟨u, he, h1⟩ := hf
        have h3 := ha fun x hx => hr x (by simp [Call.operands, hc, Array.mem_toList_iff.1 hx])
        refine ⟨u :: c.args.toList.map e, VRL.cons h1 h3, ?_⟩
        have hsz : (#[Value.iface ty u] ++ c.args.map e)[0]? = some (.iface ty u) := by
          rw [Array.getElem?_append, if_pos (by simp)]; rfl
        simp only [resolve, hc, he, pure_bind, invoke, hsz, callMethod, Sem.run_bind, run_program, Result.andThen_ok]
        have hmr : (method (E.P.types.size + Made.depth) ty u name).run E.P w = .ok (f, u) w := aMethod_run hm u w (E.P.types.size + 99)
        rw [hmr]
        simp only [Result.andThen_ok]
        congr 2
        apply Array.ext'
        simp
        rw [List.take_of_length_le (by simp)]
      · cases h
    · cases h
  · cases h
theorem opStep_sound (hE : EOK E B) (hcall : CallOK E.P B call) (h : HR E.P B ρ H w) {o : Oper} {a : Act} {ev : Operand → AV} {r : AV} {H' : AHeap} (hs : opStep E call o.op ev H = some (r, H')) (hf : Free ρ H.next H'.next)
    (hr : ∀ x ∈ o.op.operands, VR ρ (ev x) (a.eval x)) {next : Act → World → Prop} {Q : Exit → Act → World → Prop}
    (hn : ∀ v w' ρ', VR ρ' r v → HR E.P B ρ' H' w' → Post ρ H w ρ' H' w' → next (a.put o.dst v) w') : o.wp E.P a w next Q := by
  unfold opStep at hs
  split at hs
  · rename_i r' hp
    cases hs
    obtain ⟨v, h1, h2⟩ := pureOp_sound (e := a.eval) hp hr w
    simp only [Oper.wp, h1, Oper.upon]
    exact hn v w ρ h2 h (Post.refl _ _ _)
  · split at hs
    · rename_i x hh
      have hs := (chk_some hs).1
      cases hs
      obtain ⟨nx, v, w', ρ', h1, h2, h3, h4, h5⟩ := heapOp_sound (e := a.eval) h hh hf hr
      rcases h2 with rfl | ⟨rfl, rfl⟩
      · simp only [Oper.wp, h1, Oper.upon]
        exact hn v w' ρ' h3 h4 h5
      · simp only [Oper.wp, h1, Oper.upon]
        exact hn _ w' ρ' h3 h4 h5
    · split at hs
      · rename_i c hop
        have hs := (chk_some hs).1
        unfold aCall at hs
        split at hs
        · cases hs
        rename_i f args hcal
        have hex : execOp a.eval o = (do let d ← resolve a.eval c o.type; invoke d.target d.args : Sem Next) := by unfold execOp; rw [hop]
        obtain ⟨vs, hv, hrun⟩ := calleeOf_run (e := a.eval) (t := o.type) hcal (fun x hx => hr x (by rw [hop]; exact hx)) w
        split at hs
        · split at hs
          · rename_i hent
            simp only [Oper.wp]
            rw [hex, hrun, enters_run hent]
            simp only [Oper.upon]
            refine (hcall f args H r H' hs ρ w vs h hf hv).mono fun e w' he => ?_
            obtain ⟨v, ρ', rfl, h1, h2, h3⟩ := he
            exact hn v w' ρ' h1 h2 h3
          · cases hs
        · rename_i k hk
          split at hs
          · rename_i hh
            split at hs
            · rename_i hent
              simp only [Oper.wp]
              rw [hex, hrun, enters_run hent]
              simp only [Oper.upon]
              refine (hE.fn f hh hk args H r H' hs ρ w vs h hf hv).mono fun e w' he => ?_
              obtain ⟨v, ρ', rfl, h1, h2, h3⟩ := he
              exact hn v w' ρ' h1 h2 h3
            · cases hs
          · rename_i knf
            unfold aExt at hs
            split at hs
            · rename_i t g
              split at hs
              · rename_i es clock hg hroom
                cases hs
                obtain ⟨v, ws, rfl, ⟨u, rfl, hu⟩, hw0⟩ := hv
                simp only [VRL] at hw0
                subst hw0
                simp only [VR] at hu
                obtain ⟨b, cp, hρ, rfl⟩ := hu
                obtain ⟨ms, q1, q2⟩ := h.map hg hρ
                obtain ⟨ρ', p1, p2, p3⟩ := h.newMap hroom q2 hf
                simp only [Oper.wp]
                rw [hex, hrun, hE.ext f _ hk rfl]
                simp only [ExtK.entry]
                have : (Extern.MapsClone.clone [Value.iface t (.map (some b))].toArray).run E.P w = .ok (.iface t (.map (some w.heap.size))) (w.alloc (.map ms clock)) := by
                  have hc : Extern.MapsClone.clone [Value.iface t (.map (some b))].toArray = (do
                      let .map entries clock ← getObj b | stuck "maps.clone: a map expected"
                      pure (.iface t (.map (some (← newObj (.map entries clock)))))) := rfl
                  rw [hc]
                  simp only [Sem.run_bind, run_getObj q1 (by simp), Result.andThen_ok, run_newObj, Sem.run_pure, World.alloc_eq]
                rw [this]
                simp only [Result.andThen_ok, Oper.upon]
                exact hn _ _ ρ' ⟨_, rfl, p1⟩ p2 p3
              · cases hs
            · rename_i x c0
              split at hs
              · rename_i m hm hlt
                cases hs
                obtain ⟨v, ws, rfl, hu, u, ws', rfl, hc, hw0⟩ := hv
                simp only [VRL] at hw0
                subst hw0
                simp only [VR] at hc
                subst hc
                obtain ⟨q1, q2⟩ := aBytes_idx (P := E.P) h hm hu (blt_t hlt)
                simp only [Oper.wp]
                rw [hex, hrun, hE.ext f _ hk rfl]
                simp only [ExtK.entry]
                have : (Extern.BytealgIndexByte.indexByte [v, Value.int .u8 (Int.ofNat c0)].toArray).run E.P w = _ := q1
                rw [this]
                simp only [Result.andThen_ok, Oper.upon]
                refine hn _ _ ρ ?_ h (Post.refl _ _ _)
                rw [idxB_lib c0 (blt_t hlt) m q2]
                rfl
              · cases hs
            · cases hs
      · rename_i t x hop
        split at hs
        · rename_i b off hev
          split at hs
          · rename_i r' hg
            cases hs
            have hx := hr x (by rw [hop]; simp [Op.operands])
            rw [hev] at hx
            simp only [VR] at hx
            obtain ⟨z, h1, h2⟩ := gLoad_sound hE.glo h hg
            have : (execOp a.eval o).run E.P w = .ok (.value z) w := by
              unfold execOp; rw [hop]
              simp only [Instr.loadAt, hx, Instr.sureAddr, pure_bind, Sem.run_bind, h1, Result.andThen_ok, Sem.run_pure]
            simp only [Oper.wp, this, Oper.upon]
            exact hn z w ρ h2 h (Post.refl _ _ _)
          · cases hs
        · cases hs
      · cases hs
end
end Go.Ev
