/- Maps, and going through maps and texts. -/
import Derived.Test.YtjlaiimcbkbciaaDoorEv15
import Derived.Laws.StructEq
import Derived.Laws.RangeString
noncomputable section
namespace Go.Ev
open Go
def aKeyEq (d : TypeDesc) (a b : AV) : Option Bool :=
  match d, a, b with
  | .int _, .int k x, .int k' y => match eqK k k' with
    | true => some (eqI x y)
    | false => none
  | .string, .str x, .str y => some (eqL x y)
  | .bool, .bool x, .bool y => some (x == y)
  | _, _, _ => none
theorem aKeyEq_sound {ρ : Ren} {d : TypeDesc} {a b : AV} {r : Bool} {u v : Value} (h : aKeyEq d a b = some r) (ha : VR ρ a u) (hb : VR ρ b v) :
    Instr.sameNow d u v = some r ∧ (r = true → Instr.sameBits 10000 v u = true) := by
  unfold aKeyEq at h
  split at h
  · split at h
    · rename_i hk
      have hk := eqK_eq hk
      cases h
      simp only [VR] at ha hb
      subst ha hb hk
      refine ⟨by simp [Instr.sameNow, eqI_eq], fun e => ?_⟩
      rw [eqI_eq] at e
      simp at e
      subst e
      simp [Instr.sameBits]
    · cases h
  · rename_i x y
    cases h
    simp only [VR] at ha hb
    obtain ⟨rfl, hx⟩ := ha
    obtain ⟨rfl, hy⟩ := hb
    have e1 : (bs x == bs y) = eqL x y := by rw [beq_toListBytes]; exact bs_beq hx hy
    refine ⟨by simp only [Instr.sameNow, e1], fun e => ?_⟩
    rw [eqL_iff] at e
    subst e
    simp only [Instr.sameBits]
    rw [beq_toListBytes]
    simp
  · cases h
    simp only [VR] at ha hb
    subst ha hb
    exact ⟨rfl, fun e => by simp [Instr.sameBits] at e ⊢; exact e.symm⟩
  · cases h
def simpleKey : TypeDesc → Bool
  | .int _ | .string | .bool => true
  | _ => false
theorem checkKey_run {P : Program} {t : TypeId} {d : TypeDesc} (hd : P.underlying t = some d) (hs : simpleKey d = true) (e : Bool) (v : Value) (w : World) : (Instr.checkKey e 10000 t v).run P w = .ok () w := by
  have : ∀ n, (Instr.checkKey e (n + 1) t v).run P w = .ok () w := by
    intro n
    unfold Instr.checkKey
    simp only [Sem.run_bind, run_und hd, Result.andThen_ok]
    cases d <;> first | rfl | cases hs
  exact this 9999
def aFind (d : TypeDesc) (k : AV) : List (AV × AV × Nat) → Nat → Option (Option (Nat × AV))
  | [], _ => some none
  | e :: es, i => match aKeyEq d k e.1 with
    | some true => some (some (i, e.2.1))
    | some false => aFind d k es (i + 1)
    | none => none
theorem aFind_sound {ρ : Ren} {d : TypeDesc} {k : AV} {u : Value} (hk : VR ρ k u) : ∀ {es : List (AV × AV × Nat)} {ms : List MapEntry} {i : Nat} {r : Option (Nat × AV)}, aFind d k es i = some r → ERL ρ es ms →
    match r with
    | none => Instr.findNow d u ms i = some none
    | some (j, a) => ∃ m, i ≤ j ∧ ms[j - i]? = some m ∧ Instr.findNow d u ms i = some (some (j, m.val)) ∧ VR ρ a m.val ∧ Instr.sameBits 10000 m.key u = true
  | [], ms, i, r, h, he => by
    simp [aFind] at h; subst h
    simp [ERL] at he; subst he
    rfl
  | e :: es, ms, i, r, h, he => by
    obtain ⟨m, ns, rfl, ⟨h1, h2, h3⟩, he'⟩ := he
    unfold aFind at h
    split at h
    · rename_i hq
      cases h
      obtain ⟨q1, q2⟩ := aKeyEq_sound hq hk h1
      refine ⟨m, Nat.le_refl _, by simp, ?_, h2, q2 rfl⟩
      simp [Instr.findNow, q1]
    · rename_i hq
      obtain ⟨q1, _⟩ := aKeyEq_sound hq hk h1
      have := aFind_sound hk h he'
      cases r with
      | none => simp only at this ⊢; simp [Instr.findNow, q1, this]
      | some x =>
        obtain ⟨j, a⟩ := x
        simp only at this ⊢
        obtain ⟨m', r1, r2, r3, r4, r5⟩ := this
        refine ⟨m', by omega, ?_, ?_, r4, r5⟩
        · rw [show j - i = (j - (i + 1)) + 1 from by omega, List.getElem?_cons_succ]; exact r2
        · simp [Instr.findNow, q1, r3]
    · cases h
theorem findKey_run {P : Program} {t : TypeId} {d : TypeDesc} {u : Value} {ms : List MapEntry} {r : Option (Nat × Value)} (hd : P.underlying t = some d) (hf : Instr.findNow d u ms 0 = some r) (w : World) :
    (Instr.findKey t u ms).run P w = .ok r w := by
  simp only [Instr.findKey, Sem.run_bind, run_und hd, Result.andThen_ok, hf, Sem.run_pure]
section
variable {P : Program} {B : Bas} {ρ : Ren} {H : AHeap} {w : World}
theorem HR.map (h : HR P B ρ H w) {g clock : Nat} {es : List (AV × AV × Nat)} (hg : H.objs.get g = some (.map es clock)) {b cp : Nat} (hr : ρ g = some (b, cp)) :
    ∃ ms, w.heap[b]? = some (.map ms clock) ∧ ERL ρ es ms.toList := by
  obtain ⟨b', cp', ms, h1, h2, h3⟩ := h.obj g _ hg
  rw [hr] at h1
  obtain ⟨rfl, rfl⟩ := Prod.mk.inj (Option.some.inj h1)
  exact ⟨ms, h2, h3⟩
theorem HR.soleOf (h : HR P B ρ H w) {g b cp : Nat} {o : AObj} (hg : H.objs.get g = some o) (hl : o.live = true) (hc : o.cls = none) (hr : ρ g = some (b, cp)) : Sole ρ H g b := by
  intro n q cq e lq rq
  rcases h.inj n g q o b cq cp e hg lq hl rq hr with h1 | ⟨c, _, h2⟩
  · exact h1
  · rw [hc] at h2; cases h2
theorem run_getObj {r : Nat} {o : Obj} (h : w.heap[r]? = some o) (hc : ∀ c e f, o ≠ .cells c e f) : (getObj r).run P w = .ok o w := by
  simp only [getObj, Sem.run, h]
theorem run_setObj {r : Nat} {o q : Obj} (h : w.heap[r]? = some o) (hc : ∀ c e f, o ≠ .cells c e f) : (setObj r q).run P w = .ok () { w with heap := w.heap.setIfInBounds r q } := by
  simp only [setObj, Sem.run, h]
/-- An object that is no row of cells is turned. -/
theorem HR.turn (h : HR P B ρ H w) {g b cp : Nat} {o o' : AObj} {O : Obj} (hg : H.objs.get g = some o) (hl : o.live = true) (hc : o.cls = none) (hc' : o'.cls = none) (hk : o'.known = o.known) (hlv : o'.live = true) (hlo : H.lo ≤ g) (hr : ρ g = some (b, cp)) (hlt : b < w.heap.size)
    (ho : OR P ρ g o' { w with heap := w.heap.setIfInBounds b O }) : HR P B ρ (H.put g o') { w with heap := w.heap.setIfInBounds b O } ∧ Post ρ H w ρ (H.put g o') { w with heap := w.heap.setIfInBounds b O } := by
  refine h.write hg hl hlv hr (h.soleOf hg hl hc hr) (hc'.trans hc.symm) hk hlo rfl rfl rfl (by simp) (fun k hk => ?_) ho
  simp only [Array.getElem?_setIfInBounds]
  rw [if_neg (fun e => hk e.symm)]
theorem heap_set {b : Nat} {O : Obj} (hlt : b < w.heap.size) : ({ w with heap := w.heap.setIfInBounds b O } : World).heap[b]? = some O := by
  simp [Array.getElem?_setIfInBounds, hlt]
def aMakeMap (P : Program) (H : AHeap) (t : TypeId) (r : Option AV) : Option (AV × AHeap) :=
  match H.room with
  | false => none
  | true => match r, P.underlying t with
    | none, _ => some (.map H.next, H.alloc (.map [] 0))
    | some (.int _ _), some (.map _ _) => some (.map H.next, H.alloc (.map [] 0))
    | _, _ => none
theorem HR.newMap (h : HR P B ρ H w) (hroom : H.room = true) {es : List (AV × AV × Nat)} {ms : Array MapEntry} {clock : Nat} (he : ERL ρ es ms.toList) (hf : Free ρ H.next (H.next + 1)) :
    ∃ ρ', VR ρ' (.map H.next) (.map (some w.heap.size)) ∧ HR P B ρ' (H.alloc (.map es clock)) (w.alloc (.map ms clock)) ∧ Post ρ H w ρ' (H.alloc (.map es clock)) (w.alloc (.map ms clock)) := by
  have hfr : ρ H.next = none := hf _ (Nat.le_refl _) (by omega)
  have hle := Ren.le_upd (ρ := ρ) (n := H.next) (w.heap.size, 0) hfr
  obtain ⟨h1, p1⟩ := h.make (o := .map es clock) (O := .map ms clock) (AHeap.room_lt hroom) hfr 0 ⟨w.heap.size, 0, ms, Ren.upd_same _ _ _, heap_new _ _, he.mono hle⟩ (by simp [AObj.cls])
  exact ⟨_, ⟨_, _, Ren.upd_same _ _ _, rfl⟩, h1, p1⟩
theorem aMakeMap_sound (h : HR P B ρ H w) {t : TypeId} {r : Option AV} {a : AV} {H' : AHeap} (hm : aMakeMap P H t r = some (a, H')) (hf : Free ρ H.next H'.next) {rv : Option Value} (hr : VRO ρ r rv) :
    ∃ v w' ρ', (Instr.makeMap t rv).run P w = .ok v w' ∧ VR ρ' a v ∧ HR P B ρ' H' w' ∧ Post ρ H w ρ' H' w' := by
  unfold aMakeMap at hm
  split at hm
  · cases hm
  rename_i hroom
  split at hm
  · cases hm
    cases rv with
    | some _ => exact absurd hr (by simp [VRO])
    | none =>
      obtain ⟨ρ', q1, q2, q3⟩ := h.newMap hroom (es := []) (ms := #[]) (clock := 0) rfl hf
      exact ⟨_, _, ρ', by simp [Instr.makeMap], q1, q2, q3⟩
  · rename_i hd
    cases hm
    cases rv with
    | none => exact absurd hr (by simp [VRO])
    | some v =>
      simp only [VRO, VR] at hr
      subst hr
      obtain ⟨ρ', q1, q2, q3⟩ := h.newMap hroom (es := []) (ms := #[]) (clock := 0) rfl hf
      exact ⟨_, _, ρ', by simp [Instr.makeMap, run_und hd, asInt, asIntOf], q1, q2, q3⟩
  · cases hm
def aLookup (P : Program) (H : AHeap) (t : TypeId) (x k : AV) (ok : Bool) : Option AV :=
  match P.underlying t with
  | some (.map key elem) => match P.underlying key with
    | none => none
    | some d => match simpleKey d with
      | false => none
      | true => match (match x with
          | .nilMap => some []
          | .map g => match H.objs.get g with
            | some (.map es _) => some es
            | _ => none
          | _ => none) with
        | none => none
        | some es => match aFind d k es 0 with
          | none => none
          | some (some (_, v)) => some (match ok with | true => .tuple [v, .bool true] | false => v)
          | some none => match zeroOf P elem with
            | none => none
            | some z => some (match ok with | true => .tuple [z, .bool false] | false => z)
  | _ => none
theorem aLookup_sound (h : HR P B ρ H w) {t : TypeId} {x k r : AV} {ok : Bool} {xv kv : Value} (hl : aLookup P H t x k ok = some r) (hx : VR ρ x xv) (hk : VR ρ k kv) :
    ∃ z, (Instr.lookup t xv kv ok).run P w = .ok z w ∧ VR ρ r z := by
  unfold aLookup at hl
  split at hl
  · rename_i key elem ht
    split at hl
    · cases hl
    rename_i d hd
    split at hl
    · cases hl
    rename_i hs
    split at hl
    · cases hl
    rename_i es hes
    have hm : ∃ ms : Array MapEntry, ERL ρ es ms.toList ∧ ((xv = .map none ∧ ms = #[]) ∨ ∃ b clock, xv = .map (some b) ∧ w.heap[b]? = some (.map ms clock)) := by
      split at hes
      · cases hes
        simp only [VR] at hx; subst hx
        exact ⟨#[], rfl, .inl ⟨rfl, rfl⟩⟩
      · split at hes
        · rename_i g es' clock hg
          cases hes
          simp only [VR] at hx
          obtain ⟨b, c, hr, rfl⟩ := hx
          obtain ⟨ms, q1, q2⟩ := h.map hg hr
          exact ⟨ms, q2, .inr ⟨b, clock, rfl, q1⟩⟩
        · cases hes
      · cases hes
    obtain ⟨ms, q1, q2⟩ := hm
    have hrun : ∀ {fr : Option (Nat × Value)}, Instr.findNow d kv ms.toList 0 = some fr → (Instr.lookup t xv kv ok).run P w =
        ((match fr with
          | some (_, v) => (pure (v, true) : Sem (Value × Bool))
          | none => do pure (← zeroValue elem, false)).run P w).andThen fun p w' => .ok (if ok = true then .tuple #[p.1, .bool p.2] else p.1) w' := by
      intro fr hfr
      rcases q2 with ⟨rfl, rfl⟩ | ⟨b, clock, rfl, q2⟩
      · simp only [Instr.lookup, pure_bind, Sem.run_bind, run_und ht, Result.andThen_ok, checkKey_run hd hs, findKey_run hd hfr]
        cases fr with
        | none => simp only [pure_bind, bind_assoc, Sem.run_bind, Sem.run_pure, Result.andThen_ok]; cases (zeroValue elem).run P w <;> rfl
        | some p => simp only [pure_bind, Sem.run_pure, Result.andThen_ok]
      · simp only [Instr.lookup, bind_assoc, pure_bind, Sem.run_bind, run_und ht, Result.andThen_ok, run_getObj q2 (by simp), checkKey_run hd hs, findKey_run hd hfr]
        cases fr with
        | none => simp only [pure_bind, bind_assoc, Sem.run_bind, Sem.run_pure, Result.andThen_ok]; cases (zeroValue elem).run P w <;> rfl
        | some p => simp only [pure_bind, Sem.run_pure, Result.andThen_ok]
    split at hl
    · cases hl
    · rename_i j v hf
      have := aFind_sound hk hf q1
      simp only at this
      obtain ⟨m, _, _, r3, r4, _⟩ := this
      cases hl
      refine ⟨_, by rw [hrun r3]; simp only [Sem.run_pure, Result.andThen_ok]; rfl, ?_⟩
      cases ok
      · exact r4
      · exact ⟨_, rfl, VRL.cons r4 (VRL.cons rfl VRL.nil)⟩
    · rename_i hf
      have := aFind_sound hk hf q1
      simp only at this
      split at hl
      · cases hl
      rename_i z hz
      cases hl
      obtain ⟨i, zv, z1, z2, z3⟩ := zeroOf_sound hz ρ
      refine ⟨_, by rw [hrun this]; simp only [Sem.run_bind, run_zero z1 z2, Sem.run_pure, Result.andThen_ok]; rfl, ?_⟩
      cases ok
      · exact z3
      · exact ⟨_, rfl, VRL.cons z3 (VRL.cons rfl VRL.nil)⟩
  · cases hl
theorem ERL.get : ∀ {es : List (AV × AV × Nat)} {ms : List MapEntry}, ERL ρ es ms → ms.length = es.length ∧ ∀ (i : Nat) e, es[i]? = some e → ∃ m, ms[i]? = some m ∧ ER ρ e m
  | [], ms, h => by simp [ERL] at h; subst h; exact ⟨rfl, by simp⟩
  | e :: es, ms, h => by
    obtain ⟨m, ns, rfl, h1, h2⟩ := h
    obtain ⟨l1, l2⟩ := ERL.get h2
    refine ⟨by simp [l1], fun i e' hi => ?_⟩
    cases i with
    | zero => simp at hi; subst hi; exact ⟨m, by simp, h1⟩
    | succ i => simp at hi; simpa using l2 i e' hi
theorem ERL.mk : ∀ {es : List (AV × AV × Nat)} {ms : List MapEntry}, ms.length = es.length → (∀ (i : Nat) e, es[i]? = some e → ∃ m, ms[i]? = some m ∧ ER ρ e m) → ERL ρ es ms
  | [], ms, h, _ => by simp at h; subst h; rfl
  | e :: es, ms, h, k => by
    cases ms with
    | nil => simp at h
    | cons m ns =>
      obtain ⟨m', e1, e2⟩ := k 0 e (by simp)
      simp at e1; subst e1
      refine ⟨m, ns, rfl, e2, ERL.mk (by simpa using h) fun i e' hi => ?_⟩
      simpa using k (i + 1) e' (by simpa using hi)
def setAt (l : List (AV × AV × Nat)) (i : Nat) (k v : AV) : List (AV × AV × Nat) :=
  match l, i with
  | [], _ => []
  | e :: l, 0 => (k, v, e.2.2) :: l
  | e :: l, i + 1 => e :: setAt l i k v
theorem setAt_length (k v : AV) : ∀ (l : List (AV × AV × Nat)) (i : Nat), (setAt l i k v).length = l.length
  | [], _ => rfl
  | _ :: _, 0 => rfl
  | _ :: l, i + 1 => by simp [setAt, setAt_length k v l i]
theorem setAt_get (k v : AV) : ∀ (l : List (AV × AV × Nat)) (i j : Nat), (setAt l i k v)[j]? = if j = i then (l[j]?).map fun e => (k, v, e.2.2) else l[j]?
  | [], i, j => by simp [setAt]
  | e :: l, 0, j => by cases j <;> simp [setAt]
  | e :: l, i + 1, j => by cases j <;> simp [setAt, setAt_get k v l i]
def aMapUpdate (P : Program) (H : AHeap) (t : TypeId) (x k v : AV) : Option AHeap :=
  match P.underlying t with
  | some (.map key _) => match P.underlying key with
    | none => none
    | some d => match simpleKey d with
      | false => none
      | true => match x with
        | .map g => match H.objs.get g, Nat.ble H.lo g with
          | some (.map es clock), true => match aFind d k es 0 with
            | none => none
            | some (some (i, _)) => some (H.put g (.map (setAt es i k v) clock))
            | some none => some (H.put g (.map (es ++ [(k, v, clock)]) (clock + 1)))
          | _, _ => none
        | _ => none
  | _ => none
theorem aMapUpdate_sound (h : HR P B ρ H w) {t : TypeId} {x k v : AV} {H' : AHeap} {xv kv vv : Value} (hu : aMapUpdate P H t x k v = some H') (hx : VR ρ x xv) (hk : VR ρ k kv) (hv : VR ρ v vv) :
    ∃ w', (Instr.mapUpdate t xv kv vv).run P w = .ok () w' ∧ HR P B ρ H' w' ∧ Post ρ H w ρ H' w' := by
  unfold aMapUpdate at hu
  split at hu
  · rename_i key elem ht
    split at hu
    · cases hu
    rename_i d hd
    split at hu
    · cases hu
    rename_i hs
    split at hu
    · rename_i g
      split at hu
      · rename_i es clock hg hlo
        have hlo := Nat.le_of_ble_eq_true hlo
        simp only [VR] at hx
        obtain ⟨b, cp, hr, rfl⟩ := hx
        obtain ⟨ms, q1, q2⟩ := h.map hg hr
        have hlt := (Array.getElem?_eq_some_iff.1 q1).1
        obtain ⟨l1, l2⟩ := q2.get
        split at hu
        · cases hu
        · rename_i i a hf
          cases hu
          have := aFind_sound hk hf q2
          simp only [Nat.sub_zero] at this
          obtain ⟨m, _, r2, r3, _, r5⟩ := this
          have hi : ms[i]? = some m := by simpa using r2
          obtain ⟨h1, p1⟩ := h.turn (O := .map (ms.modify i fun e => { e with key := kv, val := vv }) clock) (o' := .map (setAt es i k v) clock) hg rfl rfl rfl rfl rfl hlo hr hlt
            ⟨b, cp, _, hr, heap_set hlt, ERL.mk (by simp [setAt_length]; simpa using l1) fun j e he => by
              rw [setAt_get] at he
              simp only [Array.getElem?_toList, Array.getElem?_modify]
              by_cases c : j = i
              · subst c
                rw [if_pos rfl] at he
                cases hj : es[j]? with
                | none => rw [hj] at he; simp at he
                | some e0 =>
                  rw [hj] at he
                  simp at he
                  subst he
                  obtain ⟨m0, f1, f2⟩ := l2 j e0 hj
                  simp at f1
                  exact ⟨{ m0 with key := kv, val := vv }, by simp [f1], hk, hv, f2.2.2⟩
              · rw [if_neg c] at he
                obtain ⟨m0, f1, f2⟩ := l2 j e he
                simp at f1
                exact ⟨m0, by rw [if_neg (fun e => c e.symm)]; exact f1, f2⟩⟩
          refine ⟨_, ?_, h1, p1⟩
          simp only [Instr.mapUpdate, Sem.run_bind, run_und ht, Result.andThen_ok, run_getObj q1 (by simp), checkKey_run hd hs, findKey_run hd r3, Instr.keyThatStays]
          rw [hi]
          simp only [Option.map_some, Option.getD_some, r5, if_true, Sem.run_pure, Result.andThen_ok, run_setObj q1 (by simp)]
        · rename_i hf
          cases hu
          have := aFind_sound hk hf q2
          simp only at this
          obtain ⟨h1, p1⟩ := h.turn (O := .map (ms.push { key := kv, val := vv, born := clock }) (clock + 1)) (o' := .map (es ++ [(k, v, clock)]) (clock + 1)) hg rfl rfl rfl rfl rfl hlo hr hlt
            ⟨b, cp, _, hr, heap_set hlt, ERL.mk (by simp; simpa using l1) fun j e he => by
              simp only [Array.getElem?_toList]
              rw [Array.getElem?_push]
              rw [List.getElem?_append] at he
              have l1' : ms.size = es.length := by simpa using l1
              by_cases c : j < es.length
              · rw [if_pos c] at he
                obtain ⟨m0, f1, f2⟩ := l2 j e he
                simp at f1
                exact ⟨m0, by rw [if_neg (by omega)]; exact f1, f2⟩
              · rw [if_neg c] at he
                have hj : j = es.length := by
                  have := (List.getElem?_eq_some_iff.1 he).1
                  simp at this
                  omega
                subst hj
                simp at he
                subst he
                exact ⟨{ key := kv, val := vv, born := clock }, by rw [if_pos l1'.symm], hk, hv, rfl⟩⟩
          refine ⟨_, ?_, h1, p1⟩
          simp only [Instr.mapUpdate, Sem.run_bind, run_und ht, Result.andThen_ok, run_getObj q1 (by simp), checkKey_run hd hs, findKey_run hd this, run_setObj q1 (by simp)]
      · cases hu
    · cases hu
  · cases hu
end
end Go.Ev
