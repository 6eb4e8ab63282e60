/- Operations on memory, by one function: 'heapOp'. -/
import Derived.Test.YtjlaiimcbkbciaaDoorEv17
noncomputable section
namespace Go.Ev
open Go
def aDelete (P : Program) (H : AHeap) (t : TypeId) (x k : AV) : Option AHeap :=
  match P.underlying t with
  | some (.map key _) => match P.underlying key with
    | none => none
    | some d => match simpleKey d with
      | false => none
      | true => match x with
        | .nilMap => some H
        | .map g => match H.objs.get g, Nat.ble H.lo g with
          | some (.map es clock), true => match aFind d k es 0 with
            | none => none
            | some (some (i, _)) => some (H.put g (.map (es.eraseIdx i) clock))
            | some none => some (H.put g (.map es clock))
          | _, _ => none
        | _ => none
  | _ => none
def aBuildSlice (P : Program) (H : AHeap) (t : TypeId) (len : Nat) (parts : List (Nat × AV)) : Option (AV × AHeap) :=
  match P.underlying t with
  | some (.slice e) => match P.info? e, zeroOf P e with
    | some i, some z => match Nat.ble (len * i.size) 16777216 && Nat.beq z.cells.length i.size with
      | false => none
      | true => match aFill (fun k => some (k * i.size, i.size)) (zerosOf z.cells len) parts with
        | none => none
        | some l => match H.row e l with
          | none => none
          | some (g, H') => some (.sliceC g 0 len len, H')
    | _, _ => none
  | _ => none
/-- A row of bytes is marked: the mark lies behind its last cell. -/
def aMark (P : Program) (H : AHeap) (s d : TypeId) (x : AV) : Option AHeap :=
  match (match x with | .slice g _ _ _ => some g | .sliceC g _ _ _ => some g | _ => none) with
  | none => none
  | some g => match Nat.beq s d, P.underlying s with
    | true, some (.slice e) => match P.underlying e, H.objs.get g with
      | some (.int .u8), some (.cells a k none t) => match Nat.ble H.lo g with
        | true => some (H.put g (.cells a k none t))
        | false => none
      | _, _ => none
    | _, _ => none
def heapOp (P : Program) (op : Op) (ev : Operand → AV) (H : AHeap) : Option (AV × AHeap) :=
  match op with
  | .alloc e => aAlloc P H e
  | .box e x => aBox H e (ev x)
  | .load t x => match aLoad P H t (ev x) with
    | some r => some (r, H)
    | none => none
  | .store t x y => match ev x with
    | .ptr g off => match P.info? t with
      | some i => match Nat.beq (ev y).cells.length i.size with
        | true => match aStoreCells H g off (ev y).cells with
          | some H' => some (undefA, H')
          | none => none
        | false => none
      | none => none
    | _ => none
  | .buildSlice t len parts => aBuildSlice P H t len (parts.toList.map fun p => (p.1, ev p.2))
  | .convert s d x => match ev x with
    | .str l => aToBytes P H s d l
    | y => match aToStr P H s d y with
      | some r => some (r, H)
      | none => match aMark P H s d y with
        | some H' => some (y, H')
        | none => none
  | .makeMap t r => aMakeMap P H t (r.map ev)
  | .makeSlice t l c => aMakeSlice P H t (ev l) (ev c)
  | .lookup t x k ok => match aLookup P H t (ev x) (ev k) ok with
    | some r => some (r, H)
    | none => none
  | .mapUpdate t m k x => match aMapUpdate P H t (ev m) (ev k) (ev x) with
    | some H' => some (undefA, H')
    | none => none
  | .insert t m k x => match aMapUpdate P H t (ev m) (ev k) (ev x) with
    | some H' => some (undefA, H')
    | none => none
  | .range t x => aRange P H t (ev x)
  | .next it isS => aNext H (ev it) isS
  | .entry it => match aEntry H (ev it) with
    | some r => some (r, H)
    | none => none
  | .call c => match c.callee, c.args.toList with
    | .builtin .append, [s, x] => aAppend P H c.argTypes (ev s) (ev x)
    | .builtin .copy, [s, x] => aCopy P H c.argTypes (ev s) (ev x)
    | .builtin .delete, [m, k] => match c.argTypes[0]? with
      | some t => match aDelete P H t (ev m) (ev k) with
        | some H' => some (undefA, H')
        | none => none
      | none => none
    | .builtin .len, [x] => match c.argTypes[0]? with
      | some t => match P.underlying t, ev x with
        | some (.map _ _), .map g => match H.objs.get g with
          | some (.map es _) => some (.int .i64 (Int.ofNat es.length), H)
          | _ => none
        | _, _ => none
      | none => none
    | _, _ => none
  | _ => none
section
variable {P : Program} {B : Bas} {ρ : Ren} {H : AHeap} {w : World}
theorem aDelete_sound (h : HR P B ρ H w) {t : TypeId} {x k : AV} {H' : AHeap} {xv kv : Value} (hu : aDelete P H t x k = some H') (hx : VR ρ x xv) (hk : VR ρ k kv) {ts : Array TypeId} (h0 : ts[0]? = some t) (ty : TypeId) :
    ∃ w', (Builtin.delete_ ts ty #[xv, kv]).run P w = .ok (.tuple #[]) w' ∧ HR P B ρ H' w' ∧ Post ρ H w ρ H' w' := by
  unfold aDelete at hu
  split at hu
  · rename_i key elem ht
    split at hu
    · cases hu
    rename_i d hd
    split at hu
    · cases hu
    rename_i hs
    split at hu
    · cases hu
      simp only [VR] at hx; subst hx
      refine ⟨w, ?_, h, Post.refl _ _ _⟩
      simp [Builtin.delete_, h0, run_und ht, checkKey_run hd hs]
    · rename_i g
      split at hu
      · rename_i es clock hg hlo
        have hlo := Nat.le_of_ble_eq_true hlo
        simp only [VR] at hx
        obtain ⟨b, cp, hr, rfl⟩ := hx
        obtain ⟨ms, q1, q2⟩ := h.map hg hr
        have hlt := (Array.getElem?_eq_some_iff.1 q1).1
        obtain ⟨l1, l2⟩ := q2.get
        split at hu
        · cases hu
        · rename_i i a hf
          cases hu
          have := aFind_sound hk hf q2
          simp only [Nat.sub_zero] at this
          obtain ⟨m, _, r2, r3, _, _⟩ := this
          obtain ⟨h1, p1⟩ := h.turn (O := .map (ms.eraseIdxIfInBounds i) clock) (o' := .map (es.eraseIdx i) clock) hg rfl rfl rfl rfl rfl hlo hr hlt
            ⟨b, cp, _, hr, heap_set hlt, by
              rw [Array.toList_eraseIdxIfInBounds]
              refine ERL.mk (by simp [List.length_eraseIdx]; simp at l1; rw [l1]) fun j e he => ?_
              rw [List.getElem?_eraseIdx] at he ⊢
              split at he
              · rename_i c; rw [if_pos c]; exact l2 j e he
              · rename_i c; rw [if_neg c]; exact l2 (j + 1) e he⟩
          refine ⟨_, ?_, h1, p1⟩
          simp only [Builtin.delete_, h0, List.getElem?_toArray, List.getElem?_cons_zero, List.getElem?_cons_succ, Sem.run_bind, run_und ht, Result.andThen_ok, run_getObj q1 (by simp), checkKey_run hd hs, findKey_run hd r3, run_setObj q1 (by simp), Sem.run_pure]
        · rename_i hf
          cases hu
          have := aFind_sound hk hf q2
          simp only at this
          obtain ⟨h1, p1⟩ := h.turn (O := .map ms clock) (o' := .map es clock) hg rfl rfl rfl rfl rfl hlo hr hlt ⟨b, cp, _, hr, heap_set hlt, q2⟩
          refine ⟨_, ?_, h1, p1⟩
          simp only [Builtin.delete_, h0, List.getElem?_toArray, List.getElem?_cons_zero, List.getElem?_cons_succ, Sem.run_bind, run_und ht, Result.andThen_ok, run_getObj q1 (by simp), checkKey_run hd hs, findKey_run hd this, run_setObj q1 (by simp), Sem.run_pure]
      · cases hu
    · cases hu
  · cases hu
theorem aBuildSlice_sound (h : HR P B ρ H w) {t : TypeId} {len : Nat} {parts : List (Nat × AV)} {r : AV} {H' : AHeap} {ps : Array (Nat × Value)} (hb : aBuildSlice P H t len parts = some (r, H')) (hf : Free ρ H.next H'.next) (hp : PartsR ρ parts ps.toList) :
    ∃ v w' ρ', (Instr.buildSlice t len ps).run P w = .ok v w' ∧ VR ρ' r v ∧ HR P B ρ' H' w' ∧ Post ρ H w ρ' H' w' := by
  unfold aBuildSlice at hb
  split at hb
  · rename_i e hd
    split at hb
    · rename_i i z hi hz
      obtain ⟨i', zv, hi', hzv, hzr⟩ := zeroOf_sound hz ρ
      rw [hi] at hi'
      obtain rfl := Option.some.inj hi'
      split at hb
      · cases hb
      rename_i hc
      obtain ⟨b1, b2⟩ := bAnd hc
      have b1 := Nat.le_of_ble_eq_true b1
      have b2 := Nat.eq_of_beq_eq_true b2
      split at hb
      · cases hb
      rename_i l hl
      split at hb
      · cases hb
      rename_i g H1 hr
      cases hb
      have hzl := hzr.cells.length
      simp only [Array.length_toList] at hzl
      obtain ⟨out, o1, o2⟩ := aFill_sound _ _ _ _ _ hl hp (zeros_rel hzr len)
      obtain ⟨ρ', cp, h1, p1, hg⟩ := row_sound h hr hf o2
      refine ⟨_, _, ρ', ?_, ⟨_, _, hg, rfl⟩, h1, p1⟩
      have hsz : zv.cells.size = i.size := by omega
      rw [hsz] at o1
      simp only [Instr.buildSlice, Sem.run_bind, run_und hd, run_size hi, Result.andThen_ok]
      rw [if_neg (by omega)]
      by_cases h0 : len * i.size = 0
      · rw [if_pos h0]
        have e1 : (Array.range (len * i.size)).map (fun x => (#[] : Array Value)[x % (#[] : Array Value).size]!) = (Array.range (len * i.size)).map (fun i_1 => zv.cells[i_1 % i.size]!) := by rw [h0]; simp
        simp only [pure_bind]
        rw [e1, o1]
        simp only [Sem.run_bind, run_newRow, Result.andThen_ok, Sem.run_pure]
      · rw [if_neg h0]
        simp only [bind_assoc, pure_bind, Sem.run_bind, run_zero hi hzv, Result.andThen_ok, hsz]
        rw [o1]
        simp only [Sem.run_bind, run_newRow, Result.andThen_ok, Sem.run_pure]
    · cases hb
  · cases hb
theorem freeze_at {b : Nat} {arr : Array Value} {el : TypeId} {fr : Nat × Nat} (h : w.heap[b]? = some (.cells arr el fr)) (hf : FrOK arr.size fr) :
    ∃ w' fr', w.freeze ⟨b, arr.size, none⟩ 1 = w' ∧ FrOK arr.size fr' ∧ w'.heap[b]? = some (.cells arr el fr') ∧ (∀ k, k ≠ b → w'.heap[k]? = w.heap[k]?) ∧ w'.heap.size = w.heap.size ∧ w'.os = w.os ∧ w'.tape = w.tape ∧ w'.output = w.output := by
  obtain ⟨lo, hi⟩ := fr
  obtain ⟨h1, h2⟩ := hf
  simp only at h1 h2
  refine ⟨_, (if lo == hi then (arr.size, arr.size + 1) else (min lo arr.size, max hi (arr.size + 1))), rfl, ?_, ?_, fun k hk => ?_, ?_, ?_, ?_, ?_⟩
  · split
    · exact ⟨fun i hi h => by simp only at h; omega, by simp⟩
    · rename_i hne
      have hne : lo ≠ hi := by simpa using hne
      have hlo : arr.size ≤ lo := Nat.le_of_not_lt fun c => h1 lo c ⟨Nat.le_refl _, by omega⟩
      exact ⟨fun i hi h => by simp only at h; omega, by simp only; omega⟩
  · unfold World.freeze
    rw [if_neg (by decide)]
    simp only [Array.getElem?_modify, h]
    simp
  · unfold World.freeze
    rw [if_neg (by decide)]
    simp only [Array.getElem?_modify]
    rw [if_neg (fun e => hk e.symm)]
  · unfold World.freeze
    rw [if_neg (by decide)]
    simp
  · unfold World.freeze; rw [if_neg (by decide)]
  · unfold World.freeze; rw [if_neg (by decide)]
  · unfold World.freeze; rw [if_neg (by decide)]
theorem aMark_sound (h : HR P B ρ H w) {s d : TypeId} {x : AV} {H' : AHeap} {v : Value} (ha : aMark P H s d x = some H') (hx : VR ρ x v) :
    ∃ w', (convert s d v).run P w = .ok v w' ∧ HR P B ρ H' w' ∧ Post ρ H w ρ H' w' := by
  unfold aMark at ha
  split at ha
  · cases ha
  rename_i g hg
  have hsl : ∃ b cp off len cap, ρ g = some (b, cp) ∧ v = .slice (some ⟨b, off, none⟩) len cap := by
    cases x <;> simp only at hg <;> try cases hg
    · obtain ⟨b, c, q1, q2, q3⟩ := hx
      exact ⟨b, c, _, _, _, q1, q3⟩
    · obtain ⟨b, c, q1, q3⟩ := hx
      exact ⟨b, c, _, _, _, q1, q3⟩
  obtain ⟨b, cp, off, len, cap, hr, rfl⟩ := hsl
  split at ha
  · rename_i e hsd hs
    have hsd := Nat.eq_of_beq_eq_true hsd
    subst hsd
    split at ha
    · rename_i a k t he hgo
      split at ha
      · rename_i hlo
        have hlo := Nat.le_of_ble_eq_true hlo
        cases ha
        obtain ⟨b', cp', arr, fr, q1, q2, q3, q4, q5, q6, q7⟩ := h.obj g _ hgo
        rw [hr] at q1
        obtain ⟨rfl, rfl⟩ := Prod.mk.inj (Option.some.inj q1)
        obtain ⟨w', fr', e1, e2, e3, e4, e5, e6, e7, e8⟩ := freeze_at q2 q3
        have hsh : w.shape? b = some (a, arr.size) := by unfold World.shape?; rw [q2]
        refine ⟨w', ?_, h.write hgo rfl rfl hr (h.soleOf hgo rfl rfl hr) rfl rfl hlo e6 e7 e8 e5 e4 ⟨b, cp, arr, fr', hr, e3, e2, q4, q5, q6, q7⟩⟩
        simp [convert, run_und hs, run_und he, markStringish, hsh, e1]
      · cases ha
    · cases ha
  · cases ha
theorem heapOp_sound (h : HR P B ρ H w) {o : Oper} {ev : Operand → AV} {e : Operand → Value} {r : AV} {H' : AHeap} (ho : heapOp P o.op ev H = some (r, H')) (hf : Free ρ H.next H'.next) (hr : ∀ x ∈ o.op.operands, VR ρ (ev x) (e x)) :
    ∃ nx v w' ρ', (execOp e o).run P w = .ok nx w' ∧ (nx = .value v ∨ (nx = .skip ∧ v = undef)) ∧ VR ρ' r v ∧ HR P B ρ' H' w' ∧ Post ρ H w ρ' H' w' := by
  have liftV : ∀ {s : Sem Value} {r : AV} {H' : AHeap}, (∃ v w' ρ', s.run P w = .ok v w' ∧ VR ρ' r v ∧ HR P B ρ' H' w' ∧ Post ρ H w ρ' H' w') →
      ∃ nx v w' ρ', (do pure (.value (← s)) : Sem Next).run P w = .ok nx w' ∧ (nx = .value v ∨ (nx = .skip ∧ v = undef)) ∧ VR ρ' r v ∧ HR P B ρ' H' w' ∧ Post ρ H w ρ' H' w' := by
    rintro s r H' ⟨v, w', ρ', h1, h2⟩
    exact ⟨_, v, w', ρ', by simp only [Sem.run_bind, h1, Result.andThen_ok, Sem.run_pure], .inl rfl, h2⟩
  have liftU : ∀ {s : Sem Unit} {H' : AHeap}, (∃ w', s.run P w = .ok () w' ∧ HR P B ρ H' w' ∧ Post ρ H w ρ H' w') →
      ∃ nx v w' ρ', (do s; pure .skip : Sem Next).run P w = .ok nx w' ∧ (nx = .value v ∨ (nx = .skip ∧ v = undef)) ∧ VR ρ' undefA v ∧ HR P B ρ' H' w' ∧ Post ρ H w ρ' H' w' := by
    rintro s H' ⟨w', h1, h2⟩
    exact ⟨_, undef, w', ρ, by simp only [Sem.run_bind, h1, Result.andThen_ok, Sem.run_pure], .inr ⟨rfl, rfl⟩, VR.undefA, h2⟩
  have liftQ : ∀ {s : Sem Value} {r : AV}, (∃ z, s.run P w = .ok z w ∧ VR ρ r z) →
      ∃ nx v w' ρ', (do pure (.value (← s)) : Sem Next).run P w = .ok nx w' ∧ (nx = .value v ∨ (nx = .skip ∧ v = undef)) ∧ VR ρ' r v ∧ HR P B ρ' H w' ∧ Post ρ H w ρ' H w' := by
    rintro s r ⟨v, h1, h2⟩
    exact ⟨_, v, w, ρ, by simp only [Sem.run_bind, h1, Result.andThen_ok, Sem.run_pure], .inl rfl, h2, h, Post.refl _ _ _⟩
  unfold execOp
  unfold heapOp at ho
  split at ho
  · rename_i elem hop
    simp only [hop] at hr ⊢
    exact liftV (aAlloc_sound h ho hf)
  · rename_i elem x hop
    simp only [hop] at hr ⊢
    obtain ⟨z, ρ', h1, h2, h3, h4⟩ := aBox_sound (P := P) h ho hf (hr x (by simp [Op.operands]))
    exact liftV ⟨z, _, ρ', h1, h2, h3, h4⟩
  · rename_i t x hop
    simp only [hop] at hr ⊢
    split at ho
    · rename_i r' hl
      cases ho
      obtain ⟨a, z, h1, h2, h3⟩ := aLoad_sound h hl (hr x (by simp [Op.operands]))
      refine liftQ ⟨z, ?_, h3⟩
      simp only [Instr.loadAt, h1, Instr.sureAddr, pure_bind]
      exact h2
    · cases ho
  · rename_i t x y hop
    simp only [hop] at hr ⊢
    have hx := hr x (by simp [Op.operands])
    have hy := hr y (by simp [Op.operands])
    split at ho
    · rename_i g off hev
      split at ho
      · rename_i i hi
        split at ho
        · rename_i hb
          have hb := Nat.eq_of_beq_eq_true hb
          split at ho
          · rename_i H1 hst
            cases ho
            rw [hev] at hx
            simp only [VR] at hx
            obtain ⟨b, cp, hρ, hxe⟩ := hx
            obtain ⟨w', e1, e2, e3⟩ := aStoreCells_sound h hst hρ hy.cells (P := P)
            refine liftU ⟨w', ?_, e2, e3⟩
            have hl := hy.cells.length
            simp only [Array.length_toList] at hl
            simp only [Instr.storeAt, hxe, Instr.sureAddr, pure_bind, storeVar, Sem.run_bind, run_size hi, Result.andThen_ok]
            rw [if_neg (by simp; omega)]
            exact e1
          · cases ho
        · cases ho
      · cases ho
    · cases ho
  · rename_i t len parts hop
    simp only [hop] at hr ⊢
    refine liftV (aBuildSlice_sound h ho hf ?_)
    have := PartsR.ofMap (ρ := ρ) (ev := ev) (e := e) parts.toList fun x hx => hr x.2 (by simp [Op.operands]; exact ⟨x.1, by simpa using hx⟩)
    simpa using this
  · rename_i s d x hop
    simp only [hop] at hr ⊢
    have hx := hr x (by simp [Op.operands])
    split at ho
    · rename_i l hev
      rw [hev] at hx
      simp only [VR] at hx
      obtain ⟨hxe, hl⟩ := hx
      rw [hxe]
      exact liftV (aToBytes_sound h ho hf hl)
    · split at ho
      · rename_i r' hs
        cases ho
        exact liftQ (aToStr_sound h hs hx)
      · split at ho
        · rename_i H1 hm
          cases ho
          obtain ⟨w', h1, h2, h3⟩ := aMark_sound h hm hx
          exact liftV ⟨_, w', ρ, h1, hx, h2, h3⟩
        · cases ho
  · rename_i t r' hop
    simp only [hop] at hr ⊢
    exact liftV (aMakeMap_sound h ho hf (VRO.ofMap r' fun y hy => hr y (by simp [Op.operands]; simpa using hy)))
  · rename_i t l c hop
    simp only [hop] at hr ⊢
    exact liftV (aMakeSlice_sound h ho hf (hr l (by simp [Op.operands])) (hr c (by simp [Op.operands])))
  · rename_i t x k ok hop
    simp only [hop] at hr ⊢
    split at ho
    · rename_i r' hl
      cases ho
      exact liftQ (aLookup_sound h hl (hr x (by simp [Op.operands])) (hr k (by simp [Op.operands])))
    · cases ho
  · rename_i t m k x hop
    simp only [hop] at hr ⊢
    split at ho
    · rename_i H1 hu
      cases ho
      exact liftU (aMapUpdate_sound h hu (hr m (by simp [Op.operands])) (hr k (by simp [Op.operands])) (hr x (by simp [Op.operands])))
    · cases ho
  · rename_i t m k x hop
    simp only [hop] at hr ⊢
    split at ho
    · rename_i H1 hu
      cases ho
      exact liftU (aMapUpdate_sound h hu (hr m (by simp [Op.operands])) (hr k (by simp [Op.operands])) (hr x (by simp [Op.operands])))
    · cases ho
  · rename_i t x hop
    simp only [hop] at hr ⊢
    exact liftV (aRange_sound h ho hf (hr x (by simp [Op.operands])))
  · rename_i it isS hop
    simp only [hop] at hr ⊢
    obtain ⟨z, w', h1, h2, h3, h4⟩ := aNext_sound h ho (hr it (by simp [Op.operands])) o.type
    exact liftV ⟨z, w', ρ, h1, h2, h3, h4⟩
  · rename_i it hop
    simp only [hop] at hr ⊢
    split at ho
    · rename_i r' hl
      cases ho
      exact liftQ (aEntry_sound h hl (hr it (by simp [Op.operands])))
    · cases ho
  · rename_i c hop
    simp only [hop] at hr ⊢
    have two : ∀ {s x : Operand}, c.args.toList = [s, x] → c.args.map e = #[e s, e x] := fun h => by
      apply Array.ext'; simp [h]
    have bi : ∀ {b : Builtin} {f : Array TypeId → TypeId → Array Value → Sem Value}, c.callee = .builtin b → (∀ at' ty cs vs, builtin b at' ty cs vs = do pure (.value (← f at' ty vs))) →
        (do let d ← resolve e c o.type; invoke d.target d.args : Sem Next) = (do pure (.value (← f c.argTypes o.type (c.args.map e))) : Sem Next) := fun hc hb => by
      simp only [resolve, hc, pure_bind, invoke, hb]
    split at ho
    · rename_i s x hc ha
      rw [bi hc (f := Builtin.append_) (fun _ _ _ _ => rfl), two ha]
      have hs := hr s (by simp [Op.operands, Call.operands, hc, ← Array.mem_toList_iff, ha])
      have hx := hr x (by simp [Op.operands, Call.operands, hc, ← Array.mem_toList_iff, ha])
      exact liftV (aAppend_sound h ho hf hs hx)
    · rename_i s x hc ha
      rw [bi hc (f := Builtin.copy_) (fun _ _ _ _ => rfl), two ha]
      have hs := hr s (by simp [Op.operands, Call.operands, hc, ← Array.mem_toList_iff, ha])
      have hx := hr x (by simp [Op.operands, Call.operands, hc, ← Array.mem_toList_iff, ha])
      obtain ⟨z, w', h1, h2, h3, h4⟩ := aCopy_sound h ho (ty := o.type) hs hx
      exact liftV ⟨z, w', ρ, h1, h2, h3, h4⟩
    · rename_i m k hc ha
      rw [bi hc (f := Builtin.delete_) (fun _ _ _ _ => rfl), two ha]
      have hs := hr m (by simp [Op.operands, Call.operands, hc, ← Array.mem_toList_iff, ha])
      have hx := hr k (by simp [Op.operands, Call.operands, hc, ← Array.mem_toList_iff, ha])
      split at ho
      · rename_i t h0
        split at ho
        · rename_i H1 hd
          cases ho
          obtain ⟨w', h1, h2, h3⟩ := aDelete_sound h hd hs hx h0 o.type
          exact liftV ⟨.tuple #[], w', ρ, h1, VR.undefA, h2, h3⟩
        · cases ho
      · cases ho
    · rename_i x hc ha
      have hx := hr x (by simp [Op.operands, Call.operands, hc, ← Array.mem_toList_iff, ha])
      have one : c.args.map e = #[e x] := by apply Array.ext'; simp [ha]
      rw [bi hc (f := Builtin.len_) (fun _ _ _ _ => rfl), one]
      split at ho
      · rename_i t h0
        split at ho
        · rename_i k el g ht hev
          split at ho
          · rename_i es clock hg
            cases ho
            rw [hev] at hx
            simp only [VR] at hx
            obtain ⟨b, cp, hρ, hxe⟩ := hx
            obtain ⟨ms, q1, q2⟩ := h.map hg hρ
            refine liftQ ⟨goInt ms.size, ?_, ?_⟩
            · simp only [Builtin.len_, h0, List.getElem?_toArray, List.getElem?_cons_zero, Sem.run_bind, run_und ht, Result.andThen_ok, hxe, run_getObj q1 (by simp), Sem.run_pure]
            · have := (ERL.get q2).1
              simp only [Array.length_toList] at this
              rw [this]; rfl
          · cases ho
        · cases ho
      · cases ho
    · cases ho
  · cases ho
end
end Go.Ev
