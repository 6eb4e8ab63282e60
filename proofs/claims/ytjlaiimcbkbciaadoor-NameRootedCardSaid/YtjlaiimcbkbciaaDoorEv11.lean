/- New blocks of cells: variables, literals, make, append, copy, conversions. -/
import Derived.Test.YtjlaiimcbkbciaaDoorEv10
import Derived.Laws.Append
noncomputable section
namespace Go.Ev
open Go
section
variable {P : Program} {B : Bas} {ρ : Ren} {H : AHeap} {w : World}
theorem heap_new (w : World) (O : Obj) : (w.alloc O).heap[w.heap.size]? = some O := by
  show (w.heap.push O)[w.heap.size]? = _
  simp
/-- A new row whose length is known. -/
def AHeap.row (H : AHeap) (e : TypeId) (l : List AV) : Option (Nat × AHeap) :=
  match H.room && Nat.ble l.length 1000000000 with
  | false => none
  | true => some (H.next, H.alloc (.cells e l.length none (Tr.ofList l)))
theorem row_sound (h : HR P B ρ H w) {e : TypeId} {l : List AV} {g : Nat} {H' : AHeap} (hr : H.row e l = some (g, H')) (hf : Free ρ H.next H'.next) {vs : Array Value} (hv : VRL ρ l vs.toList) :
    ∃ ρ' cp, HR P B ρ' H' (w.alloc (.cells vs e)) ∧ Post ρ H w ρ' H' (w.alloc (.cells vs e)) ∧ ρ' g = some (w.heap.size, cp) := by
  unfold AHeap.row at hr
  split at hr
  · cases hr
  rename_i hb
  obtain ⟨hb, hl⟩ := bAnd hb
  have hb := AHeap.room_lt hb
  have hl := Nat.le_of_ble_eq_true hl
  cases hr
  have hlen := hv.length
  simp only [Array.length_toList] at hlen
  have hfr : ρ H.next = none := hf _ (Nat.le_refl _) (by simp [AHeap.alloc])
  have hle := Ren.le_upd (ρ := ρ) (n := H.next) (w.heap.size, 0) hfr
  obtain ⟨h1, p1⟩ := h.make (o := .cells e l.length none (Tr.ofList l)) (O := .cells vs e) hb hfr 0
    ⟨w.heap.size, 0, vs, (0, 0), Ren.upd_same _ _ _, heap_new _ _, FrOK.zero _, by omega, fun _ => hlen, by simp, fun i hi => by
      obtain ⟨v, e1, e2⟩ := hv.get i _ (List.getElem?_eq_getElem hi)
      exact ⟨_, v, by rw [Tr.ofList_get _ _ (by omega)]; exact List.getElem?_eq_getElem hi, by simpa using e1, e2.mono hle⟩⟩
    (by simp [AObj.cls])
  exact ⟨_, 0, h1, p1, Ren.upd_same _ _ _⟩
/-- A new row of which the front is known. -/
def AHeap.open_ (H : AHeap) (e : TypeId) (l : List AV) : Option (Nat × AHeap) :=
  match H.room && Nat.ble l.length 1000000000 with
  | false => none
  | true => match (H.alloc (.members [H.next + 1] l.length)).room with
    | false => none
    | true => some (H.next + 1, (H.alloc (.members [H.next + 1] l.length)).alloc (.cells e l.length (some H.next) (Tr.ofList l)))
theorem open_sound (h : HR P B ρ H w) {e : TypeId} {l : List AV} {g : Nat} {H' : AHeap} (hr : H.open_ e l = some (g, H')) (hf : Free ρ H.next H'.next) {arr : Array Value} {fr : Nat × Nat} {cp : Nat} {i : TypeInfo}
    (hi : P.info? e = some i) (hsz : arr.size = cp * i.size) (hle : l.length ≤ arr.size) (hfz : FrOK arr.size fr)
    (hv : ∀ (j : Nat) (a : AV), l[j]? = some a → ∃ v, arr[j]? = some v ∧ VR ρ a v) :
    ∃ ρ', HR P B ρ' H' (w.alloc (.cells arr e fr)) ∧ Post ρ H w ρ' H' (w.alloc (.cells arr e fr)) ∧ ρ' g = some (w.heap.size, cp) := by
  unfold AHeap.open_ at hr
  split at hr
  · cases hr
  rename_i hb
  obtain ⟨hb, hl⟩ := bAnd hb
  have hb := AHeap.room_lt hb
  have hl := Nat.le_of_ble_eq_true hl
  split at hr
  · cases hr
  rename_i hb2
  have hb2 := AHeap.room_lt hb2
  cases hr
  obtain ⟨h1, p1⟩ := h.ghost (o := .members [H.next + 1] l.length) hb rfl
  have hf1 := p1.free (hf.mono (Nat.le_refl _))
  have hnx : (H.alloc (.members [H.next + 1] l.length)).next = H.next + 1 := rfl
  have hfr : ρ (H.alloc (.members [H.next + 1] l.length)).next = none := hf1 _ (Nat.le_refl _) (by simp [AHeap.alloc])
  have hle2 := Ren.le_upd (ρ := ρ) (n := (H.alloc (.members [H.next + 1] l.length)).next) (w.heap.size, cp) hfr
  obtain ⟨h2, p2⟩ := h1.make (o := .cells e l.length (some H.next) (Tr.ofList l)) (O := .cells arr e fr) hb2 hfr cp
    ⟨w.heap.size, cp, arr, fr, Ren.upd_same _ _ _, heap_new _ _, hfz, hle, by simp, fun _ => ⟨i, hi, hsz⟩, fun j hj => by
      obtain ⟨v, e1, e2⟩ := hv j _ (List.getElem?_eq_getElem hj)
      exact ⟨_, v, by rw [Tr.ofList_get _ _ (by omega)]; exact List.getElem?_eq_getElem hj, e1, e2.mono hle2⟩⟩
    (by
      intro c hc
      simp only [AObj.cls] at hc
      cases hc
      refine ⟨by simp [hnx], fun l1 m1 hl1 => ?_⟩
      rw [show (H.alloc (.members [H.next + 1] l.length)).objs.get H.next = if H.next = H.next then some (.members [H.next + 1] l.length) else H.objs.get H.next from Tr.set_get _ _ _ _ (by omega)] at hl1
      simp at hl1
      obtain ⟨rfl, rfl⟩ := hl1
      exact ⟨by simp [hnx], Nat.le_refl _⟩)
  exact ⟨_, h2, p1.trans p2, Ren.upd_same _ _ _⟩
theorem run_newRow (e : TypeId) (vs : Array Value) : (newRow e vs).run P w = .ok ⟨w.heap.size, 0, none⟩ (w.alloc (.cells vs e)) := by
  simp [newRow]

/-- box: a variable with a value. -/
def aBox (H : AHeap) (e : TypeId) (a : AV) : Option (AV × AHeap) :=
  match H.row e a.cells with
  | none => none
  | some (g, H') => some (.ptr g 0, H')
theorem aBox_sound (h : HR P B ρ H w) {e : TypeId} {a r : AV} {H' : AHeap} (hb : aBox H e a = some (r, H')) (hf : Free ρ H.next H'.next) {v : Value} (hv : VR ρ a v) :
    ∃ z ρ', (Instr.box e v).run P w = .ok z (w.alloc (.cells v.cells e)) ∧ VR ρ' r z ∧ HR P B ρ' H' (w.alloc (.cells v.cells e)) ∧ Post ρ H w ρ' H' (w.alloc (.cells v.cells e)) := by
  unfold aBox at hb
  split at hb
  · cases hb
  rename_i g H1 hr
  cases hb
  obtain ⟨ρ', cp, h1, p1, hg⟩ := row_sound h hr hf hv.cells
  exact ⟨_, ρ', by simp [Instr.box, newVar, run_newRow], ⟨_, _, hg, rfl⟩, h1, p1⟩
def aAlloc (P : Program) (H : AHeap) (e : TypeId) : Option (AV × AHeap) :=
  match zeroOf P e with
  | none => none
  | some z => aBox H e z
theorem aAlloc_sound (h : HR P B ρ H w) {e : TypeId} {r : AV} {H' : AHeap} (hb : aAlloc P H e = some (r, H')) (hf : Free ρ H.next H'.next) :
    ∃ z w' ρ', (Instr.alloc e true (.tuple #[])).run P w = .ok z w' ∧ VR ρ' r z ∧ HR P B ρ' H' w' ∧ Post ρ H w ρ' H' w' := by
  unfold aAlloc at hb
  split at hb
  · cases hb
  rename_i a hz
  obtain ⟨i, z, hi, hz, hv⟩ := zeroOf_sound hz ρ
  obtain ⟨z', ρ', h1, h2, h3, h4⟩ := aBox_sound (P := P) h hb hf hv
  refine ⟨z', _, ρ', ?_, h2, h3, h4⟩
  simp only [Instr.alloc, Sem.run_bind, run_zero hi hz, Result.andThen_ok]
  simpa [Instr.box] using h1
/-- make([]T, l, c). -/
def zerosOf (z : List AV) (n : Nat) : List AV := (List.replicate n z).flatten
def aMakeSlice (P : Program) (H : AHeap) (t : TypeId) (l c : AV) : Option (AV × AHeap) :=
  match P.underlying t, aNat l, aNat c with
  | some (.slice e), some l, some c => match P.info? e, zeroOf P e with
    | some i, some z => match Nat.ble l c && Nat.ble (i.bytes * c) 281474976710656 && Nat.ble c 9223372036854775807 && Nat.beq z.cells.length i.size with
      | false => none
      | true => match H.row e (zerosOf z.cells c) with
        | none => none
        | some (g, H') => some (.sliceC g 0 l c, H')
    | _, _ => none
  | _, _, _ => none
theorem zerosOf_length (z : List AV) : ∀ n, (zerosOf z n).length = n * z.length
  | 0 => by simp [zerosOf]
  | n + 1 => by
    have := zerosOf_length z n
    simp only [zerosOf, List.replicate_succ, List.flatten_cons, List.length_append] at this ⊢
    rw [this, Nat.succ_mul, Nat.add_comm]
theorem zerosOf_get (z : List AV) : ∀ (n i : Nat), i < n * z.length → (zerosOf z n)[i]? = z[i % z.length]?
  | 0, i, h => by simp at h
  | n + 1, i, h => by
    simp only [zerosOf, List.replicate_succ, List.flatten_cons]
    rw [List.getElem?_append]
    by_cases c : i < z.length
    · rw [if_pos c, Nat.mod_eq_of_lt c]
    · rw [if_neg c]
      have := zerosOf_get z n (i - z.length) (by rw [Nat.succ_mul] at h; omega)
      simp only [zerosOf] at this
      rw [this]
      congr 1
      exact (Nat.mod_eq_sub_mod (by omega)).symm
theorem zeros_rel {z : AV} {zv : Value} (hz : VR ρ z zv) (n : Nat) :
    VRL ρ (zerosOf z.cells n) ((Array.range (n * zv.cells.size)).map (fun i => zv.cells[i % zv.cells.size]!)).toList := by
  have hc := hz.cells
  have hl := hc.length
  simp only [Array.length_toList] at hl
  refine VRL.mk (by simp [zerosOf_length, hl]) fun i a hi => ?_
  have hlt : i < n * z.cells.length := by
    rw [← zerosOf_length]; exact (List.getElem?_eq_some_iff.1 hi).1
  have hpos : 0 < z.cells.length := by
    rcases Nat.eq_zero_or_pos z.cells.length with h0 | h0
    · rw [h0] at hlt; simp at hlt
    · exact h0
  rw [zerosOf_get _ _ _ hlt] at hi
  obtain ⟨v, e1, e2⟩ := hc.get _ a hi
  refine ⟨v, ?_, e2⟩
  have hm : i % zv.cells.size < zv.cells.size := Nat.mod_lt _ (by omega)
  simp only [Array.getElem?_toList] at e1
  rw [← hl] at e1 hlt
  have e3 : zv.cells[i % zv.cells.size]! = v := by
    rw [getElem!_pos zv.cells _ hm]
    rw [Array.getElem?_eq_getElem hm] at e1
    exact Option.some.inj e1
  simp [hlt, e3]
theorem aMakeSlice_sound (h : HR P B ρ H w) {t : TypeId} {l c r : AV} {H' : AHeap} (hb : aMakeSlice P H t l c = some (r, H')) (hf : Free ρ H.next H'.next) {lv cv : Value} (hl : VR ρ l lv) (hc : VR ρ c cv) :
    ∃ z w' ρ', (Instr.makeSlice t lv cv).run P w = .ok z w' ∧ VR ρ' r z ∧ HR P B ρ' H' w' ∧ Post ρ H w ρ' H' w' := by
  unfold aMakeSlice at hb
  split at hb
  · rename_i e l' c' hd hl' hc'
    obtain ⟨k1, rfl⟩ := aNat_sound hl' hl
    obtain ⟨k2, rfl⟩ := aNat_sound hc' hc
    split at hb
    · rename_i i z hi hz
      obtain ⟨i', zv, hi', hzv, hzr⟩ := zeroOf_sound hz ρ
      rw [hi] at hi'
      obtain rfl := Option.some.inj hi'
      split at hb
      · cases hb
      rename_i hb0
      obtain ⟨hb0, b4⟩ := bAnd hb0
      obtain ⟨hb0, b3⟩ := bAnd hb0
      obtain ⟨b1, b2⟩ := bAnd hb0
      have b1 := Nat.le_of_ble_eq_true b1
      have b2 := Nat.le_of_ble_eq_true b2
      have b3 := Nat.le_of_ble_eq_true b3
      have b4 := Nat.eq_of_beq_eq_true b4
      split at hb
      · cases hb
      rename_i g H1 hr
      cases hb
      have hzl := hzr.cells.length
      simp only [Array.length_toList] at hzl
      obtain ⟨ρ', cp, h1, p1, hg⟩ := row_sound h hr hf (zeros_rel hzr c')
      refine ⟨.slice (some ⟨w.heap.size, 0, none⟩) l' c', _, ρ', ?_, ⟨_, _, hg, rfl⟩, h1, p1⟩
      have w1 : IntKind.i64.wrap (l' : Int) = l' := IntWalk.i64_in _ ⟨by omega, by omega⟩
      have w2 : IntKind.i64.wrap (c' : Int) = c' := IntWalk.i64_in _ ⟨by omega, by omega⟩
      have hbn : ¬ (281474976710656 < (i.bytes : Int) * (c' : Int)) := by
        have h5 : (i.bytes : Int) * (c' : Int) = ((i.bytes * c' : Nat) : Int) := (Int.natCast_mul _ _).symm
        rw [h5]
        exact Int.not_lt.2 (Int.ofNat_le.2 b2)
      simp only [Instr.makeSlice, Sem.run_bind, run_und hd, Result.andThen_ok, asInt, asIntOf, Sem.run_pure, run_info hi, w1, w2]
      rw [if_neg (by intro hh; simp only [Bool.or_eq_true, decide_eq_true_eq] at hh; rcases hh with ((hh | hh) | hh) | hh <;> omega)]
      simp only [Sem.run_bind, run_askRoom, Result.andThen_ok, run_size hi, Int.toNat_natCast]
      by_cases h0 : c' * i.size = 0
      · rw [if_pos h0]
        simp only [pure_bind, Sem.run_bind, Sem.run_pure, Result.andThen_ok, run_newRow]
        have : (Array.range (c' * zv.cells.size)).map (fun i => zv.cells[i % zv.cells.size]!) = (Array.range (c' * i.size)).map (fun i => (#[] : Array Value)[i % (#[] : Array Value).size]!) := by
          rw [hzl, b4, h0]; simp
        rw [this]
      · rw [if_neg h0]
        simp only [Sem.run_bind, run_zero hi hzv, Sem.run_pure, Result.andThen_ok, run_newRow]
        rw [hzl, b4]
    · cases hb
  · cases hb
end
end Go.Ev
