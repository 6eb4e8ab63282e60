/- Maps whose keys are values of one kind (structs too): what is looked up and what is stored, as a function from keys. -/
import Derived.Test.YtmnahgeledddhaaEvB
import Derived.WalkKit
import Derived.OwnWalk
import Derived.Maps.OwnOps
import Derived.Lib.Strings
import Derived.Laws.StructEq
import Derived.WideKeyRuns
namespace Go.Mk
open Go.Ev Go.RowKit
/-- What the entries say at the key k. -/
def Gets (l : List MapEntry) (k : Value) : Option Value → Prop
  | none => ∀ e ∈ l, e.key ≠ k
  | some v => ∃ (j : Nat) (m : MapEntry), l[j]? = some m ∧ m.key = k ∧ m.val = v ∧ ∀ (x : Nat), x < j → ∀ (e : MapEntry), l[x]? = some e → e.key ≠ k
/-- Keys of the type: checked, found, apart. -/
structure KeyOK (P : Program) (key : TypeId) {α : Type} (κ : α → Value) : Prop where
  inj : ∀ a b, κ a = κ b → a = b
  check : ∀ (w : World) (em : Bool) (a : α), (Instr.checkKey em 10000 key (κ a)).run P w = .ok () w
  find : ∀ (w : World) (a : α) (l : List MapEntry), (∀ e ∈ l, ∃ b, e.key = κ b) →
    ((Instr.findKey key (κ a) l).run P w = .ok none w ∧ ∀ e ∈ l, e.key ≠ κ a) ∨
    ∃ (j : Nat) (m : MapEntry), l[j]? = some m ∧ m.key = κ a ∧ (Instr.findKey key (κ a) l).run P w = .ok (some (j, m.val)) w ∧ ∀ (x : Nat), x < j → ∀ (e : MapEntry), l[x]? = some e → e.key ≠ κ a
  same : ∀ a, Instr.sameBits 10000 (κ a) (κ a) = true
theorem Gets.modify_same {l : List MapEntry} {i : Nat} {m : MapEntry} {k v : Value} (h : l[i]? = some m) (hm : m.key = k) (hf : ∀ (x : Nat), x < i → ∀ (e : MapEntry), l[x]? = some e → e.key ≠ k) :
    Gets (l.modify i fun e => { e with key := k, val := v }) k (some v) := by
  refine ⟨i, { m with key := k, val := v }, ?_, rfl, rfl, fun x hx e he => ?_⟩
  · rw [List.getElem?_modify, h]; simp
  · have hix : ¬ i = x := by omega
    rw [List.getElem?_modify] at he
    exact hf x hx e (by simpa [hix] using he)
theorem Gets.modify_ne {l : List MapEntry} {i : Nat} {m : MapEntry} {k v k' : Value} {r : Option Value} (h : l[i]? = some m) (hm : m.key = k) (hne : k' ≠ k) (hg : Gets l k' r) :
    Gets (l.modify i fun e => { e with key := k, val := v }) k' r := by
  have keys : ∀ (x : Nat) (e : MapEntry), (l.modify i fun e => { e with key := k, val := v })[x]? = some e → e.key = k ∨ l[x]? = some e := fun x e he => by
    rw [List.getElem?_modify] at he
    by_cases hx : i = x
    · subst hx
      rw [h] at he
      simp at he
      left; rw [← he]
    · right; simpa [hx] using he
  cases r with
  | none =>
    intro e he
    obtain ⟨x, hx⟩ := List.mem_iff_getElem?.1 he
    rcases keys x e hx with e1 | e1
    · rw [e1]; exact fun h => hne h.symm
    · exact hg e (List.mem_of_getElem? e1)
  | some u =>
    obtain ⟨j, n, h1, h2, h3, h4⟩ := hg
    have hij : ¬ i = j := fun e => by
      subst e
      rw [h] at h1
      cases h1
      exact hne (by rw [← h2, hm])
    refine ⟨j, n, by rw [List.getElem?_modify]; simpa [hij] using h1, h2, h3, fun x hx e he => ?_⟩
    rcases keys x e he with e1 | e1
    · rw [e1]; exact fun h => hne h.symm
    · exact h4 x hx e e1
theorem Gets.push_same {l : List MapEntry} {k v : Value} {c : Nat} (hf : ∀ e ∈ l, e.key ≠ k) : Gets (l ++ [{ key := k, val := v, born := c }]) k (some v) :=
  ⟨l.length, _, by rw [List.getElem?_append_right (Nat.le_refl _), Nat.sub_self]; rfl, rfl, rfl, fun x hx e he => by
    rw [List.getElem?_append_left hx] at he
    exact hf e (List.mem_of_getElem? he)⟩
theorem Gets.push_ne {l : List MapEntry} {k v k' : Value} {c : Nat} {r : Option Value} (hne : k' ≠ k) (hg : Gets l k' r) : Gets (l ++ [{ key := k, val := v, born := c }]) k' r := by
  cases r with
  | none =>
    intro e he
    rcases List.mem_append.1 he with he | he
    · exact hg e he
    · rw [List.mem_singleton.1 he]; exact fun h => hne h.symm
  | some u =>
    obtain ⟨j, n, h1, h2, h3, h4⟩ := hg
    have hj := (List.getElem?_eq_some_iff.1 h1).1
    refine ⟨j, n, by rw [List.getElem?_append_left hj]; exact h1, h2, h3, fun x hx e he => ?_⟩
    rw [List.getElem?_append_left (by omega)] at he
    exact h4 x hx e he
/-- Block b is a map that answers F. -/
def MapK {α : Type} (κ : α → Value) (w : World) (b : Nat) (F : α → Option Value) : Prop := ∃ ms clock, w.heap[b]? = some (.map ms clock) ∧ (∀ e ∈ ms.toList, ∃ a, e.key = κ a) ∧ ∀ a, Gets ms.toList (κ a) (F a)
section
variable {α : Type} {κ : α → Value} {P : Program} {w : World} {b t key elem : Nat} {F : α → Option Value}
theorem MapK.lt (h : MapK κ w b F) : b < w.heap.size := by
  obtain ⟨ms, c, h1, _⟩ := h
  exact (Array.getElem?_eq_some_iff.1 h1).1
theorem MapK.same {w' : World} (h : MapK κ w b F) (hw : w'.heap[b]? = w.heap[b]?) : MapK κ w' b F := by
  obtain ⟨ms, c, h1, h2⟩ := h
  exact ⟨ms, c, hw.trans h1, h2⟩
theorem MapK.made (w : World) (h : w.heap[b]? = some (.map #[] 0)) : MapK κ w b (fun _ => none) :=
  ⟨#[], 0, h, (fun e he => by cases he), fun _ e he => by cases he⟩
theorem MapK.cast {F' : α → Option Value} (h : MapK κ w b F) (e : ∀ a, F' a = F a) : MapK κ w b F' := by
  obtain rfl : F' = F := funext e
  exact h
theorem MapK.found (K : KeyOK P key κ) {ms : List MapEntry} (h2 : ∀ e ∈ ms, ∃ a, e.key = κ a) (h3 : ∀ a, Gets ms (κ a) (F a)) (a : α) :
    match F a with
    | none => (Instr.findKey key (κ a) ms).run P w = .ok none w ∧ ∀ e ∈ ms, e.key ≠ κ a
    | some v => ∃ (j : Nat) (m : MapEntry), ms[j]? = some m ∧ m.key = κ a ∧ m.val = v ∧ (Instr.findKey key (κ a) ms).run P w = .ok (some (j, v)) w ∧ ∀ (x : Nat), x < j → ∀ (e : MapEntry), ms[x]? = some e → e.key ≠ κ a := by
  have hg := h3 a
  rcases K.find w a ms h2 with ⟨h4, h5⟩ | ⟨j, m, h4, h5, h6, h7⟩
  · cases hF : F a with
    | none => exact ⟨h4, h5⟩
    | some v =>
      rw [hF] at hg
      obtain ⟨j, m, q1, q2, _⟩ := hg
      exact absurd q2 (h5 m (List.mem_of_getElem? q1))
  · cases hF : F a with
    | none =>
      rw [hF] at hg
      exact absurd h5 (hg m (List.mem_of_getElem? h4))
    | some v =>
      rw [hF] at hg
      obtain ⟨j', m', q1, q2, q3, q4⟩ := hg
      have hjj : j = j' := by
        rcases Nat.lt_trichotomy j j' with h | h | h
        · exact absurd h5 (q4 j h m h4)
        · exact h
        · exact absurd q2 (h7 j' h m' q1)
      subst hjj
      rw [h4] at q1
      cases q1
      exact ⟨j, m, h4, h5, q3, by rw [h6, q3], h7⟩
theorem MapK.lookup (h : MapK κ w b F) (K : KeyOK P key κ) (ht : P.underlying t = some (.map key elem)) {z : Value} (hz : (zeroValue elem).run P w = .ok z w) (a : α) :
    (Instr.lookup t (.map (some b)) (κ a) false).run P w = .ok ((F a).getD z) w := by
  obtain ⟨ms, c, h1, h2, h3⟩ := h
  have hf := MapK.found (w := w) K h2 h3 a
  cases hF : F a with
  | none =>
    rw [hF] at hf
    simp only at hf
    simp only [Instr.lookup, pure_bind, Sem.run_bind, run_und ht, Result.andThen_ok, run_getObj h1 (by simp), K.check, hf.1, hz, Sem.run_pure]
    rfl
  | some v =>
    rw [hF] at hf
    simp only at hf
    obtain ⟨j, m, _, _, _, h5, _⟩ := hf
    simp only [Instr.lookup, pure_bind, Sem.run_bind, run_und ht, Result.andThen_ok, run_getObj h1 (by simp), K.check, h5, Sem.run_pure]
    rfl
theorem MapK.lookup2 (h : MapK κ w b F) (K : KeyOK P key κ) (ht : P.underlying t = some (.map key elem)) {z : Value} (hz : (zeroValue elem).run P w = .ok z w) (a : α) :
    (Instr.lookup t (.map (some b)) (κ a) true).run P w = .ok (.tuple #[(F a).getD z, .bool (F a).isSome]) w := by
  obtain ⟨ms, c, h1, h2, h3⟩ := h
  have hf := MapK.found (w := w) K h2 h3 a
  cases hF : F a with
  | none =>
    rw [hF] at hf
    simp only at hf
    simp only [Instr.lookup, pure_bind, Sem.run_bind, run_und ht, Result.andThen_ok, run_getObj h1 (by simp), K.check, hf.1, hz, Sem.run_pure]
    rfl
  | some v =>
    rw [hF] at hf
    simp only at hf
    obtain ⟨j, m, _, _, _, h5, _⟩ := hf
    simp only [Instr.lookup, pure_bind, Sem.run_bind, run_und ht, Result.andThen_ok, run_getObj h1 (by simp), K.check, h5, hz, Sem.run_pure]
    rfl
def updK [DecidableEq α] (F : α → Option Value) (k : α) (v : Value) : α → Option Value := fun j => if j = k then some v else F j
theorem MapK.update [DecidableEq α] (h : MapK κ w b F) (K : KeyOK P key κ) (ht : P.underlying t = some (.map key elem)) (a : α) (v : Value) :
    ∃ w', (Instr.mapUpdate t (.map (some b)) (κ a) v).run P w = .ok () w' ∧ MapK κ w' b (updK F a v) ∧ w'.heap.size = w.heap.size ∧ (∀ j, j ≠ b → w'.heap[j]? = w.heap[j]?) ∧ w'.os = w.os ∧ w'.tape = w.tape ∧ w'.output = w.output := by
  have hlt := h.lt
  have other : ∀ (O : Obj) j, j ≠ b → ({ w with heap := w.heap.setIfInBounds b O } : World).heap[j]? = w.heap[j]? := fun O j hj => by
    simp only [Array.getElem?_setIfInBounds]
    rw [if_neg (fun e => hj e.symm)]
  obtain ⟨ms, c, h1, h2, h3⟩ := h
  rcases K.find w a ms.toList h2 with ⟨h4, h5⟩ | ⟨j, m, h4, h5, h6, h7⟩
  · refine ⟨{ w with heap := w.heap.setIfInBounds b (.map (ms.push { key := κ a, val := v, born := c }) (c + 1)) }, ?_, ⟨_, _, heap_set hlt, ?_, fun x => ?_⟩, by simp, other _, rfl, rfl, rfl⟩
    · simp only [Instr.mapUpdate, Sem.run_bind, run_und ht, Result.andThen_ok, run_getObj h1 (by simp), K.check, h4, run_setObj h1 (by simp)]
    · intro e he
      simp only [Array.toList_push, List.mem_append, List.mem_singleton] at he
      rcases he with he | rfl
      · exact h2 e he
      · exact ⟨a, rfl⟩
    · rw [Array.toList_push]
      unfold updK
      by_cases hx : x = a
      · subst hx; rw [if_pos rfl]; exact Gets.push_same h5
      · rw [if_neg hx]; exact Gets.push_ne (fun e => hx (K.inj _ _ e)) (h3 x)
  · have hi : ms[j]? = some m := by simpa using h4
    refine ⟨{ w with heap := w.heap.setIfInBounds b (.map (ms.modify j fun e => { e with key := κ a, val := v }) c) }, ?_, ⟨_, _, heap_set hlt, ?_, fun x => ?_⟩, by simp, other _, rfl, rfl, rfl⟩
    · simp only [Instr.mapUpdate, Sem.run_bind, run_und ht, Result.andThen_ok, run_getObj h1 (by simp), K.check, h6, Instr.keyThatStays]
      rw [hi]
      have hsb : Instr.sameBits 10000 m.key (κ a) = true := by rw [h5]; exact K.same a
      simp only [Option.map_some, Option.getD_some, hsb, if_true, Sem.run_pure, Result.andThen_ok, run_setObj h1 (by simp)]
    · intro e he
      rw [Array.toList_modify] at he
      obtain ⟨x, hx, rfl⟩ := List.getElem_of_mem he
      rw [List.getElem_modify]
      split
      · exact ⟨a, rfl⟩
      · exact h2 _ (List.getElem_mem _)
    · rw [Array.toList_modify]
      unfold updK
      by_cases hx : x = a
      · subst hx; rw [if_pos rfl]; exact Gets.modify_same h4 h5 h7
      · rw [if_neg hx]; exact Gets.modify_ne h4 h5 (fun e => hx (K.inj _ _ e)) (h3 x)
end
/-! ### Structs of two plain fields as keys -/
/-- The type is a struct of two fields of the types t1 and t2. -/
def twoB (P : Program) (k t1 t2 : TypeId) : Bool :=
  match P.underlying k with
  | some (.struct fs) => match fs.toList with
    | [f, g] => f.type == t1 && g.type == t2 && f.offset == 0 && g.offset == 1 && f.name != "_" && g.name != "_" && !P.stoodInHeld k
    | _ => false
  | _ => false
theorem two_of {P : Program} {k t1 t2 : TypeId} (h : twoB P k t1 t2 = true) : ∃ f g : Field, P.underlying k = some (.struct #[f, g]) ∧ f.type = t1 ∧ g.type = t2 ∧ f.offset = 0 ∧ g.offset = 1 ∧ f.name ≠ "_" ∧ g.name ≠ "_" ∧ P.stoodInHeld k = false := by
  unfold twoB at h
  split at h
  · rename_i fs hu
    split at h
    · rename_i f g hfs
      simp only [Bool.and_eq_true, beq_iff_eq, bne_iff_ne, ne_eq, Bool.not_eq_true'] at h
      obtain ⟨⟨⟨⟨⟨⟨h1, h2⟩, h3⟩, h4⟩, h5⟩, h6⟩, h7⟩ := h
      have : fs = #[f, g] := by apply Array.ext'; rw [hfs]
      exact ⟨f, g, by rw [hu, this], h1, h2, h3, h4, h5, h6, h7⟩
    · cases h
  · cases h
section
variable {P : Program} {k t1 t2 : TypeId} {α1 α2 : Type} [DecidableEq α1] [DecidableEq α2] {κ1 : α1 → Value} {κ2 : α2 → Value}
theorem findAsking_of (w : World) {α : Type} {κ : α → Value} (heq : ∀ a b, ∃ r : Bool, (Op.equal k (κ a) (κ b)).run P w = .ok r w ∧ (r = true ↔ κ b = κ a)) (a : α) : ∀ (l : List MapEntry) (i : Nat), (∀ e ∈ l, ∃ b, e.key = κ b) →
    ((Instr.findAsking k (κ a) l i).run P w = .ok none w ∧ ∀ e ∈ l, e.key ≠ κ a) ∨
    ∃ (j : Nat) (m : MapEntry), l[j]? = some m ∧ m.key = κ a ∧ (Instr.findAsking k (κ a) l i).run P w = .ok (some (i + j, m.val)) w ∧ ∀ (x : Nat), x < j → ∀ (e : MapEntry), l[x]? = some e → e.key ≠ κ a
  | [], i, _ => .inl ⟨by simp [Instr.findAsking], by simp⟩
  | e :: es, i, hall => by
    obtain ⟨b, hb⟩ := hall e (by simp)
    obtain ⟨r, hr, hiff⟩ := heq a b
    cases r
    · have hne : e.key ≠ κ a := fun h => by
        have := hiff.2 (by rw [← hb, h])
        cases this
      rcases findAsking_of w heq a es (i + 1) (fun y hy => hall y (by simp [hy])) with ⟨h1, h2⟩ | ⟨j, m, h1, h2, h3, h4⟩
      · left
        refine ⟨by simp [Instr.findAsking, hb, hr, h1], fun y hy => ?_⟩
        rcases List.mem_cons.1 hy with rfl | hy
        · exact hne
        · exact h2 y hy
      · right
        refine ⟨j + 1, m, by simpa using h1, h2, by simp [Instr.findAsking, hb, hr, h3, Nat.add_assoc, Nat.add_comm 1 j], fun x hx y hy => ?_⟩
        cases x with
        | zero => simp at hy; subst hy; exact hne
        | succ x => rw [List.getElem?_cons_succ] at hy; exact h4 x (by omega) y hy
    · right
      exact ⟨0, e, rfl, by rw [hb, hiff.1 rfl], by simp [Instr.findAsking, hb, hr], fun x hx => by omega⟩
theorem key_two (h : twoB P k t1 t2 = true) (p1 : P.plainKey t1 = true) (p2 : P.plainKey t2 = true)
    (c1 : ∀ (w : World) em n a, (Instr.checkKey em (n + 1) t1 (κ1 a)).run P w = .ok () w) (c2 : ∀ (w : World) em n a, (Instr.checkKey em (n + 1) t2 (κ2 a)).run P w = .ok () w)
    (e1 : ∀ (w : World) d a b, (Op.equalIn (d + 1) t1 (κ1 a) (κ1 b)).run P w = .ok (decide (a = b)) w) (e2 : ∀ (w : World) d a b, (Op.equalIn (d + 1) t2 (κ2 a) (κ2 b)).run P w = .ok (decide (a = b)) w)
    (i1 : ∀ a b, κ1 a = κ1 b → a = b) (i2 : ∀ a b, κ2 a = κ2 b → a = b) (s1 : ∀ n a, Instr.sameBits n (κ1 a) (κ1 a) = true) (s2 : ∀ n a, Instr.sameBits n (κ2 a) (κ2 a) = true) :
    KeyOK P k (fun q : α1 × α2 => Value.agg #[κ1 q.1, κ2 q.2]) := by
  obtain ⟨f, g, hu, rfl, rfl, o1, o2, n1, n2, hs⟩ := two_of h
  have part1 : ∀ (w : World) (x y : Value), (part f.type #[x, y] f.offset).run P w = .ok x w := fun w x y => run_part_plain w p1 (by rw [o1]; rfl)
  have part2 : ∀ (w : World) (x y : Value), (part g.type #[x, y] g.offset).run P w = .ok y w := fun w x y => run_part_plain w p2 (by rw [o2]; rfl)
  have hfo : P.fieldsOf k = #[f, g] := by unfold Program.fieldsOf; rw [hu]
  have inj : ∀ a b : α1 × α2, Value.agg #[κ1 a.1, κ2 a.2] = Value.agg #[κ1 b.1, κ2 b.2] → a = b := fun a b hab => by
    simp only [Value.agg.injEq, Array.mk.injEq, List.cons.injEq, and_true] at hab
    exact Prod.ext (i1 _ _ hab.1) (i2 _ _ hab.2)
  refine ⟨inj, fun w em a => ?_, fun w a l hl => ?_, fun a => ?_⟩
  · rw [show 10000 = 9998 + 1 + 1 from rfl, Instr.checkKey]
    simp only [Sem.run_bind, run_underlying hu, Result.andThen_ok]
    rw [← Array.forIn_toList]
    simp only [List.forIn_cons, List.forIn_nil, Sem.run_bind, n1, n2, ne_eq, not_false_eq_true, if_true, Result.andThen_ok, part1, part2, c1, c2, Sem.run_pure]
  · rw [run_findKey_eq w (by rw [hu])]
    have heq : ∀ a b : α1 × α2, ∃ r : Bool, (Op.equal k (Value.agg #[κ1 a.1, κ2 a.2]) (Value.agg #[κ1 b.1, κ2 b.2])).run P w = .ok r w ∧ (r = true ↔ Value.agg #[κ1 b.1, κ2 b.2] = Value.agg #[κ1 a.1, κ2 a.2]) := fun a b => by
      refine ⟨decide (a.1 = b.1) && decide (a.2 = b.2), ?_, ?_⟩
      · unfold Op.equal Op.maxDepth
        rw [show 10000 = 9998 + 1 + 1 from rfl, run_equalIn_struct w (9998 + 1) k _ _ (by rw [hfo]; exact hu) hs, hfo]
        simp only [Op.eqFields, n1, n2, ne_eq, not_false_eq_true, if_true, Sem.run_bind, part1, part2, Result.andThen_ok, e1, e2]
        by_cases ha : a.1 = b.1 <;> by_cases hb : a.2 = b.2 <;> simp [ha, hb, Op.eqFields, n2, part2, e2]
      · simp only [Bool.and_eq_true, decide_eq_true_eq]
        exact ⟨fun ⟨x, y⟩ => by rw [x, y], fun e => by rw [inj b a e]; exact ⟨rfl, rfl⟩⟩
    rcases findAsking_of w heq a l 0 hl with h | ⟨j, m, q1, q2, q3, q4⟩
    · exact .inl h
    · exact .inr ⟨j, m, q1, q2, by simpa using q3, q4⟩
  · show Instr.sameBits (9999 + 1) _ _ = true
    simp [Instr.sameBits, s1, s2]
end
end Go.Mk
