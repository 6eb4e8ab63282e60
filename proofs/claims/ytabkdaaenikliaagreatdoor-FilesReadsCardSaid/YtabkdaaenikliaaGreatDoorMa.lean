/- Maps keyed by texts: what is looked up and what is stored, as a function from texts. -/
import Derived.Test.YtabkdaaenikliaaGreatDoorEvB
import Derived.WalkKit
import Derived.OwnWalk
import Derived.Maps.OwnOps
import Derived.Lib.Strings
namespace Go.Mp
open Go.Ev Go.RowKit
def keyIs (v : Value) (k : ByteArray) : Bool :=
  match v with
  | .string s => decide (s = k)
  | _ => false
theorem keyIs_iff (v : Value) (k : ByteArray) : keyIs v k = true ↔ v = .string k := by
  unfold keyIs
  split
  · simp
  · rename_i h
    constructor
    · intro h; cases h
    · rintro rfl; exact absurd rfl (h k)
def mget (k : ByteArray) : List MapEntry → Option Value
  | [] => none
  | e :: es => if keyIs e.key k = true then some e.val else mget k es
def StrKeys (l : List MapEntry) : Prop := ∀ e ∈ l, ∃ s, e.key = .string s
/-- Block b is a map that answers F. -/
def MapAt (w : World) (b : Nat) (F : ByteArray → Option Value) : Prop := ∃ ms clock, w.heap[b]? = some (.map ms clock) ∧ StrKeys ms.toList ∧ ∀ k, mget k ms.toList = F k
theorem MapAt.lt {w : World} {b : Nat} {F : ByteArray → Option Value} (h : MapAt w b F) : b < w.heap.size := by
  obtain ⟨ms, c, h1, _⟩ := h
  exact (Array.getElem?_eq_some_iff.1 h1).1
theorem MapAt.same {w w' : World} {b : Nat} {F : ByteArray → Option Value} (h : MapAt w b F) (hw : w'.heap[b]? = w.heap[b]?) : MapAt w' b F := by
  obtain ⟨ms, c, h1, h2⟩ := h
  exact ⟨ms, c, hw.trans h1, h2⟩
theorem MapAt.made (w : World) : MapAt (w.alloc (.map #[] 0)) w.heap.size (fun _ => none) :=
  ⟨#[], 0, heap_alloc_new w _, (fun e he => by cases he), fun _ => rfl⟩
theorem beq_str (x y : ByteArray) : (x == y) = decide (x = y) := by
  rw [beq_toListBytes]
  by_cases h : x = y
  · subst h; simp
  · rw [decide_eq_false h, beq_eq_false_iff_ne]
    intro hh
    rw [Go.Lib.toList_data, Go.Lib.toList_data] at hh
    exact h (ByteArray.ext (Array.ext' hh))
theorem find_str (k : ByteArray) : ∀ (l : List MapEntry) (i : Nat), StrKeys l →
    match mget k l with
    | none => Instr.findNow .string (.string k) l i = some none
    | some v => ∃ j m, i ≤ j ∧ l[j - i]? = some m ∧ m.key = .string k ∧ m.val = v ∧ Instr.findNow .string (.string k) l i = some (some (j, v)) ∧ ∀ x, x < j - i → ∀ e, l[x]? = some e → e.key ≠ .string k
  | [], i, _ => rfl
  | e :: l, i, h => by
    obtain ⟨s, hs⟩ := h e (by simp)
    unfold mget
    by_cases he : e.key = .string k
    · rw [if_pos ((keyIs_iff _ _).2 he)]
      have hsk : s = k := by rw [hs] at he; cases he; rfl
      subst hsk
      refine ⟨i, e, Nat.le_refl _, by simp, he, rfl, ?_, fun x hx => by omega⟩
      simp [Instr.findNow, hs, Instr.sameNow, beq_str]
    · rw [if_neg (fun h => he ((keyIs_iff _ _).1 h))]
      have hsk : ¬ k = s := fun hh => he (by rw [hs, hh])
      have hq : Instr.sameNow .string (.string k) (.string s) = some false := by
        simp [Instr.sameNow, beq_str, hsk]
      have ih := find_str k l (i + 1) fun e he => h e (by simp [he])
      cases hm : mget k l with
      | none =>
        rw [hm] at ih
        simp only at ih ⊢
        simp [Instr.findNow, hs, hq, ih]
      | some v =>
        rw [hm] at ih
        simp only at ih ⊢
        obtain ⟨j, m, h1, h2, h3, h4, h5, h6⟩ := ih
        refine ⟨j, m, by omega, ?_, h3, h4, ?_, fun x hx e' hx' => ?_⟩
        · rw [show j - i = (j - (i + 1)) + 1 from by omega, List.getElem?_cons_succ]; exact h2
        · simp [Instr.findNow, hs, hq, h5]
        · cases x with
          | zero => simp at hx'; subst hx'; exact he
          | succ x => rw [List.getElem?_cons_succ] at hx'; exact h6 x (by omega) e' hx'
section
variable {P : Program} {w : World} {b t key elem : Nat} {F : ByteArray → Option Value}
theorem MapAt.lookup (h : MapAt w b F) (ht : P.underlying t = some (.map key elem)) (hk : P.underlying key = some .string) {z : Value} (hz : (zeroValue elem).run P w = .ok z w) (k : ByteArray) :
    (Instr.lookup t (.map (some b)) (.string k) false).run P w = .ok ((F k).getD z) w := by
  obtain ⟨ms, c, h1, h2, h3⟩ := h
  have hf := find_str k ms.toList 0 h2
  rw [h3 k] at hf
  cases hF : F k with
  | none =>
    rw [hF] at hf
    simp only at hf
    simp only [Instr.lookup, pure_bind, Sem.run_bind, run_und ht, Result.andThen_ok, run_getObj h1 (by simp), checkKey_run hk rfl, findKey_run hk hf, hz, Sem.run_pure]
    rfl
  | some v =>
    rw [hF] at hf
    simp only at hf
    obtain ⟨j, m, _, _, _, _, h5, _⟩ := hf
    simp only [Instr.lookup, pure_bind, Sem.run_bind, run_und ht, Result.andThen_ok, run_getObj h1 (by simp), checkKey_run hk rfl, findKey_run hk h5, Sem.run_pure]
    rfl
theorem lookup_nil (ht : P.underlying t = some (.map key elem)) (hk : P.underlying key = some .string) {z : Value} (hz : (zeroValue elem).run P w = .ok z w) (k : ByteArray) :
    (Instr.lookup t (.map none) (.string k) false).run P w = .ok z w := by
  have hf : Instr.findNow .string (.string k) [] 0 = some none := rfl
  simp only [Instr.lookup, pure_bind, Sem.run_bind, run_und ht, Result.andThen_ok, checkKey_run hk rfl, findKey_run hk hf, hz, Sem.run_pure]
  rfl
def upd (F : ByteArray → Option Value) (k : ByteArray) (v : Value) : ByteArray → Option Value := fun j => if j = k then some v else F j
theorem mget_modify (k : ByteArray) (v : Value) : ∀ (l : List MapEntry) (i : Nat) (m : MapEntry), l[i]? = some m → m.key = .string k → (∀ x, x < i → ∀ e, l[x]? = some e → e.key ≠ .string k) → ∀ j, mget j (l.modify i fun e => { e with key := .string k, val := v }) = if j = k then some v else mget j l
  | [], i, m, h, _, _, j => by simp at h
  | e :: l, 0, m, h, hm, _, j => by
    simp at h
    subst h
    rw [List.modify_zero_cons]
    unfold mget
    rw [hm]
    by_cases hj : j = k
    · subst hj; simp [keyIs]
    · have : ¬ k = j := fun h => hj h.symm
      simp [keyIs, this, hj]
  | e :: l, i + 1, m, h, hm, hn, j => by
    rw [List.getElem?_cons_succ] at h
    have he := hn 0 (by omega) e (by simp)
    rw [List.modify_succ_cons]
    unfold mget
    have ih := mget_modify k v l i m h hm (fun x hx e' hx' => hn (x + 1) (by omega) e' (by rw [List.getElem?_cons_succ]; exact hx')) j
    by_cases hj : j = k
    · subst hj
      rw [if_neg (fun h => he ((keyIs_iff _ _).1 h)), ih]
      simp
    · rw [ih, if_neg hj, if_neg hj]
theorem mget_push (k : ByteArray) (v : Value) (c : Nat) : ∀ (l : List MapEntry), mget k l = none → ∀ j, mget j (l ++ [{ key := .string k, val := v, born := c }]) = if j = k then some v else mget j l
  | [], _, j => by
    by_cases hj : j = k
    · subst hj; simp [mget, keyIs]
    · have : ¬ k = j := fun h => hj h.symm
      simp [mget, keyIs, this, hj]
  | e :: l, h, j => by
    unfold mget at h
    split at h
    · cases h
    · rename_i he
      have ih := mget_push k v c l h j
      rw [List.cons_append]
      unfold mget
      by_cases hj : j = k
      · subst hj
        rw [if_neg he, ih]
        simp
      · rw [ih, if_neg hj, if_neg hj]
theorem MapAt.update (h : MapAt w b F) (ht : P.underlying t = some (.map key elem)) (hk : P.underlying key = some .string) (k : ByteArray) (v : Value) :
    ∃ O, (Instr.mapUpdate t (.map (some b)) (.string k) v).run P w = .ok () { w with heap := w.heap.setIfInBounds b O } ∧ MapAt { w with heap := w.heap.setIfInBounds b O } b (upd F k v) := by
  have hlt := h.lt
  obtain ⟨ms, c, h1, h2, h3⟩ := h
  have hf := find_str k ms.toList 0 h2
  cases hm : mget k ms.toList with
  | none =>
    rw [hm] at hf
    simp only at hf
    refine ⟨.map (ms.push { key := .string k, val := v, born := c }) (c + 1), ?_, _, _, heap_set hlt, ?_, fun j => ?_⟩
    · simp only [Instr.mapUpdate, Sem.run_bind, run_und ht, Result.andThen_ok, run_getObj h1 (by simp), checkKey_run hk rfl, findKey_run hk hf, run_setObj h1 (by simp)]
    · intro e he
      simp only [Array.toList_push, List.mem_append, List.mem_singleton] at he
      rcases he with he | rfl
      · exact h2 e he
      · exact ⟨k, rfl⟩
    · rw [Array.toList_push, mget_push k v c _ hm, h3 j]
      rfl
  | some u =>
    rw [hm] at hf
    simp only at hf
    obtain ⟨j, m, _, h5, h6, h7, h8, h9⟩ := hf
    rw [Nat.sub_zero] at h5 h9
    have hi : ms[j]? = some m := by simpa using h5
    refine ⟨.map (ms.modify j fun e => { e with key := .string k, val := v }) c, ?_, _, _, heap_set hlt, ?_, fun x => ?_⟩
    · simp only [Instr.mapUpdate, Sem.run_bind, run_und ht, Result.andThen_ok, run_getObj h1 (by simp), checkKey_run hk rfl, findKey_run hk h8, Instr.keyThatStays]
      rw [hi]
      have hsb : Instr.sameBits 10000 m.key (.string k) = true := by rw [h6]; simp [Instr.sameBits, beq_str]
      simp only [Option.map_some, Option.getD_some, hsb, if_true, Sem.run_pure, Result.andThen_ok, run_setObj h1 (by simp)]
    · intro e he
      rw [Array.toList_modify] at he
      obtain ⟨x, hx, rfl⟩ := List.getElem_of_mem he
      rw [List.getElem_modify]
      split
      · exact ⟨k, rfl⟩
      · exact h2 _ (List.getElem_mem _)
    · rw [Array.toList_modify, mget_modify k v _ j m h5 h6 h9 x, h3 x]
      rfl
end
end Go.Mp
