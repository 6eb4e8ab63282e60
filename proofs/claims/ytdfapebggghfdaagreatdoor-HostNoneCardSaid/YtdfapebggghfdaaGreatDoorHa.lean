/- Plain facts of host tables: rows of lines, addresses by names, names by addresses. -/
import Derived.Test.YtdfapebggghfdaaGreatDoorTt
import Derived.Test.YtdfapebggghfdaaGreatDoorRo
import Derived.Test.YtdfapebggghfdaaGreatDoorNm
import Derived.Test.YtdfapebggghfdaaGreatDoorPa
namespace Go.Tx
open Go.Lib
/-- A word as a name, if it is one. -/
def nm (l : List UInt8) : Option (List UInt8) := if nameB (bare l) = true then some ((bare l).map low) else none
/-- What the words of a line say. -/
def rowOf : List (List UInt8) → Option (List UInt8 × List (List UInt8))
  | [] => none
  | x :: r => match parseP x with
    | none => none
    | some a => if r.filterMap nm = [] then none else some (a, r.filterMap nm)
def rowsOf (T : List (Nat × List (List UInt8))) : List (List UInt8 × List (List UInt8)) := T.filterMap fun t => rowOf t.2
def put32 (a : List UInt8) (l : List (List UInt8)) : List (List UInt8) := if l.length < 32 ∧ a ∉ l then l ++ [a] else l
/-- What a row with the address a adds to the addresses of k. -/
def putN (a k : List UInt8) (l f : List (List UInt8)) : List (List UInt8) := f.foldl (fun l x => if x = k then put32 a l else l) l
def addsOf (R : List (List UInt8 × List (List UInt8))) (k : List UInt8) : List (List UInt8) := R.foldl (fun l r => putN r.1 k l r.2) []
def namesAt (R : List (List UInt8 × List (List UInt8))) (a : List UInt8) : Option (List (List UInt8)) := (R.find? fun r => decide (r.1 = a)).map (·.2)
theorem addsOf_snoc (R : List (List UInt8 × List (List UInt8))) (r : List UInt8 × List (List UInt8)) (k : List UInt8) : addsOf (R ++ [r]) k = putN r.1 k (addsOf R k) r.2 := by
  simp [addsOf, List.foldl_append]
theorem namesAt_snoc (R : List (List UInt8 × List (List UInt8))) (r : List UInt8 × List (List UInt8)) (a : List UInt8) :
    namesAt (R ++ [r]) a = match namesAt R a with | some x => some x | none => if a = r.1 then some r.2 else none := by
  unfold namesAt
  rw [List.find?_append]
  cases R.find? fun r => decide (r.1 = a) with
  | some x => simp
  | none =>
    by_cases h : a = r.1
    · simp [List.find?, h]
    · have h' : ¬ r.1 = a := fun e => h e.symm
      simp [List.find?, h, h']
theorem put32_len {a : List UInt8} {l : List (List UInt8)} (h : l.length ≤ 32) : (put32 a l).length ≤ 32 := by
  unfold put32
  split
  · rename_i h1; simp; omega
  · exact h
theorem putN_snoc (a k : List UInt8) (l f : List (List UInt8)) (x : List UInt8) : putN a k l (f ++ [x]) = if x = k then put32 a (putN a k l f) else putN a k l f := by
  simp [putN, List.foldl_append]
theorem putN_len (a k : List UInt8) : ∀ (f l : List (List UInt8)), l.length ≤ 32 → (putN a k l f).length ≤ 32
  | [], l, h => h
  | x :: f, l, h => by
    show (putN a k (if x = k then put32 a l else l) f).length ≤ 32
    refine putN_len a k f _ ?_
    split
    · exact put32_len h
    · exact h
theorem addsOf_len (R : List (List UInt8 × List (List UInt8))) (k : List UInt8) : (addsOf R k).length ≤ 32 := by
  have key : ∀ (R : List (List UInt8 × List (List UInt8))) (l : List (List UInt8)), l.length ≤ 32 → (R.foldl (fun l r => putN r.1 k l r.2) l).length ≤ 32 := by
    intro R
    induction R with
    | nil => intro l h; exact h
    | cons r R ih => intro l h; exact ih _ (putN_len _ _ _ _ h)
  exact key R [] (by simp)
theorem rowsOf_snoc (T : List (Nat × List (List UInt8))) (t : Nat × List (List UInt8)) : rowsOf (T ++ [t]) = rowsOf T ++ (rowOf t.2).toList := by
  unfold rowsOf
  rw [List.filterMap_append]
  cases h : rowOf t.2 <;> simp [h]
theorem takeH {α : Type} {T : List α} {k : Nat} {t : α} (h : T[k]? = some t) : T.take (k + 1) = T.take k ++ [t] := by
  have hk := (List.getElem?_eq_some_iff.1 h).1
  rw [List.getElem?_eq_getElem hk] at h
  cases h
  exact List.take_succ_eq_append_getElem hk
/-! ### How long words are -/
theorem stepW_word {n : Nat} {u : List UInt8 × List (List UInt8)} {c : UInt8} (h1 : u.1.length ≤ n) (h2 : ∀ x ∈ u.2, x.length ≤ n) : (stepW blankN u c).1.length ≤ n + 1 ∧ ∀ x ∈ (stepW blankN u c).2, x.length ≤ n + 1 := by
  unfold stepW
  split
  · split
    · exact ⟨by simp, fun x hx => Nat.le_succ_of_le (h2 x hx)⟩
    · refine ⟨by simp, fun x hx => ?_⟩
      rcases List.mem_append.1 hx with hx | hx
      · exact Nat.le_succ_of_le (h2 x hx)
      · rw [List.mem_singleton.1 hx]; omega
  · exact ⟨by simp; omega, fun x hx => Nat.le_succ_of_le (h2 x hx)⟩
theorem fold_word : ∀ (l : List UInt8) (n : Nat) (u : List UInt8 × List (List UInt8)), u.1.length ≤ n → (∀ x ∈ u.2, x.length ≤ n) → (l.foldl (stepW blankN) u).1.length ≤ n + l.length ∧ ∀ x ∈ (l.foldl (stepW blankN) u).2, x.length ≤ n + l.length
  | [], n, u, h1, h2 => ⟨h1, h2⟩
  | c :: l, n, u, h1, h2 => by
    have h3 := stepW_word (c := c) h1 h2
    have h4 := fold_word l (n + 1) _ h3.1 h3.2
    rw [List.foldl_cons, List.length_cons]
    exact ⟨by omega, fun x hx => by have := h4.2 x hx; omega⟩
theorem hashCut_len (l : List UInt8) : (hashCut l).length ≤ l.length := by
  unfold hashCut
  exact (List.takeWhile_sublist _).length_le
theorem wordsOf_few (l : List UInt8) : (wordsOf l).length ≤ 513 ∧ ∀ x ∈ wordsOf l, x.length ≤ 512 := by
  unfold wordsOf
  cases hb : badSeg l with
  | true => simp
  | false =>
    simp only [Bool.false_eq_true, if_false]
    have hl : l.length ≤ 512 := by
      unfold badSeg at hb
      simp only [Bool.or_eq_false_iff, decide_eq_false_iff_not] at hb
      omega
    have hc := hashCut_len l
    have h1 := fold_len (hashCut l) ([], [])
    have h2 := fold_word (hashCut l) 0 ([], []) (by simp) (by simp)
    unfold wordsL closeW
    simp only [List.length_nil, Nat.zero_add] at h1 h2
    split
    · exact ⟨by omega, fun x hx => by have := h2.2 x hx; omega⟩
    · refine ⟨by simp; omega, fun x hx => ?_⟩
      rcases List.mem_append.1 hx with hx | hx
      · have := h2.2 x hx; omega
      · rw [List.mem_singleton.1 hx]; omega
/-- A line that is told. -/
structure FineL (ws : List (List UInt8)) : Prop where
  ne : ws ≠ []
  few : ws.length ≤ 513
  word : ∀ x ∈ ws, x.length ≤ 512
theorem tell_fine (no : Nat) (l : List UInt8) : ∀ t ∈ tell no l, FineL t.2 := by
  intro t ht
  unfold tell at ht
  split at ht
  · simp at ht
  · rename_i h
    rw [List.mem_singleton.1 ht]
    exact ⟨h, (wordsOf_few l).1, (wordsOf_few l).2⟩
theorem tell_few (no : Nat) (l : List UInt8) : (tell no l).length ≤ 1 := by
  unfold tell
  split <;> simp
theorem toldG_fine : ∀ (l : List UInt8) (no : Nat) (cur : List UInt8), (∀ t ∈ toldG no cur l, FineL t.2) ∧ (toldG no cur l).length ≤ l.length + 1
  | [], no, cur => ⟨tell_fine no cur, tell_few no cur⟩
  | c :: l, no, cur => by
    unfold toldG
    split
    · have h := toldG_fine l (no + 1) []
      have h2 := tell_few no cur
      refine ⟨fun t ht => ?_, by simp; omega⟩
      rcases List.mem_append.1 ht with ht | ht
      · exact tell_fine no cur t ht
      · exact h.1 t ht
    · have h := toldG_fine l no (cur ++ [c])
      exact ⟨h.1, by simp; omega⟩
end Go.Tx
