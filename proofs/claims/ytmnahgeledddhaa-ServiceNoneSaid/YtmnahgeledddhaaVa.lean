/- Plain facts of service tables: rows of lines, ports by names, names by ports; how long words are. -/
import Derived.Test.YtmnahgeledddhaaTt
import Derived.Test.YtmnahgeledddhaaTm
import Derived.Test.YtmnahgeledddhaaSp
import Derived.Test.YtmnahgeledddhaaRo
namespace Go.Tx
open Go.Lib
def letterN (x : Nat) : Bool := (decide (97 ≤ x) && decide (x ≤ 122)) || (decide (65 ≤ x) && decide (x ≤ 90))
/-- What services' names are made of, by number. -/
def svcSign (x : Nat) : Bool := letterN x || (decide (48 ≤ x) && decide (x ≤ 57)) || decide (x = 45) || decide (x = 95) || decide (x = 46)
def svcB (l : List UInt8) : Bool := decide (l ≠ []) && decide (l.length ≤ 32) && l.all fun b => svcSign b.toNat
def protoB (l : List UInt8) : Bool := decide (l ≠ []) && decide (l.length ≤ 8) && l.all fun b => letterN b.toNat
theorem letter_high (x : Nat) (h : 128 ≤ x) : letterN x = false := by
  simp only [letterN, Bool.or_eq_false_iff, Bool.and_eq_false_iff, decide_eq_false_iff_not]
  omega
theorem svcSign_high (x : Nat) (h : 128 ≤ x) : svcSign x = false := by
  simp only [svcSign, letterN, Bool.or_eq_false_iff, Bool.and_eq_false_iff, decide_eq_false_iff_not]
  omega
/-- What stands ahead of and behind the sign / between. -/
def portP (a b : List UInt8) : Option (Int × List UInt8) := if protoB b = true ∧ (numRes a 65535).2 = true ∧ 1 ≤ (numRes a 65535).1 then some ((numRes a 65535).1, b.map low) else none
def placeP (y : List UInt8) : Option (Int × List UInt8) := match splitL 47 y with
  | [a, b] => portP a b
  | _ => none
abbrev Svc := List (List UInt8) × Int × List UInt8
/-- What the words of a line say. -/
def svcRow : List (List UInt8) → Option Svc
  | x :: y :: r => if svcB x = true then (placeP y).map fun q => (x :: r.filter svcB, q) else none
  | _ => none
def svcsOf (T : List (Nat × List (List UInt8))) : List Svc := T.filterMap fun t => svcRow t.2
def portAt (R : List Svc) (k : List UInt8 × List UInt8) : Option Int := (R.find? fun r => decide ((k.2 = [] ∨ k.2 = r.2.2) ∧ k.1 ∈ r.1)).map (·.2.1)
def namesOn (R : List Svc) (k : Int × List UInt8) : Option (List (List UInt8)) := (R.find? fun r => decide (r.2.1 = k.1 ∧ (k.2 = [] ∨ k.2 = r.2.2))).map (·.1)
/-- What a row says at a place, where no earlier one says it. -/
def fillA (A : List UInt8 × List UInt8 → Option Int) (n : Int) (p : List UInt8) (f : List (List UInt8)) : List UInt8 × List UInt8 → Option Int :=
  fun k => match A k with | some x => some x | none => if k.2 = p ∧ k.1 ∈ f then some n else none
def fillC (C : Int × List UInt8 → Option (List (List UInt8))) (a : Int × List UInt8) (f : List (List UInt8)) : Int × List UInt8 → Option (List (List UInt8)) :=
  fun k => match C k with | some x => some x | none => if k = a then some f else none
theorem portAt_one (R : List Svc) (r : Svc) (k : List UInt8 × List UInt8) : portAt (R ++ [r]) k = match portAt R k with | some x => some x | none => if (k.2 = [] ∨ k.2 = r.2.2) ∧ k.1 ∈ r.1 then some r.2.1 else none := by
  unfold portAt
  rw [List.find?_append]
  cases R.find? fun r => decide ((k.2 = [] ∨ k.2 = r.2.2) ∧ k.1 ∈ r.1) with
  | some x => rfl
  | none =>
    by_cases h : (k.2 = [] ∨ k.2 = r.2.2) ∧ k.1 ∈ r.1
    · simp only [List.find?, decide_eq_true h, if_pos h]; rfl
    · simp only [List.find?, decide_eq_false h, if_neg h]; rfl
theorem portAt_snoc (R : List Svc) (r : Svc) : portAt (R ++ [r]) = fillA (fillA (portAt R) r.2.1 r.2.2 r.1) r.2.1 [] r.1 := by
  funext k
  rw [portAt_one]
  unfold fillA
  cases portAt R k with
  | some x => rfl
  | none =>
    by_cases h1 : k.2 = r.2.2
    · by_cases h2 : k.1 ∈ r.1
      · simp only [if_pos (show (k.2 = [] ∨ k.2 = r.2.2) ∧ k.1 ∈ r.1 from ⟨.inr h1, h2⟩), if_pos (show k.2 = r.2.2 ∧ k.1 ∈ r.1 from ⟨h1, h2⟩)]
      · simp [h2]
    · by_cases h3 : k.2 = []
      · by_cases h2 : k.1 ∈ r.1
        · simp only [if_pos (show (k.2 = [] ∨ k.2 = r.2.2) ∧ k.1 ∈ r.1 from ⟨.inl h3, h2⟩), if_neg (show ¬ (k.2 = r.2.2 ∧ k.1 ∈ r.1) from fun e => h1 e.1), if_pos (show k.2 = [] ∧ k.1 ∈ r.1 from ⟨h3, h2⟩)]
        · simp [h2]
      · simp [h1, h3]
theorem namesOn_one (R : List Svc) (r : Svc) (k : Int × List UInt8) : namesOn (R ++ [r]) k = match namesOn R k with | some x => some x | none => if r.2.1 = k.1 ∧ (k.2 = [] ∨ k.2 = r.2.2) then some r.1 else none := by
  unfold namesOn
  rw [List.find?_append]
  cases R.find? fun r => decide (r.2.1 = k.1 ∧ (k.2 = [] ∨ k.2 = r.2.2)) with
  | some x => rfl
  | none =>
    by_cases h : r.2.1 = k.1 ∧ (k.2 = [] ∨ k.2 = r.2.2)
    · simp only [List.find?, decide_eq_true h, if_pos h]; rfl
    · simp only [List.find?, decide_eq_false h, if_neg h]; rfl
theorem namesOn_snoc (R : List Svc) (r : Svc) : namesOn (R ++ [r]) = fillC (fillC (namesOn R) (r.2.1, r.2.2) r.1) (r.2.1, []) r.1 := by
  funext k
  rw [namesOn_one]
  unfold fillC
  cases namesOn R k with
  | some x => rfl
  | none =>
    obtain ⟨k1, k2⟩ := k
    simp only [Prod.mk.injEq]
    by_cases h1 : r.2.1 = k1
    · subst h1
      by_cases h2 : k2 = r.2.2
      · simp [h2]
      · by_cases h3 : k2 = []
        · subst h3
          simp [h2]
        · simp [h2, h3]
    · have h5 : ¬ k1 = r.2.1 := fun e => h1 e.symm
      simp [h1, h5]
theorem svcsOf_snoc (T : List (Nat × List (List UInt8))) (t : Nat × List (List UInt8)) : svcsOf (T ++ [t]) = svcsOf T ++ (svcRow t.2).toList := by
  unfold svcsOf
  rw [List.filterMap_append]
  cases h : svcRow t.2 <;> simp [h]
theorem svcsOf_few (T : List (Nat × List (List UInt8))) : (svcsOf T).length ≤ T.length := List.length_filterMap_le _ _
/-- One port more, where there was none. -/
def oneA (A : List UInt8 × List UInt8 → Option Int) (a : List UInt8 × List UInt8) (n : Int) : List UInt8 × List UInt8 → Option Int :=
  fun k => match A k with | some y => some y | none => if k = a then some n else none
theorem fillA_snoc (A : List UInt8 × List UInt8 → Option Int) (n : Int) (p : List UInt8) (f : List (List UInt8)) (x : List UInt8) :
    fillA A n p (f ++ [x]) = oneA (fillA A n p f) (x, p) n := by
  funext k
  obtain ⟨k1, k2⟩ := k
  unfold oneA fillA
  cases A (k1, k2) with
  | some y => rfl
  | none =>
    by_cases h1 : k2 = p
    · by_cases h2 : k1 ∈ f
      · simp [h1, h2]
      · by_cases h3 : k1 = x
        · subst h3; simp [h1, h2]
        · simp [h1, h2, h3]
    · simp [h1]
theorem fillA_nil (A : List UInt8 × List UInt8 → Option Int) (n : Int) (p : List UInt8) : fillA A n p [] = A := by
  funext k
  unfold fillA
  cases A k <;> simp
/-! ### Cut at the sign / -/
theorem splitG_at (c : UInt8) (i : Nat) : ∀ (l cur : List UInt8), indexByte l c = (i : Int) → splitG c cur l = (cur ++ l.take i) :: splitG c [] (l.drop (i + 1)) := by
  induction i with
  | zero =>
    intro l cur h
    cases l with
    | nil => simp [indexByte] at h
    | cons d l =>
      have hge := indexByte_ge l c
      by_cases hc : d = c
      · simp [splitG, hc]
      · have hb : (d == c) = false := beq_eq_false_iff_ne.2 hc
        simp only [indexByte, hb, Bool.false_eq_true, if_false] at h
        split at h
        · cases h
        · rename_i h1
          have h1 : ¬ indexByte l c = -1 := by simpa using h1
          simp at h
          omega
  | succ i ih =>
    intro l cur h
    cases l with
    | nil => simp [indexByte] at h; omega
    | cons d l =>
      by_cases hc : d = c
      · subst hc; simp [indexByte] at h; omega
      · have hb : (d == c) = false := beq_eq_false_iff_ne.2 hc
        simp only [indexByte, hb, Bool.false_eq_true, if_false] at h
        split at h
        · omega
        · have h' : indexByte l c = (i : Int) := by omega
          rw [splitG, if_neg hc, ih l (cur ++ [d]) h']
          simp
theorem splitG_no (c : UInt8) : ∀ (l cur : List UInt8), indexByte l c < 0 → splitG c cur l = [cur ++ l] := by
  intro l
  induction l with
  | nil => intro cur _; simp [splitG]
  | cons d l ih =>
    intro cur h
    have hge := indexByte_ge l c
    by_cases hc : d = c
    · subst hc; simp [indexByte] at h
    · have hb : (d == c) = false := beq_eq_false_iff_ne.2 hc
      simp only [indexByte, hb, Bool.false_eq_true, if_false] at h
      have h' : indexByte l c < 0 := by
        split at h
        · rename_i h1; have : indexByte l c = -1 := by simpa using h1
          omega
        · omega
      rw [splitG, if_neg hc, ih (cur ++ [d]) h']
      simp
theorem noSlash : ∀ (l : List UInt8), (l.all fun b => letterN b.toNat) = true → indexByte l 47 < 0
  | [], _ => by simp [indexByte]
  | d :: l, h => by
    simp only [List.all_cons, Bool.and_eq_true] at h
    have ih := noSlash l h.2
    have hge := indexByte_ge l 47
    have hd : ¬ d = 47 := fun e => by
      rw [e] at h
      have := h.1
      simp [letterN] at this
    have hb : (d == 47) = false := beq_eq_false_iff_ne.2 hd
    have h1 : (indexByte l 47 == -1) = true := beq_iff_eq.2 (by omega)
    simp [indexByte, hb, h1]
theorem placeP_no (y : List UInt8) (h : indexByte y 47 < 0) : placeP y = none := by
  unfold placeP splitL
  rw [splitG_no 47 y [] h]
theorem placeP_yes (y : List UInt8) (i : Nat) (h : indexByte y 47 = (i : Int)) : placeP y = portP (y.take i) (y.drop (i + 1)) := by
  unfold placeP splitL
  rw [splitG_at 47 i y [] h]
  rw [List.nil_append]
  by_cases hn : indexByte (y.drop (i + 1)) 47 < 0
  · rw [splitG_no 47 _ [] hn]
    rfl
  · obtain ⟨j, hj⟩ : ∃ j : Nat, indexByte (y.drop (i + 1)) 47 = j := ⟨(indexByte (y.drop (i + 1)) 47).toNat, by omega⟩
    rw [splitG_at 47 j _ [] hj]
    have hp : ¬ protoB (y.drop (i + 1)) = true := fun e => by
      unfold protoB at e
      simp only [Bool.and_eq_true] at e
      exact hn (noSlash _ e.2)
    have hnone : portP (y.take i) (y.drop (i + 1)) = none := by unfold portP; rw [if_neg (fun e => hp e.1)]
    rw [hnone]
    have hlen := (splitG_len 47 ((y.drop (i + 1)).drop (j + 1)) []).1
    cases hs : splitG 47 [] ((y.drop (i + 1)).drop (j + 1)) with
    | nil => rw [hs] at hlen; simp at hlen
    | cons u v => rfl
theorem numRes_bd (l : List UInt8) (m : Int) (hm : 0 ≤ m) : 0 ≤ (numRes l m).1 ∧ (numRes l m).1 ≤ m := by
  unfold numRes
  split
  · exact ⟨by simp, hm⟩
  · split
    · exact ⟨by simp, hm⟩
    · constructor
      · simp only; omega
      · simp only; omega
theorem portP_bd {a b : List UInt8} {n : Int} {p : List UInt8} (h : portP a b = some (n, p)) : 1 ≤ n ∧ n ≤ 65535 ∧ p ≠ [] ∧ p.length ≤ 8 := by
  unfold portP at h
  split at h
  · rename_i hc
    obtain ⟨h1, _, h3⟩ := hc
    cases h
    unfold protoB at h1
    simp only [Bool.and_eq_true, decide_eq_true_eq] at h1
    exact ⟨h3, (numRes_bd _ _ (by decide)).2, fun e => h1.1.1 (by simpa using e), by rw [List.length_map]; exact h1.1.2⟩
  · cases h
theorem placeP_bd {y : List UInt8} {n : Int} {p : List UInt8} (h : placeP y = some (n, p)) : 1 ≤ n ∧ n ≤ 65535 ∧ p ≠ [] ∧ p.length ≤ 8 := by
  unfold placeP at h
  split at h
  · exact portP_bd h
  · cases h
theorem takeH {α : Type} {T : List α} {k : Nat} {t : α} (h : T[k]? = some t) : T.take (k + 1) = T.take k ++ [t] := by
  have hk := (List.getElem?_eq_some_iff.1 h).1
  rw [List.getElem?_eq_getElem hk] at h
  cases h
  exact List.take_succ_eq_append_getElem hk
/-! ### How long words are -/
theorem stepW_word {n : Nat} {u : List UInt8 × List (List UInt8)} {c : UInt8} (h1 : u.1.length ≤ n) (h2 : ∀ x ∈ u.2, x.length ≤ n) : (stepW blankN u c).1.length ≤ n + 1 ∧ ∀ x ∈ (stepW blankN u c).2, x.length ≤ n + 1 := by
  unfold stepW
  split
  · split
    · exact ⟨by simp, fun x hx => Nat.le_succ_of_le (h2 x hx)⟩
    · refine ⟨by simp, fun x hx => ?_⟩
      rcases List.mem_append.1 hx with hx | hx
      · exact Nat.le_succ_of_le (h2 x hx)
      · rw [List.mem_singleton.1 hx]; omega
  · exact ⟨by simp; omega, fun x hx => Nat.le_succ_of_le (h2 x hx)⟩
theorem fold_word : ∀ (l : List UInt8) (n : Nat) (u : List UInt8 × List (List UInt8)), u.1.length ≤ n → (∀ x ∈ u.2, x.length ≤ n) → (l.foldl (stepW blankN) u).1.length ≤ n + l.length ∧ ∀ x ∈ (l.foldl (stepW blankN) u).2, x.length ≤ n + l.length
  | [], n, u, h1, h2 => ⟨h1, h2⟩
  | c :: l, n, u, h1, h2 => by
    have h3 := stepW_word (c := c) h1 h2
    have h4 := fold_word l (n + 1) _ h3.1 h3.2
    rw [List.foldl_cons, List.length_cons]
    exact ⟨by omega, fun x hx => by have := h4.2 x hx; omega⟩
theorem hashCut_len (l : List UInt8) : (hashCut l).length ≤ l.length := by
  unfold hashCut
  exact (List.takeWhile_sublist _).length_le
theorem wordsOf_few (l : List UInt8) : (wordsOf l).length ≤ 513 ∧ ∀ x ∈ wordsOf l, x.length ≤ 512 := by
  unfold wordsOf
  cases hb : badSeg l with
  | true => simp
  | false =>
    simp only [Bool.false_eq_true, if_false]
    have hl : l.length ≤ 512 := by
      unfold badSeg at hb
      simp only [Bool.or_eq_false_iff, decide_eq_false_iff_not] at hb
      omega
    have hc := hashCut_len l
    have h1 := fold_len (hashCut l) ([], [])
    have h2 := fold_word (hashCut l) 0 ([], []) (by simp) (by simp)
    unfold wordsL closeW
    simp only [List.length_nil, Nat.zero_add] at h1 h2
    split
    · exact ⟨by omega, fun x hx => by have := h2.2 x hx; omega⟩
    · refine ⟨by simp; omega, fun x hx => ?_⟩
      rcases List.mem_append.1 hx with hx | hx
      · have := h2.2 x hx; omega
      · rw [List.mem_singleton.1 hx]; omega
/-- A line that is told. -/
structure FineL (ws : List (List UInt8)) : Prop where
  ne : ws ≠ []
  few : ws.length ≤ 513
  word : ∀ x ∈ ws, x.length ≤ 512
theorem tell_fine (no : Nat) (l : List UInt8) : ∀ t ∈ tell no l, FineL t.2 := by
  intro t ht
  unfold tell at ht
  split at ht
  · simp at ht
  · rename_i h
    rw [List.mem_singleton.1 ht]
    exact ⟨h, (wordsOf_few l).1, (wordsOf_few l).2⟩
theorem tell_few (no : Nat) (l : List UInt8) : (tell no l).length ≤ 1 := by
  unfold tell
  split <;> simp
theorem toldG_fine : ∀ (l : List UInt8) (no : Nat) (cur : List UInt8), (∀ t ∈ toldG no cur l, FineL t.2) ∧ (toldG no cur l).length ≤ l.length + 1
  | [], no, cur => ⟨tell_fine no cur, tell_few no cur⟩
  | c :: l, no, cur => by
    unfold toldG
    split
    · have h := toldG_fine l (no + 1) []
      have h2 := tell_few no cur
      refine ⟨fun t ht => ?_, by simp; omega⟩
      rcases List.mem_append.1 ht with ht | ht
      · exact tell_fine no cur t ht
      · exact h.1 t ht
    · have h := toldG_fine l no (cur ++ [c])
      exact ⟨h.1, by simp; omega⟩
end Go.Tx
