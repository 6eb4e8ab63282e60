/- What lines are told: plain facts. -/
import Derived.Test.YtmnahgeledddhaaTl
import Derived.Test.YtmnahgeledddhaaLa
namespace Go.Tx
open Go.Lib
def hashCut (l : List UInt8) : List UInt8 := l.takeWhile (· != 35)
theorem hashCut_eq (l : List UInt8) : hashCut l = if 0 ≤ indexByte l 35 then l.take (indexByte l 35).toNat else l := by
  induction l with
  | nil => simp [hashCut, indexByte]
  | cons c l ih =>
    have hge := indexByte_ge l 35
    unfold hashCut at ih ⊢
    by_cases hc : c = 35
    · subst hc; simp [indexByte]
    · have hb : (c == 35) = false := beq_eq_false_iff_ne.2 hc
      have hb2 : (c != 35) = true := by simp [hc]
      simp only [List.takeWhile_cons, hb2, if_true, indexByte, hb, Bool.false_eq_true, if_false]
      rw [ih]
      by_cases hr : 0 ≤ indexByte l 35
      · have h1 : (indexByte l 35 == -1) = false := beq_eq_false_iff_ne.2 (by omega)
        have h2 : (indexByte l 35 + 1).toNat = (indexByte l 35).toNat + 1 := by omega
        have h3 : 0 ≤ indexByte l 35 + 1 := by omega
        simp [hr, h1, h2, h3]
      · have h1 : (indexByte l 35 == -1) = true := by simp; omega
        simp [hr, h1]
theorem hashCut_snoc (l : List UInt8) (c : UInt8) : hashCut (l ++ [c]) = if (35 : UInt8) ∈ l ∨ c = 35 then hashCut l else l ++ [c] := by
  unfold hashCut
  induction l with
  | nil =>
    by_cases hc : c = 35 <;> simp [hc]
  | cons d l ih =>
    by_cases hd : d = 35
    · subst hd; simp
    · have hd' : ¬ (35 : UInt8) = d := fun h => hd h.symm
      have hb2 : (d != 35) = true := by simp [hd]
      simp only [List.cons_append, List.takeWhile_cons, hb2, if_true, ih, List.mem_cons, hd', false_or]
      split <;> rfl
theorem hashCut_none (l : List UInt8) (h : ¬ (35 : UInt8) ∈ l) : hashCut l = l := by
  unfold hashCut
  induction l with
  | nil => rfl
  | cons d l ih =>
    simp only [List.mem_cons, not_or] at h
    have hb2 : (d != 35) = true := by simp; exact fun h' => h.1 h'.symm
    simp only [List.takeWhile_cons, hb2, if_true, ih h.2]
def badSeg (l : List UInt8) : Bool := decide (512 < l.length) || l.any forB
def wordsOf (l : List UInt8) : List (List UInt8) := if badSeg l = true then [] else wordsL blankN (hashCut l)
theorem wordsOf_nil : wordsOf [] = [] := by decide
def tell (no : Nat) (l : List UInt8) : List (Nat × List (List UInt8)) := if wordsOf l = [] then [] else [(no, wordsOf l)]
/-- The lines that are told; 'cur': what stands ahead in the line. -/
def toldG : Nat → List UInt8 → List UInt8 → List (Nat × List (List UInt8))
  | no, cur, [] => tell no cur
  | no, cur, c :: l => if c = 10 then tell no cur ++ toldG (no + 1) [] l else toldG no (cur ++ [c]) l
theorem toldG_nl (i : Nat) : ∀ (l : List UInt8) (no : Nat) (cur : List UInt8), indexByte l 10 = i → toldG no cur l = tell no (cur ++ l.take i) ++ toldG (no + 1) [] (l.drop (i + 1)) := by
  induction i with
  | zero =>
    intro l no cur h
    cases l with
    | nil => simp [indexByte] at h
    | cons c l =>
      have hge := indexByte_ge l 10
      by_cases hc : c = 10
      · simp [toldG, hc]
      · have hb : (c == 10) = false := beq_eq_false_iff_ne.2 hc
        simp only [indexByte, hb, Bool.false_eq_true, if_false] at h
        split at h
        · cases h
        · rename_i h1
          have h1 : ¬ indexByte l 10 = -1 := by simpa using h1
          simp at h
          omega
  | succ i ih =>
    intro l no cur h
    cases l with
    | nil => simp [indexByte] at h; omega
    | cons c l =>
      by_cases hc : c = 10
      · subst hc; simp [indexByte] at h; omega
      · have hb : (c == 10) = false := beq_eq_false_iff_ne.2 hc
        simp only [indexByte, hb, Bool.false_eq_true, if_false] at h
        split at h
        · omega
        · have h' : indexByte l 10 = (i : Int) := by omega
          rw [toldG, if_neg hc, ih l no (cur ++ [c]) h']
          simp
theorem toldG_no : ∀ (l : List UInt8) (no : Nat) (cur : List UInt8), indexByte l 10 < 0 → toldG no cur l = tell no (cur ++ l) := by
  intro l
  induction l with
  | nil => intro no cur _; simp [toldG]
  | cons c l ih =>
    intro no cur h
    have hge := indexByte_ge l 10
    by_cases hc : c = 10
    · subst hc; simp [indexByte] at h
    · have hb : (c == 10) = false := beq_eq_false_iff_ne.2 hc
      simp only [indexByte, hb, Bool.false_eq_true, if_false] at h
      have h' : indexByte l 10 < 0 := by
        split at h
        · rename_i h1; have : indexByte l 10 = -1 := by simpa using h1
          omega
        · omega
      rw [toldG, if_neg hc, ih no (cur ++ [c]) h']
      simp
end Go.Tx
