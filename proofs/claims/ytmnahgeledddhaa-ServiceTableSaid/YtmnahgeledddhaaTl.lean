/- Plain facts of lines and words. -/
import Derived.KernelRfl
import Derived.Lib.FieldsP
import Derived.Laws.RangeString
namespace Go.Tx
open Go.Lib
/-- One byte more: the word that stands open, and the words that are closed. -/
def stepW (p : Nat → Bool) (st : List UInt8 × List (List UInt8)) (c : UInt8) : List UInt8 × List (List UInt8) :=
  if p c.toNat = true then (if st.1 = [] then ([], st.2) else ([], st.2 ++ [st.1])) else (st.1 ++ [c], st.2)
def closeW (st : List UInt8 × List (List UInt8)) : List (List UInt8) := if st.1 = [] then st.2 else st.2 ++ [st.1]
/-- The words of bytes. -/
def wordsL (p : Nat → Bool) (l : List UInt8) : List (List UInt8) := closeW (l.foldl (stepW p) ([], []))
theorem take_size (s : ByteArray) : s.data.toList.take s.size = s.data.toList := List.take_of_length_le (Nat.le_refl _)
theorem stepW_nil {p : Nat → Bool} {u : List UInt8 × List (List UInt8)} {c : UInt8} (h : p c.toNat = true) (hu : u.1 = []) : stepW p u c = ([], u.2) := by simp [stepW, h, hu]
theorem stepW_end {p : Nat → Bool} {u : List UInt8 × List (List UInt8)} {c : UInt8} (h : p c.toNat = true) (hu : ¬ u.1 = []) : stepW p u c = ([], u.2 ++ [u.1]) := by simp [stepW, h, hu]
theorem stepW_in {p : Nat → Bool} {u : List UInt8 × List (List UInt8)} {c : UInt8} (h : ¬ p c.toNat = true) : stepW p u c = (u.1 ++ [c], u.2) := by simp [stepW, h]
theorem foldl_take_succ (p : Nat → Bool) (s : ByteArray) (k : Nat) (h : k < s.size) : (s.data.toList.take (k + 1)).foldl (stepW p) ([], []) = stepW p ((s.data.toList.take k).foldl (stepW p) ([], [])) s[k] := by
  rw [List.take_succ_eq_append_getElem (by simpa using h), List.foldl_append]
  rfl
/-- Spans and words tell the same. -/
def SameW (s : ByteArray) (pos : Nat) (st : Option Nat) (acc : List (Nat × Nat)) (u : List UInt8 × List (List UInt8)) : Prop :=
  (acc.map fun x => (s.extract x.1 x.2).data.toList) = u.2 ∧
  match st with
  | none => u.1 = []
  | some a => a < pos ∧ u.1 = (s.extract a pos).data.toList
theorem ext_list (s : ByteArray) (a b : Nat) : (s.extract a b).data.toList = (s.data.toList.take b).drop a := by
  simp [ByteArray.extract, ByteArray.copySlice, List.drop_take, List.extract]
theorem spans_words (p : Nat → Bool) (s : ByteArray) (ha : ∀ (k : Nat) (h : k < s.size), s[k].toNat < 128) : ∀ (f pos : Nat) (st : Option Nat) (acc : List (Nat × Nat)), pos ≤ s.size → s.size - pos ≤ f →
    SameW s pos st acc ((s.data.toList.take pos).foldl (stepW p) ([], [])) →
    SameW s s.size (spansFromP p s f pos st acc).2 (spansFromP p s f pos st acc).1 (s.data.toList.foldl (stepW p) ([], [])) := by
  intro f
  induction f with
  | zero =>
    intro pos st acc h1 h2 h3
    have : pos = s.size := by omega
    subst this
    simp only [spansFromP]
    rw [take_size] at h3
    exact h3
  | succ f ih =>
    intro pos st acc h1 h2 h3
    unfold spansFromP
    by_cases hp : pos < s.size
    · rw [if_pos hp, decode_ascii s pos hp (ha pos hp)]
      simp only
      have hstep := foldl_take_succ p s pos hp
      have hsnoc : ∀ a, a ≤ pos → (s.extract a (pos + 1)).data.toList = (s.extract a pos).data.toList ++ [s[pos]] := by
        intro a hle
        rw [ext_list, ext_list, List.take_succ_eq_append_getElem (by simpa using hp), List.drop_append_of_le_length (by simp; omega)]
        rfl
      obtain ⟨e1, e2⟩ := h3
      by_cases hc : p s[pos].toNat = true
      · rw [if_pos hc]
        cases st with
        | none =>
          simp only at e2 ⊢
          refine ih _ _ _ hp (by omega) ?_
          rw [hstep, stepW_nil hc e2]
          exact ⟨e1, rfl⟩
        | some a =>
          simp only at e2 ⊢
          refine ih _ _ _ hp (by omega) ?_
          have hne : ¬ ((s.data.toList.take pos).foldl (stepW p) ([], [])).1 = [] := by
            rw [e2.2, ext_list]
            intro hh
            have := congrArg List.length hh
            simp at this
            omega
          rw [hstep, stepW_end hc hne]
          refine ⟨?_, rfl⟩
          rw [List.map_append, e1, e2.2]
          rfl
      · rw [if_neg hc]
        cases st with
        | none =>
          simp only at e2 ⊢
          refine ih _ _ _ hp (by omega) ?_
          rw [hstep, stepW_in hc]
          refine ⟨e1, by omega, ?_⟩
          rw [e2, hsnoc pos (Nat.le_refl _), ext_list, List.drop_of_length_le (by simp; omega)]
        | some a =>
          simp only at e2 ⊢
          refine ih _ _ _ hp (by omega) ?_
          rw [hstep, stepW_in hc]
          refine ⟨e1, by omega, ?_⟩
          rw [e2.2, hsnoc a (by omega)]
    · have : pos = s.size := by omega
      subst this
      rw [if_neg hp]
      rw [take_size] at h3
      exact h3
theorem fields_words (p : Nat → Bool) (s : ByteArray) (ha : ∀ (k : Nat) (h : k < s.size), s[k].toNat < 128) : (goFieldsP p s).map (fun x => x.data.toList) = wordsL p s.data.toList := by
  have h := spans_words p s ha s.size 0 none [] (Nat.zero_le _) (by omega) ⟨rfl, rfl⟩
  unfold goFieldsP spansOfP wordsL closeW
  obtain ⟨e1, e2⟩ := h
  generalize spansFromP p s s.size 0 none [] = r at e1 e2
  obtain ⟨acc, st⟩ := r
  cases st with
  | none =>
    simp only at e1 e2
    rw [if_pos e2, ← e1]
    simp [closeSpans]
  | some a =>
    simp only at e1 e2
    have hne : ¬ (s.data.toList.foldl (stepW p) ([], [])).1 = [] := by
      rw [e2.2, ext_list]
      intro hh
      have := congrArg List.length hh
      simp at this
      omega
    rw [if_neg hne, ← e1, e2.2]
    simp [closeSpans]
end Go.Tx
