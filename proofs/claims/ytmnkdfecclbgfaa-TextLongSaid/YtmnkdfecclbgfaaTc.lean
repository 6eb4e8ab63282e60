/- What a line with a sign says: plain facts. -/
import Derived.Test.YtmnkdfecclbgfaaTt
namespace Go.Tx
/-- ' w', k times. -/
def rep : Nat → List UInt8
  | 0 => []
  | k + 1 => rep k ++ [32, 119]
theorem rep_len (k : Nat) : (rep k).length = 2 * k := by
  induction k with
  | zero => rfl
  | succ k ih => simp [rep, ih]; omega
theorem rep_mem (k : Nat) : ∀ b ∈ rep k, b = 32 ∨ b = 119 := by
  induction k with
  | zero => simp [rep]
  | succ k ih =>
    intro b hb
    simp [rep] at hb
    rcases hb with h | h | h
    · exact ih b h
    · exact .inl h
    · exact .inr h
def Fine (l : List UInt8) : Prop := ∀ b ∈ l, 32 ≤ b.toNat ∧ b.toNat ≤ 126
theorem fine_ok {l : List UInt8} (h : Fine l) : l.any forB = false := by
  rw [List.any_eq_false]
  intro b hb
  obtain ⟨h1, h2⟩ := h b hb
  have a1 : ¬ 127 ≤ b.toNat := by omega
  have a2 : ¬ b.toNat < 32 := by omega
  simp [forB, a1, a2]
theorem hash_front {l m : List UInt8} (h : ¬ (35 : UInt8) ∈ l) : hashCut (l ++ 35 :: m) = l := by
  unfold hashCut
  induction l with
  | nil => simp
  | cons d l ih =>
    simp only [List.mem_cons, not_or] at h
    have hb2 : (d != 35) = true := by simp; exact fun h' => h.1 h'.symm
    simp only [List.cons_append, List.takeWhile_cons, hb2, if_true, ih h.2]
theorem rep_fold (k : Nat) : (rep k).foldl (stepW blankN) ([], []) = (if k = 0 then [] else [119], List.replicate (k - 1) [119]) := by
  induction k with
  | zero => rfl
  | succ k ih =>
    simp only [rep, List.foldl_append, ih]
    cases k with
    | zero => rfl
    | succ k =>
      have h1 : blankN (32 : UInt8).toNat = true := rfl
      have h2 : ¬ blankN (119 : UInt8).toNat = true := by decide
      simp only [List.foldl_cons, List.foldl_nil]
      rw [stepW_end h1 (by simp), stepW_in h2]
      simp
      rw [← List.replicate_succ', Nat.add_comm]
theorem rep_words (k : Nat) : wordsL blankN (rep k) = List.replicate k [119] := by
  unfold wordsL closeW
  rw [rep_fold]
  cases k with
  | zero => rfl
  | succ k =>
    simp
    rw [← List.replicate_succ', Nat.add_comm]
theorem words_line (k : Nat) (more : List UInt8) (hk : k ≤ 10) (hm : more.length ≤ 50) (hf : Fine more) : wordsOf (rep k ++ 35 :: more) = List.replicate k [119] := by
  have hfine : Fine (rep k ++ 35 :: more) := by
    intro b hb
    simp only [List.mem_append, List.mem_cons] at hb
    rcases hb with h | h | h
    · rcases rep_mem k b h with h | h <;> subst h <;> decide
    · subst h; decide
    · exact hf b h
  have h1 := fine_ok hfine
  have h2 : ¬ 512 < (rep k ++ 35 :: more).length := by
    simp [rep_len]; omega
  have h3 : ¬ (35 : UInt8) ∈ rep k := fun h => by rcases rep_mem k 35 h with h | h <;> cases h
  unfold wordsOf badSeg
  rw [h1, hash_front h3, rep_words, decide_eq_false h2]
  rfl
theorem toldG_plain : ∀ (l : List UInt8) (no : Nat) (cur r : List UInt8), Fine l → toldG no cur (l ++ r) = toldG no (cur ++ l) r := by
  intro l
  induction l with
  | nil => intro no cur r _; simp
  | cons c l ih =>
    intro no cur r h
    have hc : ¬ c = 10 := by
      intro e
      have := (h c (by simp)).1
      subst e
      revert this
      decide
    rw [List.cons_append, toldG, if_neg hc, ih no (cur ++ [c]) r (fun b hb => h b (by simp [hb]))]
    simp
theorem told_line (k : Nat) (more : List UInt8) (hk : k ≤ 10) (hm : more.length ≤ 50) (hf : Fine more) : toldG 1 [] (rep k ++ [35] ++ more ++ [10, 120]) = (if k = 0 then [] else [(1, List.replicate k [119])]) ++ [(2, [[120]])] := by
  have h1 : rep k ++ [35] ++ more ++ [10, 120] = (rep k ++ 35 :: more) ++ [10, 120] := by simp
  have hfine : Fine (rep k ++ 35 :: more) := by
    intro b hb
    simp only [List.mem_append, List.mem_cons] at hb
    rcases hb with h | h | h
    · rcases rep_mem k b h with h | h <;> subst h <;> decide
    · subst h; decide
    · exact hf b h
  rw [h1, toldG_plain _ _ _ _ hfine, List.nil_append]
  have h2 : toldG 1 (rep k ++ 35 :: more) [10, 120] = tell 1 (rep k ++ 35 :: more) ++ tell 2 [120] := rfl
  rw [h2]
  have h3 : tell 2 [120] = [(2, [[120]])] := by decide
  rw [h3]
  unfold tell
  rw [words_line k more hk hm hf]
  cases k with
  | zero => rfl
  | succ k => simp [List.replicate_succ]
end Go.Tx
