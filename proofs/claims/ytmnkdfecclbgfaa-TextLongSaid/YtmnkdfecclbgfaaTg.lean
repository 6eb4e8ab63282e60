/- A long line: plain facts. -/
import Derived.Test.YtmnkdfecclbgfaaTc
namespace Go.Tx
/-- k letters, then what is not yet written. -/
def fillL (k n : Nat) : List UInt8 := List.replicate k 120 ++ List.replicate (n - k) 0
theorem fillL_len (k n : Nat) (h : k ≤ n) : (fillL k n).length = n := by simp [fillL]; omega
theorem fillL_step (k n : Nat) (h : k < n) : fillL (k + 1) n = (fillL k n).set k 120 := by
  apply List.ext_getElem?
  intro j
  unfold fillL
  rw [List.getElem?_set, List.getElem?_append, List.getElem?_append]
  simp only [List.length_replicate, List.getElem?_replicate, List.length_append]
  by_cases h1 : k = j
  · subst h1
    rw [if_pos (by omega), if_pos (by omega), if_pos rfl, if_pos (by omega)]
  · rw [if_neg h1]
    by_cases h2 : j < k
    · rw [if_pos (by omega), if_pos (by omega), if_pos h2, if_pos h2]
    · rw [if_neg (by omega), if_neg h2]
      by_cases h3 : j - k < n - k
      · rw [if_pos (by omega), if_pos h3]
      · rw [if_neg (by omega), if_neg h3]
theorem fillL_all (n : Nat) : fillL n n = List.replicate n 120 := by simp [fillL]
/-- The long line. -/
def longL (n : Nat) (hash : Bool) : List UInt8 := if hash = true then (List.replicate n 120).set 2 35 else List.replicate n 120
theorem longL_len (n : Nat) (hash : Bool) : (longL n hash).length = n := by unfold longL; split <;> simp
theorem longL_fine (n : Nat) (hash : Bool) : Fine (longL n hash) := by
  intro b hb
  have : b = 120 ∨ b = 35 := by
    unfold longL at hb
    split at hb
    · rcases List.mem_or_eq_of_mem_set hb with h | h
      · exact .inl (List.eq_of_mem_replicate h)
      · exact .inr h
    · exact .inl (List.eq_of_mem_replicate hb)
  rcases this with rfl | rfl <;> decide
theorem fold_x (k : Nat) (u : List UInt8 × List (List UInt8)) : (List.replicate k (120 : UInt8)).foldl (stepW blankN) u = (u.1 ++ List.replicate k 120, u.2) := by
  induction k generalizing u with
  | zero => simp
  | succ k ih =>
    rw [List.replicate_succ, List.foldl_cons, stepW_in (by decide), ih]
    simp [List.replicate_succ]
theorem words_x (k : Nat) (hk : 0 < k) : wordsL blankN (List.replicate k 120) = [List.replicate k 120] := by
  unfold wordsL closeW
  rw [fold_x]
  have : ¬ ([] ++ List.replicate k (120 : UInt8)) = [] := by
    intro h
    have := congrArg List.length h
    simp at this
    omega
  rw [if_neg this]
  simp
theorem longL_cut (n : Nat) (hash : Bool) (hn : 505 ≤ n) : hashCut (longL n hash) = if hash = true then List.replicate 2 120 else List.replicate n 120 := by
  unfold longL
  split
  · have e : (List.replicate n (120 : UInt8)).set 2 35 = List.replicate 2 120 ++ 35 :: List.replicate (n - 3) 120 := by
      apply List.ext_getElem?
      intro j
      rw [List.getElem?_set, List.getElem?_append]
      simp only [List.length_replicate, List.getElem?_replicate]
      by_cases h1 : 2 = j
      · subst h1; rw [if_pos rfl, if_pos (by omega), if_neg (by omega)]; rfl
      · rw [if_neg h1]
        by_cases h2 : j < 2
        · rw [if_pos (by omega), if_pos h2, if_pos h2]
        · rw [if_neg h2]
          obtain ⟨i, rfl⟩ : ∃ i, j = i + 3 := ⟨j - 3, by omega⟩
          rw [show i + 3 - 2 = i + 1 from by omega, List.getElem?_cons_succ, List.getElem?_replicate]
          by_cases h3 : i + 3 < n
          · rw [if_pos h3, if_pos (by omega)]
          · rw [if_neg h3, if_neg (by omega)]
    rw [e]
    exact hash_front (by decide)
  · exact hashCut_none _ (by
      intro h
      have := List.eq_of_mem_replicate h
      cases this)
theorem longL_words (n : Nat) (hash : Bool) (hn : 505 ≤ n) : wordsOf (longL n hash) = if n ≤ 512 then [if hash = true then List.replicate 2 120 else List.replicate n 120] else [] := by
  unfold wordsOf badSeg
  rw [fine_ok (longL_fine n hash), longL_len, longL_cut n hash hn]
  by_cases h : n ≤ 512
  · rw [decide_eq_false (by omega), if_pos h]
    cases hash with
    | true => exact words_x 2 (by omega)
    | false => exact words_x n (by omega)
  · rw [decide_eq_true (by omega), if_neg h]
    rfl
theorem told_long (n : Nat) (hash : Bool) (hn : 505 ≤ n) : toldG 1 [] ([97, 10] ++ longL n hash ++ [10, 98]) =
    (1, [[97]]) :: ((if n ≤ 512 then [(2, [if hash = true then List.replicate 2 120 else List.replicate n 120])] else []) ++ [(3, [[98]])]) := by
  have h1 : [97, 10] ++ longL n hash ++ [10, 98] = (97 : UInt8) :: 10 :: (longL n hash ++ [10, 98]) := by simp
  rw [h1, toldG, if_neg (by decide), toldG, if_pos rfl, toldG_plain _ _ _ _ (longL_fine n hash)]
  have h2 : toldG (1 + 1) ([] ++ longL n hash) [10, 98] = tell 2 (longL n hash) ++ tell 3 [98] := rfl
  have h3 : tell 3 [98] = [(3, [[98]])] := by decide
  have h4 : tell 1 ([] ++ [97]) = [(1, [[97]])] := by decide
  rw [h2, h3, h4]
  unfold tell
  rw [longL_words n hash hn]
  by_cases h : n ≤ 512
  · rw [if_pos h, if_pos h]; simp
  · rw [if_neg h, if_neg h]; simp
end Go.Tx
