/- Plain facts of digits and letters. -/
import Derived.KernelRfl
import Derived.Lib.Bytes
namespace Go.Tx
def dig (c : UInt8) : Bool := decide (48 ≤ (c.toNat : Int)) && decide ((c.toNat : Int) ≤ 57)
def valF (n : Nat) (l : List UInt8) : Nat := l.foldl (fun n c => 10 * n + (c.toNat - 48)) n
/-- The number that digits write. -/
def val (l : List UInt8) : Nat := valF 0 l
theorem val_nil : val [] = 0 := rfl
theorem val_snoc (l : List UInt8) (c : UInt8) : val (l ++ [c]) = 10 * val l + (c.toNat - 48) := by simp [val, valF]
theorem valF_lt : ∀ (l : List UInt8) (n : Nat), (∀ c ∈ l, dig c = true) → valF n l < (n + 1) * 10 ^ l.length := by
  intro l
  induction l with
  | nil => intro n _; simp [valF]
  | cons c l ih =>
    intro n h
    have h1 := ih (10 * n + (c.toNat - 48)) fun d hd => h d (by simp [hd])
    have h2 := h c (by simp)
    simp only [dig, Bool.and_eq_true, decide_eq_true_eq] at h2
    have h3 : valF n (c :: l) = valF (10 * n + (c.toNat - 48)) l := rfl
    rw [h3, List.length_cons, Nat.pow_succ]
    refine Nat.lt_of_lt_of_le h1 ?_
    rw [Nat.mul_comm (10 ^ l.length) 10, ← Nat.mul_assoc]
    exact Nat.mul_le_mul_right _ (by omega)
theorem val_lt (l : List UInt8) (h : ∀ c ∈ l, dig c = true) : val l < 10 ^ l.length := by
  have := valF_lt l 0 h
  simpa [val] using this
theorem val_lt9 (l : List UInt8) (h : ∀ c ∈ l, dig c = true) (hl : l.length ≤ 9) : val l < 1000000000 := by
  have h1 := val_lt l h
  have h2 : 10 ^ l.length ≤ 10 ^ 9 := Nat.pow_le_pow_right (by omega) hl
  omega
theorem take_snoc (s : ByteArray) (k : Nat) (h : k < s.size) : s.data.toList.take (k + 1) = s.data.toList.take k ++ [s[k]] := by
  rw [List.take_succ_eq_append_getElem (by simpa using h)]; rfl
theorem val_step (s : ByteArray) (k : Nat) (h : k < s.size) (hd : dig s[k] = true) : ((val (s.data.toList.take (k + 1)) : Nat) : Int) = (val (s.data.toList.take k) : Int) * 10 + ((s[k].toNat : Int) - 48) := by
  rw [take_snoc s k h, val_snoc]
  simp only [dig, Bool.and_eq_true, decide_eq_true_eq] at hd
  omega
theorem all_step (s : ByteArray) (k : Nat) (h : k < s.size) : (s.data.toList.take (k + 1)).all dig = ((s.data.toList.take k).all dig && dig s[k]) := by
  rw [take_snoc s k h, List.all_append]; simp
theorem all_no (s : ByteArray) (k : Nat) (h : k < s.size) (hd : dig s[k] = false) : s.data.toList.all dig = false := by
  cases hh : s.data.toList.all dig with
  | false => rfl
  | true =>
    rw [List.all_eq_true] at hh
    have := hh s[k] (Array.mem_toList_iff.2 (Array.getElem_mem (xs := s.data) h))
    rw [hd] at this; cases this
theorem take_all (s : ByteArray) (k : Nat) (h : s.size ≤ k) : s.data.toList.take k = s.data.toList := List.take_of_length_le (by simpa using h)
theorem val_bd (s : ByteArray) (k : Nat) (h : (s.data.toList.take k).all dig = true) (h9 : s.size ≤ 9) : val (s.data.toList.take k) < 1000000000 := by
  refine val_lt9 _ (by rw [List.all_eq_true] at h; exact h) ?_
  rw [List.length_take]
  have : s.data.toList.length = s.size := rfl
  omega
theorem dig_of (c : UInt8) (h1 : 48 ≤ (c.toNat : Int)) (h2 : (c.toNat : Int) ≤ 57) : dig c = true := by simp [dig, h1, h2]
theorem dig_lo (c : UInt8) (h1 : (c.toNat : Int) < 48) : dig c = false := by
  have : ¬ (48 ≤ (c.toNat : Int)) := by omega
  simp [dig, this]
theorem dig_hi (c : UInt8) (h1 : 57 < (c.toNat : Int)) : dig c = false := by
  have : ¬ ((c.toNat : Int) ≤ 57) := by omega
  simp [dig, this]
/-- What Num answers. -/
def numBad (l : List UInt8) : Bool := l.isEmpty || decide (9 < l.length) || (l.head? == some 48 && decide (1 < l.length)) || !l.all dig
def numRes (l : List UInt8) (most : Int) : Int × Bool := if numBad l = true then (0, false) else if most < (val l : Int) then (0, false) else (val l, true)
theorem numRes_nil (l : List UInt8) (m : Int) (h : l = []) : numRes l m = (0, false) := by subst h; rfl
theorem numRes_len (l : List UInt8) (m : Int) (h : 9 < l.length) : numRes l m = (0, false) := by simp [numRes, numBad, h]
theorem numRes_zero (l : List UInt8) (m : Int) (h : 1 < l.length) (h2 : l.head? = some 48) : numRes l m = (0, false) := by simp [numRes, numBad, h, h2]
theorem numRes_no (l : List UInt8) (m : Int) (h : l.all dig = false) : numRes l m = (0, false) := by simp [numRes, numBad, h]
theorem numRes_ok (l : List UInt8) (m : Int) (h0 : 1 ≤ l.length) (h1 : l.length ≤ 9) (h2 : ¬ (l.head? = some 48 ∧ 1 < l.length)) (h3 : l.all dig = true) : numRes l m = if m < (val l : Int) then (0, false) else ((val l : Int), true) := by
  have : numBad l = false := by
    cases l with
    | nil => simp at h0
    | cons c l => simp [numBad, h3]; simp at h1 h2; exact ⟨h1, h2⟩
  simp [numRes, this]
/-! ### Folding -/
def low (c : UInt8) : UInt8 := if 65 ≤ (c.toNat : Int) ∧ (c.toNat : Int) ≤ 90 then UInt8.ofNat (c.toNat + 32) else c
def lowTake (k : Nat) (l : List UInt8) : List UInt8 := (l.take k).map low ++ l.drop k
theorem lowTake_zero (l : List UInt8) : lowTake 0 l = l := by simp [lowTake]
theorem lowTake_len (k : Nat) (l : List UInt8) : (lowTake k l).length = l.length := by simp [lowTake]; omega
theorem lowTake_all (k : Nat) (l : List UInt8) (h : l.length ≤ k) : lowTake k l = l.map low := by
  simp [lowTake, List.take_of_length_le h, List.drop_of_length_le h]
theorem lowTake_at (k : Nat) (l : List UInt8) (h : k < l.length) : (lowTake k l)[k]? = some l[k] := by
  unfold lowTake
  rw [List.getElem?_append_right (by simp; omega)]
  have : k - (List.map low (List.take k l)).length = 0 := by simp; omega
  rw [this, List.getElem?_drop]
  simp
theorem lowTake_step (k : Nat) (l : List UInt8) (h : k < l.length) : lowTake (k + 1) l = (lowTake k l).set k (low l[k]) := by
  apply List.ext_getElem?
  intro j
  rw [List.getElem?_set]
  have hlen : (lowTake k l).length = l.length := lowTake_len k l
  unfold lowTake
  rw [List.getElem?_append, List.getElem?_append]
  simp only [List.length_map, List.length_take, List.getElem?_map, List.getElem?_take, List.getElem?_drop, List.length_append, List.length_drop]
  by_cases hj : k = j
  · subst hj
    rw [if_pos (by omega), if_pos (by omega), if_pos rfl, if_pos (by omega)]
    simp [h]
  · rw [if_neg hj]
    by_cases hlt : j < k
    · rw [if_pos (by omega), if_pos (by omega), if_pos (by omega), if_pos (by omega)]
    · rw [if_neg (by omega), if_neg (by omega)]
      congr 1
      omega
theorem lowTake_skip (k : Nat) (l : List UInt8) (h : k < l.length) (hl : low l[k] = l[k]) : lowTake (k + 1) l = lowTake k l := by
  rw [lowTake_step k l h, hl]
  apply List.ext_getElem?
  intro j
  rw [List.getElem?_set]
  split
  · rename_i e
    subst e
    rw [lowTake_at k l h, lowTake_len, if_pos h]
  · rfl
theorem low_up (c : UInt8) (h1 : 65 ≤ (c.toNat : Int)) (h2 : (c.toNat : Int) ≤ 90) : ((low c).toNat : Int) = (c.toNat : Int) + 32 := by
  unfold low
  rw [if_pos ⟨h1, h2⟩]
  have : (c.toNat + 32) % 256 = c.toNat + 32 := by omega
  simp [this]
theorem low_lo (c : UInt8) (h1 : (c.toNat : Int) < 65) : low c = c := by unfold low; rw [if_neg (by omega)]
theorem low_hi (c : UInt8) (h1 : 90 < (c.toNat : Int)) : low c = c := by unfold low; rw [if_neg (by omega)]
end Go.Tx
