/- Plain facts of texts cut at a byte. -/
import Derived.KernelRfl
import Derived.Lib.Strings
namespace Go.Tx
/-- The pieces between the bytes c; 'cur': what stands ahead. -/
def splitG (c : UInt8) : List UInt8 → List UInt8 → List (List UInt8)
  | cur, [] => [cur]
  | cur, d :: l => if d = c then cur :: splitG c [] l else splitG c (cur ++ [d]) l
def splitL (c : UInt8) (l : List UInt8) : List (List UInt8) := splitG c [] l
theorem splitG_len (c : UInt8) : ∀ (l cur : List UInt8), 1 ≤ (splitG c cur l).length ∧ (splitG c cur l).length ≤ l.length + 1
  | [], cur => by simp [splitG]
  | d :: l, cur => by
    unfold splitG
    split
    · have := splitG_len c l []
      simp; omega
    · have := splitG_len c l (cur ++ [d])
      simp; omega
theorem stake_succ (l : List UInt8) (k : Nat) (b : UInt8) (h : l[k]? = some b) : l.take (k + 1) = l.take k ++ [b] := by
  have hk := (List.getElem?_eq_some_iff.1 h).1
  rw [List.take_succ_eq_append_getElem hk]
  rw [List.getElem?_eq_getElem hk] at h
  cases h
  rfl
theorem sdrop_cons (l : List UInt8) (k : Nat) (b : UInt8) (h : l[k]? = some b) : l.drop k = b :: l.drop (k + 1) := by
  have hk := (List.getElem?_eq_some_iff.1 h).1
  rw [List.drop_eq_getElem_cons hk]
  rw [List.getElem?_eq_getElem hk] at h
  cases h
  rfl
theorem splitG_step {l : List UInt8} {k F : Nat} {b c : UInt8} (h : l[k]? = some b) (hF : F ≤ k) (hb : ¬ b = c) : splitG c ((l.take k).drop F) (l.drop k) = splitG c ((l.take (k + 1)).drop F) (l.drop (k + 1)) := by
  have hk := (List.getElem?_eq_some_iff.1 h).1
  rw [sdrop_cons l k b h, splitG, if_neg hb, stake_succ l k b h, List.drop_append_of_le_length (by rw [List.length_take]; omega)]
theorem splitG_cut {l : List UInt8} {k F : Nat} {b c : UInt8} (h : l[k]? = some b) (hb : b = c) : splitG c ((l.take k).drop F) (l.drop k) = (l.take k).drop F :: splitG c ((l.take (k + 1)).drop (k + 1)) (l.drop (k + 1)) := by
  have e2 : (l.take (k + 1)).drop (k + 1) = [] := List.drop_of_length_le (by rw [List.length_take]; omega)
  rw [sdrop_cons l k b h, splitG, if_pos hb, e2]
theorem splitG_last {l : List UInt8} {n F : Nat} {c : UInt8} (h : l.length = n) : splitG c ((l.take n).drop F) (l.drop n) = [(l.take n).drop F] := by
  have e : l.drop n = [] := List.drop_of_length_le (by omega)
  rw [e]
  rfl
/-- A hexadecimal digit; -1: none. -/
def hexV (c : UInt8) : Int :=
  if 48 ≤ (c.toNat : Int) ∧ (c.toNat : Int) ≤ 57 then (c.toNat : Int) - 48
  else if 97 ≤ (c.toNat : Int) ∧ (c.toNat : Int) ≤ 102 then (c.toNat : Int) - 87
  else if 65 ≤ (c.toNat : Int) ∧ (c.toNat : Int) ≤ 70 then (c.toNat : Int) - 55
  else -1
theorem hexV_bd (c : UInt8) : -1 ≤ hexV c ∧ hexV c ≤ 15 := by
  unfold hexV
  split
  · omega
  · split
    · omega
    · split <;> omega
end Go.Tx
namespace Go.Tx
theorem splitG_mem (c : UInt8) : ∀ (l cur x : List UInt8), x ∈ splitG c cur l → x.length ≤ cur.length + l.length
  | [], cur, x, h => by simp [splitG] at h; subst h; simp
  | d :: l, cur, x, h => by
    unfold splitG at h
    split at h
    · rcases List.mem_cons.1 h with h | h
      · subst h; simp
      · have := splitG_mem c l [] x h
        simp at this ⊢; omega
    · have := splitG_mem c l (cur ++ [d]) x h
      simp at this ⊢; omega
end Go.Tx
