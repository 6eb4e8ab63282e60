/- A trie keyed by numbers, with its laws. Written so that the kernel reckons it in few steps. -/
import Derived.KernelRfl
namespace Go.Ev
inductive Tr (α : Type) where
  | leaf
  | node (v : Option α) (l r : Tr α)
namespace Tr
variable {α : Type}
def get : Tr α → Nat → Option α
  | .leaf, _ => none
  | .node v l r, n => match n with
    | 0 => v
    | m + 1 => match Nat.beq (Nat.mod m 2) 0 with
      | true => l.get (Nat.div m 2)
      | false => r.get (Nat.div m 2)
def top : Tr α → Option α
  | .leaf => none
  | .node v _ _ => v
def left : Tr α → Tr α
  | .leaf => .leaf
  | .node _ l _ => l
def right : Tr α → Tr α
  | .leaf => .leaf
  | .node _ _ r => r
/-- 'x' at 'n'; where the fuel does not reach, nothing turns. -/
def setF (x : Option α) : Nat → Tr α → Nat → Tr α
  | 0, t, _ => t
  | f + 1, t, n => match n with
    | 0 => .node x t.left t.right
    | m + 1 => match Nat.beq (Nat.mod m 2) 0 with
      | true => .node t.top (setF x f t.left (Nat.div m 2)) t.right
      | false => .node t.top t.left (setF x f t.right (Nat.div m 2))
def set (t : Tr α) (n : Nat) (x : α) : Tr α := setF (some x) 64 t n

theorem get_leaf (n : Nat) : (Tr.leaf : Tr α).get n = none := by unfold get; rfl
theorem get_zero (v : Option α) (l r : Tr α) : (Tr.node v l r).get 0 = v := by unfold get; rfl
theorem get_succ (v : Option α) (l r : Tr α) (m : Nat) :
    (Tr.node v l r).get (m + 1) = if m % 2 = 0 then l.get (m / 2) else r.get (m / 2) := by
  conv => lhs; unfold get
  have hm : Nat.mod m 2 = m % 2 := rfl
  have hd : Nat.div m 2 = m / 2 := rfl
  simp only [hm, hd]
  by_cases h : m % 2 = 0
  · have hb : Nat.beq (m % 2) 0 = true := by simp [h]
    rw [hb, if_pos h]
  · have hb : Nat.beq (m % 2) 0 = false := by
      cases hh : Nat.beq (m % 2) 0
      · rfl
      · exact absurd (Nat.eq_of_beq_eq_true hh) h
    rw [hb, if_neg h]
theorem eta (t : Tr α) (n : Nat) : (Tr.node t.top t.left t.right).get n = t.get n := by
  cases t with
  | leaf =>
    cases n with
    | zero => rw [get_zero, get_leaf]; rfl
    | succ m => rw [get_succ]; simp [left, right, get_leaf]
  | node v l r => rfl
theorem setF_get (x : Option α) : ∀ (f : Nat) (t : Tr α) (n m : Nat), n < 2 ^ f - 1 → (setF x f t n).get m = if m = n then x else t.get m := by
  intro f
  induction f with
  | zero => intro t n m h; simp at h
  | succ f ih =>
    intro t n m h
    rw [← eta t m]
    unfold setF
    have hm : ∀ k : Nat, Nat.mod k 2 = k % 2 := fun _ => rfl
    have hd : ∀ k : Nat, Nat.div k 2 = k / 2 := fun _ => rfl
    cases n with
    | zero =>
      simp only
      cases m with
      | zero => rw [get_zero]; simp
      | succ k => rw [get_succ, get_succ]; simp
    | succ n =>
      simp only [hm, hd]
      have hf : n / 2 < 2 ^ f - 1 := by
        rw [Nat.pow_succ] at h
        omega
      by_cases hp : n % 2 = 0
      · have hb : Nat.beq (n % 2) 0 = true := by simp [hp]
        rw [hb]
        simp only
        cases m with
        | zero => rw [get_zero, get_zero]; simp
        | succ k =>
          rw [get_succ, get_succ]
          by_cases hk : k % 2 = 0
          · rw [if_pos hk, if_pos hk, ih _ _ _ hf]
            by_cases e : k / 2 = n / 2
            · rw [if_pos e, if_pos (by omega)]
            · rw [if_neg e, if_neg (by omega)]
          · rw [if_neg hk, if_neg hk, if_neg (by omega)]
      · have hb : Nat.beq (n % 2) 0 = false := by
          cases hh : Nat.beq (n % 2) 0
          · rfl
          · exact absurd (Nat.eq_of_beq_eq_true hh) hp
        rw [hb]
        simp only
        cases m with
        | zero => rw [get_zero, get_zero]; simp
        | succ k =>
          rw [get_succ, get_succ]
          by_cases hk : k % 2 = 0
          · rw [if_pos hk, if_pos hk, if_neg (by omega)]
          · rw [if_neg hk, if_neg hk, ih _ _ _ hf]
            by_cases e : k / 2 = n / 2
            · rw [if_pos e, if_pos (by omega)]
            · rw [if_neg e, if_neg (by omega)]
theorem set_get (t : Tr α) (n m : Nat) (x : α) (h : n < 2 ^ 63) : (t.set n x).get m = if m = n then some x else t.get m :=
  setF_get (some x) 64 t n m (by omega)
def ofListFrom : Tr α → Nat → List α → Tr α
  | t, _, [] => t
  | t, n, x :: l => ofListFrom (t.set n x) (n + 1) l
def ofList (l : List α) : Tr α := ofListFrom .leaf 0 l
theorem ofListFrom_get : ∀ (l : List α) (t : Tr α) (n m : Nat), n + l.length < 2 ^ 63 → (ofListFrom t n l).get m = if n ≤ m ∧ m < n + l.length then l[m - n]? else t.get m := by
  intro l
  induction l with
  | nil => intro t n m _; simp [ofListFrom]; intro h1 h2; omega
  | cons x l ih =>
    intro t n m h
    simp only [List.length_cons] at h
    unfold ofListFrom
    rw [ih _ _ _ (by omega), set_get _ _ _ _ (by omega)]
    simp only [List.length_cons]
    by_cases h1 : n + 1 ≤ m ∧ m < n + 1 + l.length
    · rw [if_pos h1, if_pos (by omega)]
      rw [show m - n = (m - (n + 1)) + 1 from by omega, List.getElem?_cons_succ]
    · rw [if_neg h1]
      by_cases h2 : m = n
      · subst h2; rw [if_pos rfl, if_pos (by omega)]; simp
      · rw [if_neg h2, if_neg (by omega)]
theorem ofList_get (l : List α) (m : Nat) (h : l.length < 2 ^ 63) : (ofList l).get m = l[m]? := by
  unfold ofList
  rw [ofListFrom_get l _ _ _ (by omega)]
  by_cases h1 : m < l.length
  · rw [if_pos (by omega)]; simp
  · rw [if_neg (by omega), get_leaf, List.getElem?_eq_none (by omega)]
end Tr
end Go.Ev
