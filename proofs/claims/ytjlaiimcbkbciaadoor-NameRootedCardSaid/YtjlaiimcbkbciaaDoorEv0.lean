/- A trie keyed by numbers, with its laws. Written so that the kernel reckons it in few steps. -/
import Derived.KernelRfl
noncomputable section
namespace Go.Ev
inductive Tr (α : Type) where
  | leaf
  | node (v : Option α) (l r : Tr α)
namespace Tr
variable {α : Type}
/-- The way to a number: at each node left or right. -/
def path (n : Nat) : List Bool :=
  Nat.rec (motive := fun _ => Nat → List Bool) (fun _ => [])
    (fun _ ih n => Nat.rec (motive := fun _ => List Bool) [] (fun m _ => Nat.beq (Nat.mod m 2) 0 :: ih (Nat.div m 2)) n) 64 n
def getB (p : List Bool) : Tr α → Option α :=
  List.rec (motive := fun _ => Tr α → Option α) (fun t => Tr.rec (motive := fun _ => Option α) none (fun v _ _ _ _ => v) t)
    (fun b _ ih t => Tr.rec (motive := fun _ => Option α) none (fun _ l r _ _ => Bool.rec (motive := fun _ => Option α) (ih r) (ih l) b) t) p
def setB (x : Option α) (p : List Bool) : Tr α → Tr α :=
  List.rec (motive := fun _ => Tr α → Tr α) (fun t => Tr.rec (motive := fun _ => Tr α) (.node x .leaf .leaf) (fun _ l r _ _ => .node x l r) t)
    (fun b _ ih t => Tr.rec (motive := fun _ => Tr α) (Bool.rec (motive := fun _ => Tr α) (.node none .leaf (ih .leaf)) (.node none (ih .leaf) .leaf) b)
      (fun v l r _ _ => Bool.rec (motive := fun _ => Tr α) (.node v l (ih r)) (.node v (ih l) r) b) t) p
def get (t : Tr α) (n : Nat) : Option α := Nat.rec (motive := fun _ => Option α) (getB [] t) (fun m _ => getB (path (Nat.succ m)) t) n
def set (t : Tr α) (n : Nat) (x : α) : Tr α := Nat.rec (motive := fun _ => Tr α) (setB (some x) [] t) (fun m _ => setB (some x) (path (Nat.succ m)) t) n
theorem getB_leaf (p : List Bool) : getB p (Tr.leaf : Tr α) = none := by cases p <;> rfl
theorem getB_cons (b : Bool) (p : List Bool) (v : Option α) (l r : Tr α) : getB (b :: p) (.node v l r) = if b then getB p l else getB p r := by cases b <;> rfl
theorem setB_get (x : Option α) : ∀ (p q : List Bool) (t : Tr α), getB q (setB x p t) = if q = p then x else getB q t := by
  intro p
  induction p with
  | nil =>
    intro q t
    cases t with
    | leaf => cases q with
      | nil => rfl
      | cons b q => rw [if_neg (by simp)]; show getB (b :: q) (.node x .leaf .leaf) = _; rw [getB_cons, getB_leaf, getB_leaf]; simp
    | node v l r => cases q with
      | nil => rfl
      | cons b q => rw [if_neg (by simp)]; show getB (b :: q) (.node x l r) = _; rw [getB_cons, getB_cons]
  | cons b p ih =>
    intro q t
    have key : ∀ (v : Option α) (l r : Tr α), getB q (setB x (b :: p) (.node v l r)) = if q = b :: p then x else getB q (.node v l r) := by
      intro v l r
      cases q with
      | nil => rw [if_neg (by simp)]; cases b <;> rfl
      | cons c q =>
        cases b
        · show getB (c :: q) (.node v l (setB x p r)) = _
          rw [getB_cons, getB_cons, ih]
          cases c <;> simp
        · show getB (c :: q) (.node v (setB x p l) r) = _
          rw [getB_cons, getB_cons, ih]
          cases c <;> simp
    cases t with
    | node v l r => exact key v l r
    | leaf =>
      have e : getB q (setB x (b :: p) (.leaf : Tr α)) = getB q (setB x (b :: p) (.node none .leaf .leaf)) := by cases b <;> rfl
      rw [e, key]
      congr 1
      cases q with
      | nil => rfl
      | cons c q => rw [getB_cons, getB_leaf, getB_leaf]; simp
def pathF : Nat → Nat → List Bool
  | 0, _ => []
  | f + 1, n => match n with
    | 0 => []
    | m + 1 => Nat.beq (Nat.mod m 2) 0 :: pathF f (Nat.div m 2)
theorem path_eq (n : Nat) : path n = pathF 64 n := by
  have : ∀ f n, (Nat.rec (motive := fun _ => Nat → List Bool) (fun _ => [])
    (fun _ ih n => Nat.rec (motive := fun _ => List Bool) [] (fun m _ => Nat.beq (Nat.mod m 2) 0 :: ih (Nat.div m 2)) n) f n) = pathF f n := by
    intro f
    induction f with
    | zero => intro n; rfl
    | succ f ih =>
      intro n
      unfold pathF
      cases n with
      | zero => rfl
      | succ m => simp only; rw [← ih]
  exact this 64 n
theorem pathF_len : ∀ (f n : Nat), n + 1 < 2 ^ f → (pathF f n).length < f := by
  intro f
  induction f with
  | zero => intro n h; simp at h
  | succ f ih =>
    intro n h
    rw [Nat.pow_succ] at h
    unfold pathF
    cases n with
    | zero => simp
    | succ n =>
      have hd : ∀ k : Nat, Nat.div k 2 = k / 2 := fun _ => rfl
      have := ih (n / 2) (by omega)
      simp only [hd, List.length_cons]
      omega
theorem pathF_inj : ∀ (f n m : Nat), (pathF f n).length < f → pathF f n = pathF f m → n = m := by
  intro f
  induction f with
  | zero => intro n m h; simp at h
  | succ f ih =>
    intro n m h1 h
    have hm : ∀ k : Nat, Nat.mod k 2 = k % 2 := fun _ => rfl
    have hd : ∀ k : Nat, Nat.div k 2 = k / 2 := fun _ => rfl
    unfold pathF at h h1
    cases n with
    | zero => cases m with
      | zero => rfl
      | succ m => cases h
    | succ n => cases m with
      | zero => cases h
      | succ m =>
        simp only [hm, hd, List.cons.injEq, List.length_cons] at h h1
        obtain ⟨e1, e2⟩ := h
        have := ih (n / 2) (m / 2) (by omega) e2
        have e3 : (n % 2 = 0) ↔ (m % 2 = 0) := by rw [← Nat.beq_eq, ← Nat.beq_eq, e1]
        omega
theorem get_eq (t : Tr α) (n : Nat) : t.get n = getB (path n) t := by cases n <;> rfl
theorem set_eq (t : Tr α) (n : Nat) (x : α) : t.set n x = setB (some x) (path n) t := by cases n <;> rfl
theorem get_leaf (n : Nat) : (Tr.leaf : Tr α).get n = none := by rw [get_eq, getB_leaf]
theorem set_get (t : Tr α) (n m : Nat) (x : α) (h : n < 2 ^ 63) : (t.set n x).get m = if m = n then some x else t.get m := by
  rw [get_eq, set_eq, setB_get, get_eq]
  by_cases e : m = n
  · rw [if_pos e, if_pos (by rw [e])]
  · rw [if_neg e, if_neg]
    intro e2
    rw [path_eq, path_eq] at e2
    exact e (pathF_inj 64 n m (pathF_len 64 n (by omega)) e2.symm).symm
def ofListFrom : Tr α → Nat → List α → Tr α
  | t, _, [] => t
  | t, n, x :: l => ofListFrom (t.set n x) (n + 1) l
def ofList (l : List α) : Tr α := ofListFrom .leaf 0 l
theorem ofListFrom_get : ∀ (l : List α) (t : Tr α) (n m : Nat), n + l.length < 2 ^ 63 → (ofListFrom t n l).get m = if n ≤ m ∧ m < n + l.length then l[m - n]? else t.get m := by
  intro l
  induction l with
  | nil => intro t n m _; simp [ofListFrom]; intro h1 h2; omega
  | cons x l ih =>
    intro t n m h
    simp only [List.length_cons] at h
    unfold ofListFrom
    rw [ih _ _ _ (by omega), set_get _ _ _ _ (by omega)]
    simp only [List.length_cons]
    by_cases h1 : n + 1 ≤ m ∧ m < n + 1 + l.length
    · rw [if_pos h1, if_pos (by omega)]
      rw [show m - n = (m - (n + 1)) + 1 from by omega, List.getElem?_cons_succ]
    · rw [if_neg h1]
      by_cases h2 : m = n
      · subst h2; rw [if_pos rfl, if_pos (by omega)]; simp
      · rw [if_neg h2, if_neg (by omega)]
theorem ofList_get (l : List α) (m : Nat) (h : l.length < 2 ^ 63) : (ofList l).get m = l[m]? := by
  unfold ofList
  rw [ofListFrom_get l _ _ _ (by omega)]
  by_cases h1 : m < l.length
  · rw [if_pos (by omega)]; simp
  · rw [if_neg (by omega), get_leaf, List.getElem?_eq_none (by omega)]
end Tr
end Go.Ev
