/- Plain facts of printed addresses: hexadecimal digits, the longest run of zeros, groups with points between. -/
import Derived.Test.YtbhmmdkipmddlaaDoorPu
import Derived.Lib.ItoaNum
import Derived.Lib.Join
namespace Go.Tx
open Go.Lib
/-! ### Hexadecimal digits -/
def hd (n : Nat) : UInt8 := if n < 10 then UInt8.ofNat (48 + n) else UInt8.ofNat (87 + n)
def hexT (n : Nat) : List UInt8 := if h : n < 16 then [hd n] else hexT (n / 16) ++ [hd (n % 16)]
termination_by n
decreasing_by omega
theorem hexT_lt {n : Nat} (h : n < 16) : hexT n = [hd n] := by rw [hexT, dif_pos h]
theorem hexT_ge {n : Nat} (h : ¬ n < 16) : hexT n = hexT (n / 16) ++ [hd (n % 16)] := by rw [hexT, dif_neg h]
theorem hexT_len : ∀ (n : Nat), n < 65536 → 1 ≤ (hexT n).length ∧ (hexT n).length ≤ 4 := by
  intro n hn
  by_cases h1 : n < 16
  · rw [hexT_lt h1]; simp
  · rw [hexT_ge h1]
    by_cases h2 : n / 16 < 16
    · rw [hexT_lt h2]; simp
    · rw [hexT_ge h2]
      by_cases h3 : n / 16 / 16 < 16
      · rw [hexT_lt h3]; simp
      · rw [hexT_ge h3, hexT_lt (by omega)]; simp
def hexF (k : Nat) (s : List UInt8) : List UInt8 :=
  if h : k = 0 then (if s = [] then [48] else s) else hexF (k / 16) (hd (k % 16) :: s)
termination_by k
decreasing_by omega
theorem hexF_zero (s : List UInt8) (h : ¬ s = []) : hexF 0 s = s := by unfold hexF; simp [h]
theorem hexF_pos {k : Nat} (s : List UInt8) (h : 0 < k) : hexF k s = hexF (k / 16) (hd (k % 16) :: s) := by
  rw [hexF, dif_neg (by omega)]
theorem hexF_nil : hexF 0 [] = hexF (0 / 16) (hd (0 % 16) :: []) := by
  show hexF 0 [] = hexF 0 [48]
  rw [hexF_zero [48] (by simp)]
  unfold hexF; simp
theorem hexF_T : ∀ (n : Nat) (s : List UInt8), 0 < n → hexF n s = hexT n ++ s := by
  intro n
  induction n using Nat.strongRecOn with
  | _ n ih =>
    intro s h
    rw [hexF_pos s h]
    by_cases h1 : n < 16
    · rw [hexT_lt h1, Nat.div_eq_of_lt h1, hexF_zero _ (by simp), Nat.mod_eq_of_lt h1]; rfl
    · rw [hexT_ge h1, ih (n / 16) (by omega) _ (by omega)]
      simp
theorem hexF_all (n : Nat) : hexF n [] = hexT n := by
  by_cases h : n = 0
  · subst h
    rw [hexT_lt (by omega)]
    unfold hexF
    simp [hd]
  · rw [hexF_T n [] (by omega), List.append_nil]
theorem hexT_zero (n : Nat) : hexT n = [48] ↔ n = 0 := by
  constructor
  · intro h
    by_cases h1 : n < 16
    · rw [hexT_lt h1] at h
      have : ∀ i : Fin 16, [hd i.1] = [48] → i.1 = 0 := by decide
      exact this ⟨n, h1⟩ h
    · rw [hexT_ge h1] at h
      have h2 : 1 ≤ (hexT (n / 16)).length := by
        rw [hexT]
        split <;> simp
      have := congrArg List.length h
      rw [List.length_append, List.length_singleton, List.length_singleton] at this
      omega
  · rintro rfl; rw [hexT_lt (by omega)]; rfl
/-! ### Decimal digits -/
theorem dec_pos : ∀ (n : Nat) (s : List UInt8), 0 < n → decG n s = Lib.decDigits n ++ s := by
  intro n
  induction n using Nat.strongRecOn with
  | _ n ih =>
    intro s h
    rw [decG_pos s h]
    by_cases h1 : n < 10
    · rw [Nat.div_eq_of_lt h1, decG_zero _ (by simp), Nat.mod_eq_of_lt h1, Lib.decDigits, dif_pos h1]; rfl
    · rw [ih (n / 10) (by omega) _ (by omega)]
      rw [Lib.decDigits.eq_def n, dif_neg h1]
      simp
theorem dec_all (n : Nat) : decG n [] = Lib.decDigits n := by
  by_cases h : n = 0
  · subst h
    rw [Lib.decDigits, dif_pos (by omega)]
    unfold decG
    simp
  · rw [dec_pos n [] (by omega), List.append_nil]
/-! ### The longest run -/
/-- How many are true from i on. -/
def runL (z : List Bool) (i : Nat) : Nat := ((z.drop i).takeWhile id).length
def best (z : List Bool) : Nat → Option (Nat × Nat)
  | 0 => none
  | k + 1 => match best z k with
    | none => if 1 < runL z k then some (k, runL z k) else none
    | some (i, m) => if m < runL z k then some (k, runL z k) else some (i, m)
theorem runL_le (z : List Bool) (i : Nat) : runL z i ≤ z.length - i := by
  unfold runL
  have := (List.takeWhile_prefix id (l := z.drop i)).length_le
  rw [List.length_drop] at this
  exact this
theorem best_ok (z : List Bool) : ∀ k i m, best z k = some (i, m) → 2 ≤ m ∧ i < k ∧ i + m ≤ z.length
  | 0, i, m, h => by cases h
  | k + 1, i, m, h => by
    have hr := runL_le z k
    unfold best at h
    split at h
    · split at h
      · cases h; omega
      · cases h
    · rename_i i' m' hb
      have := best_ok z k i' m' hb
      split at h
      · cases h; omega
      · cases h; omega
theorem cnt_eq : ∀ (n : Nat) (t : List Bool), (∀ j, j < n → t[j]? = some true) → t[n]? ≠ some true → (t.takeWhile id).length = n
  | 0, [], _, _ => rfl
  | 0, b :: t, _, h => by
    cases b with
    | false => rfl
    | true => simp at h
  | n + 1, [], h, _ => by have := h 0 (by omega); simp at this
  | n + 1, b :: t, h, h2 => by
    have h0 := h 0 (by omega)
    simp at h0
    subst h0
    have := cnt_eq n t (fun j hj => by have := h (j + 1) (by omega); simpa using this) (by simpa using h2)
    simp [List.takeWhile, this]
theorem runL_eq {z : List Bool} {i n : Nat} (h : ∀ j, j < n → z[i + j]? = some true) (h2 : z[i + n]? ≠ some true) : runL z i = n :=
  cnt_eq n (z.drop i) (fun j hj => by rw [List.getElem?_drop]; exact h j hj) (by rw [List.getElem?_drop]; exact h2)
theorem best_none {z : List Bool} {k : Nat} (h : best z k = none) : best z (k + 1) = if 1 < runL z k then some (k, runL z k) else none := by simp only [best, h]
theorem best_some {z : List Bool} {k i m : Nat} (h : best z k = some (i, m)) : best z (k + 1) = if m < runL z k then some (k, runL z k) else some (i, m) := by simp only [best, h]
/-! ### An address of sixteen bytes, printed -/
/-- The i-th group's number. -/
def grp (l : List UInt8) (i : Nat) : Nat := (l.getD (2 * i) 0).toNat * 256 + (l.getD (2 * i + 1) 0).toNat
def grpT (l : List UInt8) : List (List UInt8) := (List.range 8).map fun i => hexT (grp l i)
def grpZ (l : List UInt8) : List Bool := (List.range 8).map fun i => decide (grp l i = 0)
theorem grpZ_at (l : List UInt8) (i : Nat) (h : i < 8) : (grpZ l)[i]? = some (decide (grp l i = 0)) := by
  unfold grpZ; rw [List.getElem?_map, List.getElem?_range h]; rfl
theorem grpT_at (l : List UInt8) (i : Nat) (h : i < 8) : (grpT l)[i]? = some (hexT (grp l i)) := by
  unfold grpT; rw [List.getElem?_map, List.getElem?_range h]; rfl
theorem grpT_len (l : List UInt8) : (grpT l).length = 8 := by simp [grpT]
theorem grpZ_len (l : List UInt8) : (grpZ l).length = 8 := by simp [grpZ]
theorem grp_lt (l : List UInt8) (i : Nat) : grp l i < 65536 := by
  unfold grp
  have := (l.getD (2 * i) 0).toNat_lt
  have := (l.getD (2 * i + 1) 0).toNat_lt
  omega
def print16 (l : List UInt8) : List UInt8 := match best (grpZ l) 8 with
  | none => Lib.join (grpT l) [58]
  | some (i, m) => Lib.join ((grpT l).take i) [58] ++ [58, 58] ++ Lib.join ((grpT l).drop (i + m)) [58]
def printP (l : List UInt8) : List UInt8 := if l.length = 4 then Lib.join (l.map fun c => Lib.decDigits c.toNat) [46] else if l.length = 16 then print16 l else []
theorem joinT_app (sep : List UInt8) : ∀ (a b : List (List UInt8)), Lib.joinTail sep (a ++ b) = Lib.joinTail sep a ++ Lib.joinTail sep b
  | [], b => rfl
  | x :: a, b => by
    have h1 : Lib.joinTail sep (x :: (a ++ b)) = sep ++ x ++ Lib.joinTail sep (a ++ b) := by simp [Lib.joinTail]
    have h2 : Lib.joinTail sep (x :: a) = sep ++ x ++ Lib.joinTail sep a := by simp [Lib.joinTail]
    rw [List.cons_append, h1, h2, joinT_app sep a b]
    simp only [List.append_assoc]
theorem join_snoc (sep : List UInt8) (l : List (List UInt8)) (x : List UInt8) (h : l ≠ []) : Lib.join (l ++ [x]) sep = Lib.join l sep ++ (sep ++ x) := by
  cases l with
  | nil => exact absurd rfl h
  | cons y r =>
    rw [List.cons_append, Lib.join_cons, Lib.join_cons, joinT_app]
    simp [Lib.joinTail]
theorem join_one (sep x : List UInt8) : Lib.join [x] sep = x := by rw [Lib.join_cons]; simp [Lib.joinTail]
theorem join_nil (sep : List UInt8) : Lib.join [] sep = [] := rfl
theorem join_step (l : List (List UInt8)) (k : Nat) (x : List UInt8) (h : l[k]? = some x) : Lib.join (l.take (k + 1)) [58] = Lib.join (l.take k) [58] ++ ((if k = 0 then [] else [58]) ++ x) := by
  have hk := (List.getElem?_eq_some_iff.1 h).1
  have e : l[k] = x := by rw [List.getElem?_eq_getElem hk] at h; exact Option.some.inj h
  rw [List.take_succ_eq_append_getElem hk, e]
  by_cases h0 : k = 0
  · subst h0; simp [join_one, join_nil]
  · rw [if_neg h0, join_snoc]
    intro h1
    have := congrArg List.length h1
    rw [List.length_take, List.length_nil] at this
    omega
theorem joinT_len (sep : List UInt8) (hsep : sep.length ≤ 1) (n : Nat) : ∀ (l : List (List UInt8)), (∀ x ∈ l, x.length ≤ n) → (Lib.joinTail sep l).length ≤ (n + 1) * l.length
  | [], _ => by simp [Lib.joinTail]
  | y :: r, h => by
    have h1 := joinT_len sep hsep n r fun x hx => h x (by simp [hx])
    have h2 := h y (by simp)
    have e : Lib.joinTail sep (y :: r) = sep ++ y ++ Lib.joinTail sep r := by simp [Lib.joinTail]
    rw [e]
    simp only [List.length_append, List.length_cons, Nat.mul_add, Nat.mul_one]
    omega
theorem join_len (sep : List UInt8) (hsep : sep.length ≤ 1) (n : Nat) (l : List (List UInt8)) (h : ∀ x ∈ l, x.length ≤ n) : (Lib.join l sep).length ≤ (n + 1) * l.length := by
  cases l with
  | nil => simp [join_nil]
  | cons y r =>
    have h1 := joinT_len sep hsep n r fun x hx => h x (by simp [hx])
    have h2 := h y (by simp)
    rw [Lib.join_cons]
    simp only [List.length_append, List.length_cons, Nat.mul_add, Nat.mul_one]
    omega
theorem grpT_few (l : List UInt8) : ∀ x ∈ grpT l, x.length ≤ 4 := fun x hx => by
  obtain ⟨i, _, rfl⟩ := List.mem_map.1 hx
  exact (hexT_len _ (grp_lt l i)).2
end Go.Tx
