/- Plain facts of groups of an address. -/
import Derived.Test.YtdfapebggghfdaaGreatDoorFo
namespace Go.Tx
def hexA (l : List UInt8) : Int := l.foldl (fun n c => 16 * n + hexV c) 0
def hexOk (l : List UInt8) : Bool := l.all fun c => decide (0 ≤ hexV c)
def hexG (l : List UInt8) : Option (List UInt8) :=
  if l.length < 1 ∨ 4 < l.length then none else if hexOk l = true then some [UInt8.ofNat ((hexA l).toNat / 256), UInt8.ofNat ((hexA l).toNat % 256)] else none
def partG (lst : Bool) (l : List UInt8) : Option (List UInt8) :=
  if lst = true then (match fourP (splitL 46 l) with | some f => some f | none => hexG l) else hexG l
def accG (last : Bool) (P : List (List UInt8)) : Nat → Option (List UInt8)
  | 0 => some []
  | k + 1 => match accG last P k with
    | none => none
    | some a => match partG (last && decide (k + 1 = P.length)) (P.getD k []) with
      | none => none
      | some x => some (a ++ x)
def groupsP (last : Bool) (s : List UInt8) : Option (List UInt8) := if s = [] then some [] else accG last (splitL 58 s) (splitL 58 s).length
theorem hexA_snoc (l : List UInt8) (c : UInt8) : hexA (l ++ [c]) = 16 * hexA l + hexV c := by simp [hexA, List.foldl_append]
theorem hexOk_snoc (l : List UInt8) (c : UInt8) : hexOk (l ++ [c]) = (hexOk l && decide (0 ≤ hexV c)) := by simp [hexOk, List.all_append]
theorem hexA_bd4 : ∀ l : List UInt8, l.length ≤ 4 → hexOk l = true → 0 ≤ hexA l ∧ hexA l ≤ 65535
  | [], _, _ => by simp [hexA]
  | [a], _, h => by
    have := hexV_bd a
    simp [hexOk, hexA] at h ⊢
    omega
  | [a, b], _, h => by
    have := hexV_bd a
    have := hexV_bd b
    simp [hexOk, hexA] at h ⊢
    omega
  | [a, b, c], _, h => by
    have := hexV_bd a
    have := hexV_bd b
    have := hexV_bd c
    simp [hexOk, hexA] at h ⊢
    omega
  | [a, b, c, d], _, h => by
    have := hexV_bd a
    have := hexV_bd b
    have := hexV_bd c
    have := hexV_bd d
    simp [hexOk, hexA] at h ⊢
    omega
  | a :: b :: c :: d :: e :: l, h, _ => by simp at h
/-- Once none, none at the end. -/
theorem accG_none {last : Bool} {P : List (List UInt8)} {k : Nat} (h : accG last P k = none) : ∀ j, k ≤ j → accG last P j = none
  | 0, hj => by
    obtain rfl : k = 0 := by omega
    exact h
  | j + 1, hj => by
    by_cases e : k = j + 1
    · rw [← e]; exact h
    · have := accG_none h j (by omega)
      simp [accG, this]
theorem accG_step {last : Bool} {P : List (List UInt8)} {k : Nat} {a l x : List UInt8} {t : Bool} (h : accG last P k = some a) (hl : P[k]? = some l) (ht : (last && decide (k + 1 = P.length)) = t) (hx : partG t l = some x) : accG last P (k + 1) = some (a ++ x) := by
  simp only [accG, h, ht, List.getD_eq_getElem?_getD, hl, Option.getD_some, hx]
theorem accG_stop {last : Bool} {P : List (List UInt8)} {k : Nat} {l : List UInt8} {t : Bool} (hl : P[k]? = some l) (ht : (last && decide (k + 1 = P.length)) = t) (hx : partG t l = none) : accG last P P.length = none := by
  have hk := (List.getElem?_eq_some_iff.1 hl).1
  refine accG_none (k := k + 1) ?_ _ hk
  simp only [accG, List.getD_eq_getElem?_getD, hl, Option.getD_some, ht, hx]
  cases accG last P k <;> rfl
theorem partG_four {l f : List UInt8} (h : fourP (splitL 46 l) = some f) : partG true l = some f := by simp [partG, h]
theorem partG_hex {l : List UInt8} {t : Bool} (h : t = true → fourP (splitL 46 l) = none) : partG t l = hexG l := by
  unfold partG
  cases t with
  | false => rfl
  | true => simp [h rfl]
theorem hexG_len {l : List UInt8} (h : l.length < 1 ∨ 4 < l.length) : hexG l = none := by unfold hexG; rw [if_pos h]
theorem hexG_bad {l : List UInt8} {k : Nat} {c : UInt8} (h : l[k]? = some c) (hc : hexV c < 0) : hexG l = none := by
  have hno : ¬ hexOk l = true := by
    unfold hexOk
    rw [List.all_eq_true]
    intro h2
    have := h2 c (List.mem_of_getElem? h)
    simp at this
    omega
  unfold hexG
  rw [if_neg hno]
  split <;> rfl
theorem hexG_ok {l : List UInt8} (h : ¬ (l.length < 1 ∨ 4 < l.length)) (h2 : hexOk l = true) : hexG l = some [UInt8.ofNat ((hexA l).toNat / 256), UInt8.ofNat ((hexA l).toNat % 256)] := by
  unfold hexG; rw [if_neg h, if_pos h2]
theorem partG_len {t : Bool} {l x : List UInt8} (h : partG t l = some x) : x.length ≤ 4 := by
  unfold partG at h
  have hh : ∀ x, hexG l = some x → x.length ≤ 4 := by
    intro x hx
    unfold hexG at hx
    split at hx
    · cases hx
    · split at hx
      · cases hx; simp
      · cases hx
  split at h
  · cases e : fourP (splitL 46 l) with
    | some f =>
      rw [e] at h
      cases h
      unfold fourP at e
      split at e
      · rename_i h4
        cases e
        rw [List.length_map]
        omega
      · cases e
    | none =>
      rw [e] at h
      exact hh _ h
  · exact hh _ h
theorem accG_len {last : Bool} {P : List (List UInt8)} : ∀ {k : Nat} {a : List UInt8}, accG last P k = some a → a.length ≤ 4 * k
  | 0, a, h => by simp [accG] at h; subst h; simp
  | k + 1, a, h => by
    unfold accG at h
    split at h
    · cases h
    · rename_i b hb
      split at h
      · cases h
      · rename_i x hx
        cases h
        have := accG_len hb
        have := partG_len hx
        simp
        omega
end Go.Tx
