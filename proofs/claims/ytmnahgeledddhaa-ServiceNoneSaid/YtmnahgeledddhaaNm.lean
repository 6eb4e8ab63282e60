/- Plain facts of names: labels, pieces between points, what is a name. -/
import Derived.Test.YtmnahgeledddhaaSp
import Derived.Test.YtmnahgeledddhaaTm
import Derived.Lib.SplitLaws
import Derived.Laws.RangeAny
import Derived.Shelf.GgClosure.StringsIndexFunc
namespace Go.Tx
open Go.Lib
/-! ### The library's pieces are the document's -/
def pre (x : List UInt8) : List (List UInt8) → List (List UInt8)
  | [] => []
  | h :: t => (x ++ h) :: t
theorem splitG_pre (c : UInt8) (x : List UInt8) : ∀ (l y : List UInt8), splitG c (x ++ y) l = pre x (splitG c y l)
  | [], y => by simp [splitG, pre]
  | d :: l, y => by
    unfold splitG
    split
    · rfl
    · rw [List.append_assoc, splitG_pre c x l (y ++ [d])]
theorem splitK_pre {b c : UInt8} (h : b ≠ c) (k : Nat) (l : List UInt8) : splitK [c] 0 k (b :: l) = pre [b] (splitK [c] 0 k l) := by
  cases k with
  | zero => rfl
  | succ k =>
    have hp : ([c] : List UInt8).isPrefixOf (b :: l) = false := by simp [List.isPrefixOf, Ne.symm h]
    have hix : index (b :: l) [c] = if index l [c] == -1 then -1 else index l [c] + 1 := by rw [index, hp]; simp
    unfold splitK
    by_cases hm : index l [c] = -1
    · rw [hix, hm]; simp [pre]
    · have hge := index_ge l [c]
      obtain ⟨j, hj⟩ : ∃ j : Nat, index l [c] = j := ⟨(index l [c]).toNat, by omega⟩
      have h1 : ((j : Int) == -1) = false := by rw [beq_eq_false_iff_ne]; omega
      have h2 : ((j : Int) + 1 == -1) = false := by rw [beq_eq_false_iff_ne]; omega
      have h3 : ((j : Int) + 1).toNat = j + 1 := by omega
      rw [hix, hj]
      simp [h1, h2, h3, pre]
theorem splitK_one (c : UInt8) : ∀ l : List UInt8, splitK [c] 0 (count l [c]) l = splitL c l
  | [] => by
    have : count ([] : List UInt8) [c] = 0 := by rw [count_one]; rfl
    rw [this]; rfl
  | b :: l => by
    by_cases h : b = c
    · subst h
      have hix : index (b :: l) [b] = 0 := by rw [index]; simp [List.isPrefixOf]
      rw [count_cons_eq, Nat.add_comm, splitK, hix, splitL, splitG, if_pos rfl]
      simp only [List.take_zero, List.length_singleton]
      have := splitK_one b l
      simpa [splitL] using this
    · rw [count_cons_ne b c l h, splitK_pre h, splitK_one c l, splitL, splitL, splitG, if_neg h]
      exact (splitG_pre c [b] l []).symm
theorem split_pieces (s : ByteArray) (c : UInt8) : (splitB ⟨#[c]⟩ 0 (countB s ⟨#[c]⟩) s).map Value.string = (splitL c s.data.toList).map fun l => Value.string ⟨l.toArray⟩ := by
  have h := splitB_data ⟨#[c]⟩ 0 (countB s ⟨#[c]⟩) s
  have h2 : countB s ⟨#[c]⟩ = count s.data.toList [c] := rfl
  rw [h2] at h ⊢
  have h3 := splitK_one c s.data.toList
  have h4 : (ByteArray.data ⟨#[c]⟩).toList = [c] := rfl
  rw [h4, h3] at h
  rw [← h, List.map_map]
  rfl
theorem split_count (s : ByteArray) (c : UInt8) : countB s ⟨#[c]⟩ + 1 = (splitL c s.data.toList).length := by
  have h := splitB_all ⟨#[c]⟩ (Nat.le_refl 1) 0 _ s rfl
  have h2 := congrArg List.length (split_pieces s c)
  simp only [List.length_map] at h2
  omega
/-! ### A rune that is foreign is a byte that is -/
theorem idxFrom_any (p : Nat → Bool) (hp : ∀ x, 128 ≤ x → p x = true) (s : ByteArray) : ∀ (f pos : Nat), s.size - pos ≤ f →
    decide (0 ≤ idxFuncFrom p true s f pos) = (s.data.toList.drop pos).any fun b => p b.toNat
  | 0, pos, h => by
    have e : s.data.toList.drop pos = [] := List.drop_of_length_le (by rw [← size_eq]; omega)
    simp [idxFuncFrom, e]
  | f + 1, pos, h => by
    unfold idxFuncFrom
    by_cases hlt : pos < s.size
    · rw [if_pos hlt]
      have hd : s.data.toList.drop pos = s[pos] :: s.data.toList.drop (pos + 1) := List.drop_eq_getElem_cons (by rw [← size_eq]; exact hlt)
      rw [hd, List.any_cons]
      by_cases ha : s[pos].toNat < 128
      · rw [decode_ascii s pos hlt ha]
        simp only
        by_cases hb : p s[pos].toNat = true
        · rw [if_pos hb, hb]; simp
        · have hb' : p s[pos].toNat = false := by simpa using hb
          rw [if_neg hb, hb', Bool.false_or]
          exact idxFrom_any p hp s f (pos + 1) (by omega)
      · obtain ⟨h1, h2⟩ := decode_high s pos hlt (by omega)
        rw [if_pos (hp _ h1), hp _ (by omega)]
        simp
    · have e : s.data.toList.drop pos = [] := List.drop_of_length_le (by rw [← size_eq]; omega)
      rw [if_neg hlt, e]; simp
theorem idx_anyR (p : Nat → Bool) (hp : ∀ x, 128 ≤ x → p x = true) (s : ByteArray) : decide (0 ≤ idxFunc p true s) = s.data.toList.any fun b => p b.toNat := by
  exact idxFrom_any p hp s s.size 0 (by omega)
/-! ### Names -/
/-- What labels are made of, by number. -/
def sign (x : Nat) : Bool := (decide (97 ≤ x) && decide (x ≤ 122)) || (decide (65 ≤ x) && decide (x ≤ 90)) || (decide (48 ≤ x) && decide (x ≤ 57)) || decide (x = 45) || decide (x = 95)
theorem sign_high (x : Nat) (h : 128 ≤ x) : sign x = false := by
  simp only [sign, Bool.or_eq_false_iff, Bool.and_eq_false_iff, decide_eq_false_iff_not]
  omega
def labelB (l : List UInt8) : Bool := decide (l ≠ []) && decide (l.length ≤ 63) && l.all fun b => sign b.toNat
def nameB (l : List UInt8) : Bool := decide (l.length ≤ 253) && (splitL 46 l).all labelB
/-- Without a point at its end. -/
def bare (l : List UInt8) : List UInt8 := trimSuffix l [46]
def isRoot (l : List UInt8) : Bool := hasSuffix l [46]
def cleanV (l : List UInt8) : Value := if nameB (bare l) = true then .tuple #[.string ⟨((bare l).map low).toArray⟩, .bool (isRoot l), .bool true] else .tuple #[.string ⟨#[]⟩, .bool false, .bool false]
theorem bare_len (l : List UInt8) : (bare l).length ≤ l.length := by
  unfold bare trimSuffix
  split
  · simp
  · exact Nat.le_refl _
theorem noLabel (l : List UInt8) : (decide (l = []) || (decide (63 < l.length) || l.any fun b => !sign b.toNat)) = !labelB l := by
  have h1 : (decide (63 < l.length)) = !decide (l.length ≤ 63) := by by_cases h : l.length ≤ 63 <;> simp [h] <;> omega
  have h2 : (l.any fun b => !sign b.toNat) = !(l.all fun b => sign b.toNat) := by simp [List.any_eq_not_all_not]
  rw [h1, h2]
  unfold labelB
  by_cases h : l = [] <;> simp [h]
end Go.Tx
