/- Plain facts: the names that are asked for. -/
import Derived.Test.YtjlaiimcbkbciaaDoorNn
namespace Go.Tx
open Go.Lib
def whole (N d : List UInt8) : List UInt8 := N ++ [46] ++ (bare d).map low
def stepE (N : List UInt8) (acc : List (List UInt8)) (d : List UInt8) : List (List UInt8) :=
  if nameB (bare d) = true then (if nameB (whole N d) = true then (if whole N d ∈ acc then acc else acc ++ [whole N d]) else acc) else acc
def extE (N : List UInt8) (ds : List (List UInt8)) : List (List UInt8) := ds.foldl (stepE N) []
theorem stepE_len (N : List UInt8) (acc : List (List UInt8)) (d : List UInt8) : (stepE N acc d).length ≤ acc.length + 1 := by
  unfold stepE
  repeat' split
  all_goals simp
theorem fold_snoc {α β : Type} (f : β → α → β) (b : β) (l : List α) (k : Nat) (x : α) (h : l[k]? = some x) : (l.take (k + 1)).foldl f b = f ((l.take k).foldl f b) x := by
  have : l.take (k + 1) = l.take k ++ [x] := by rw [List.take_add_one, h]; rfl
  rw [this, List.foldl_append]
  rfl
theorem stepE_none {N : List UInt8} {acc : List (List UInt8)} {d : List UInt8} (h : nameB (bare d) = false) : stepE N acc d = acc := by unfold stepE; rw [if_neg (by rw [h]; decide)]
theorem stepE_long {N : List UInt8} {acc : List (List UInt8)} {d : List UInt8} (h : nameB (whole N d) = false) : stepE N acc d = acc := by unfold stepE; split; rw [if_neg (by rw [h]; decide)]; rfl
theorem stepE_twice {N : List UInt8} {acc : List (List UInt8)} {d : List UInt8} (h : whole N d ∈ acc) : stepE N acc d = acc := by
  unfold stepE
  rw [if_pos h]
  repeat' split
  all_goals rfl
theorem stepE_new {N : List UInt8} {acc : List (List UInt8)} {d : List UInt8} (h1 : nameB (bare d) = true) (h2 : nameB (whole N d) = true) (h3 : whole N d ∉ acc) : stepE N acc d = acc ++ [whole N d] := by unfold stepE; rw [if_pos h1, if_pos h2, if_neg h3]
/-! ### The document's way: the name may stand ahead -/
theorem split_end : ∀ (l cur : List UInt8), [] ∈ splitG 46 cur (l ++ [46])
  | [], cur => by simp [splitG]
  | c :: l, cur => by
    rw [List.cons_append, splitG]
    split
    · exact List.mem_cons_of_mem _ (split_end l [])
    · exact split_end l _
theorem name_end (l : List UInt8) (h : nameB l = true) : hasSuffix l [46] = false := by
  cases hc : hasSuffix l [46] with
  | false => rfl
  | true =>
    obtain ⟨t, rfl⟩ := List.isSuffixOf_iff_suffix.1 hc
    unfold nameB at h
    rw [Bool.and_eq_true, List.all_eq_true] at h
    have := h.2 _ (split_end t [])
    exact absurd this (by decide)
theorem bare_name (l : List UInt8) (h : nameB l = true) : bare l = l := by
  unfold bare trimSuffix
  rw [name_end l h, if_neg (by decide)]
theorem bare_bare_end (d : List UInt8) (h : nameB (bare d) = true) (N : List UInt8) : bare (whole N d) = whole N d := by
  have h1 := name_end _ (by rw [name_low]; exact h : nameB ((bare d).map low) = true)
  have hne : (bare d).map low ≠ [] := fun e => by
    have : nameB ((bare d).map low) = true := by rw [name_low]; exact h
    rw [e] at this
    exact absurd this (by decide)
  unfold bare trimSuffix
  have : hasSuffix (whole N d) [46] = false := by
    cases hc : hasSuffix (whole N d) [46] with
    | false => rfl
    | true =>
      have hs := List.isSuffixOf_iff_suffix.1 hc
      have h2 : (bare d).map low <:+ whole N d := ⟨N ++ [46], rfl⟩
      have h3 : [46] <:+ (bare d).map low := List.suffix_of_suffix_length_le hs h2 (by
        cases hh : (bare d).map low with
        | nil => exact absurd hh hne
        | cons x y => simp)
      have h4 := List.isSuffixOf_iff_suffix.2 h3
      unfold hasSuffix at h1
      rw [h4] at h1
      cases h1
  rw [this, if_neg (by decide)]
theorem whole_low (N d : List UInt8) (hN : N.map low = N) : (whole N d).map low = whole N d := by
  unfold whole
  rw [List.map_append, List.map_append, hN, low_low]
  rfl
theorem whole_ne (N d : List UInt8) : whole N d ≠ N := fun e => by
  have := congrArg List.length e
  unfold whole at this
  simp at this
def ref1 (N : List UInt8) (acc : List (List UInt8)) (ds : List (List UInt8)) : List (List UInt8) := ds.foldl (stepE N) acc
theorem ref_ahead (N : List UInt8) : ∀ (ds acc : List (List UInt8)), ds.foldl (stepE N) (N :: acc) = N :: ds.foldl (stepE N) acc
  | [], _ => rfl
  | d :: ds, acc => by
    rw [List.foldl_cons, List.foldl_cons]
    have : stepE N (N :: acc) d = N :: stepE N acc d := by
      unfold stepE
      have hm : whole N d ∈ N :: acc ↔ whole N d ∈ acc := by
        rw [List.mem_cons]
        exact ⟨fun h => h.resolve_left (whole_ne N d), .inr⟩
      by_cases h1 : nameB (bare d) = true
      · by_cases h2 : nameB (whole N d) = true
        · by_cases h3 : whole N d ∈ acc
          · rw [if_pos h1, if_pos h2, if_pos (hm.2 h3), if_pos h1, if_pos h2, if_pos h3]
          · rw [if_pos h1, if_pos h2, if_neg (fun h => h3 (hm.1 h)), if_pos h1, if_pos h2, if_neg h3]; rfl
        · rw [if_pos h1, if_neg h2, if_pos h1, if_neg h2]
      · rw [if_neg h1, if_neg h1]
    rw [this, ref_ahead N ds]
theorem ext_not (N : List UInt8) : ∀ (ds acc : List (List UInt8)), N ∉ acc → N ∉ ds.foldl (stepE N) acc
  | [], _, h => h
  | d :: ds, acc, h => by
    rw [List.foldl_cons]
    refine ext_not N ds _ ?_
    unfold stepE
    repeat' split
    all_goals first
      | exact h
      | (rw [List.mem_append]; rintro (h1 | h1)
         · exact h h1
         · exact whole_ne N d (List.mem_singleton.1 h1).symm)
/-- What is asked for. -/
def candL (s : List UInt8) (ds : List (List UInt8)) (first : Bool) : List (List UInt8) :=
  if nameB (bare s) = true then
    (if isRoot s = true then [(bare s).map low]
     else if first = true then (bare s).map low :: extE ((bare s).map low) ds else extE ((bare s).map low) ds ++ [(bare s).map low])
  else []
end Go.Tx
