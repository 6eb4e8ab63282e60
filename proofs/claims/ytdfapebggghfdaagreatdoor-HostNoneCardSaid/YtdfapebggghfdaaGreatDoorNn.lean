/- Plain facts: a cleaned name is cleaned; with a point behind it, it is rooted. -/
import Derived.Test.YtdfapebggghfdaaGreatDoorNm
namespace Go.Tx
open Go.Lib
theorem low_all : ∀ i : Fin 256, low (low (UInt8.ofNat i.1)) = low (UInt8.ofNat i.1) ∧ (low (UInt8.ofNat i.1) = 46 ↔ UInt8.ofNat i.1 = 46) ∧ sign (low (UInt8.ofNat i.1)).toNat = sign (UInt8.ofNat i.1).toNat := by decide +kernel
theorem low_facts (c : UInt8) : low (low c) = low c ∧ (low c = 46 ↔ c = 46) ∧ sign (low c).toNat = sign c.toNat := by
  have := low_all ⟨c.toNat, c.toNat_lt⟩
  simpa using this
theorem split_low : ∀ (l cur : List UInt8), splitG 46 (cur.map low) (l.map low) = (splitG 46 cur l).map (List.map low)
  | [], cur => by simp [splitG]
  | c :: l, cur => by
    simp only [List.map_cons, splitG]
    by_cases h : c = 46
    · rw [if_pos ((low_facts c).2.1.2 h), if_pos h]
      simp only [List.map_cons]
      congr 1
      exact split_low l []
    · rw [if_neg (fun e => h ((low_facts c).2.1.1 e)), if_neg h]
      have := split_low l (cur ++ [c])
      simpa using this
theorem label_low (l : List UInt8) : labelB (l.map low) = labelB l := by
  unfold labelB
  have e : ((l.map low).all fun b => sign b.toNat) = l.all fun b => sign b.toNat := by
    rw [List.all_map]
    congr 1
    funext c
    exact (low_facts c).2.2
  rw [e]
  simp
theorem name_low (l : List UInt8) : nameB (l.map low) = nameB l := by
  unfold nameB splitL
  have := split_low l []
  simp only [List.map_nil] at this
  rw [this, List.all_map, List.length_map]
  congr 2
  funext x
  exact label_low x
theorem low_low (l : List UInt8) : (l.map low).map low = l.map low := by
  rw [List.map_map]
  exact List.map_congr_left fun c _ => (low_facts c).1
theorem suf_snoc (l : List UInt8) : hasSuffix (l ++ [46]) [46] = true := by
  unfold hasSuffix
  exact List.isSuffixOf_iff_suffix.2 ⟨l, rfl⟩
theorem bare_snoc (l : List UInt8) : bare (l ++ [46]) = l := by
  unfold bare trimSuffix
  rw [suf_snoc, if_pos rfl]
  simp
/-- A name that is cleaned, rooted anew. -/
theorem clean_rooted (l : List UInt8) (h : nameB l = true) : cleanV (l.map low ++ [46]) = .tuple #[.string ⟨(l.map low).toArray⟩, .bool true, .bool true] := by
  unfold cleanV isRoot
  rw [bare_snoc, suf_snoc, name_low, if_pos h, low_low]
theorem cleanV_cases (l : List UInt8) : (nameB (bare l) = true ∧ cleanV l = .tuple #[.string ⟨((bare l).map low).toArray⟩, .bool (isRoot l), .bool true]) ∨ (nameB (bare l) = false ∧ cleanV l = .tuple #[.string ⟨#[]⟩, .bool false, .bool false]) := by
  unfold cleanV
  cases h : nameB (bare l) with
  | true => exact .inl ⟨rfl, if_pos rfl⟩
  | false => exact .inr ⟨rfl, if_neg (by decide)⟩
end Go.Tx
