/- SourceRegistry: a sorted list that a name comes into; what the registry's map and the list have in common. -/
import Derived.Test.YtpdkjifalgeodaaScd
import Derived.Maps.Views
import Derived.Sort.KeysCollected
namespace Go.Tx
open Go.Maps
/-- Where a name comes into a list. -/
def insN (x : List UInt8) (L : List (List UInt8)) (k : Nat) : List (List UInt8) := if L[k]? = some x then L else L.take k ++ x :: L.drop k
theorem lt_or {a b : List UInt8} (h : ¬ a < b) (hne : a ≠ b) : b < a := by
  rcases List.le_iff_lt_or_eq.1 (List.not_lt.1 h) with h | h
  · exact h
  · exact absurd h.symm hne
theorem ins_ok {x : List UInt8} {L : List (List UInt8)} {k : Nat} (hs : L.Pairwise (· < ·)) (hk : ∀ (j : Nat) y, j < k → L[j]? = some y → y < x) (hend : ∀ y, L[k]? = some y → ¬ y < x) :
    (insN x L k).Pairwise (· < ·) ∧ (∀ y, y ∈ insN x L k ↔ y = x ∨ y ∈ L) ∧ (insN x L k).length ≤ L.length + 1 := by
  unfold insN
  by_cases h : L[k]? = some x
  · rw [if_pos h]
    refine ⟨hs, fun y => ⟨.inr, fun hy => ?_⟩, by omega⟩
    rcases hy with rfl | hy
    · exact List.mem_iff_getElem?.2 ⟨k, h⟩
    · exact hy
  · rw [if_neg h]
    have hdrop : ∀ y ∈ L.drop k, x < y := fun y hy => by
      obtain ⟨j, hj⟩ := List.mem_iff_getElem?.1 hy
      rw [List.getElem?_drop] at hj
      have hkl : k < L.length := by have := (List.getElem?_eq_some_iff.1 hj).1; omega
      obtain ⟨z, hz⟩ : ∃ z, L[k]? = some z := ⟨_, List.getElem?_eq_getElem hkl⟩
      have hxz : x < z := lt_or (hend z hz) (fun e => h (e ▸ hz))
      match j, hj with
      | 0, hj =>
        rw [Nat.add_zero, hz] at hj
        cases hj
        exact hxz
      | j + 1, hj =>
        refine List.lt_trans hxz ?_
        have := List.pairwise_iff_getElem.1 hs k (k + (j + 1)) hkl (List.getElem?_eq_some_iff.1 hj).1 (by omega)
        rw [(List.getElem?_eq_some_iff.1 hj).2, (List.getElem?_eq_some_iff.1 hz).2] at this
        exact this
    have htake : ∀ y ∈ L.take k, y < x := fun y hy => by
      obtain ⟨j, hj⟩ := List.mem_iff_getElem?.1 hy
      rw [List.getElem?_take] at hj
      split at hj
      · exact hk j y (by assumption) hj
      · cases hj
    refine ⟨?_, fun y => ?_, ?_⟩
    · refine List.pairwise_append.2 ⟨hs.sublist (List.take_sublist _ _), List.pairwise_cons.2 ⟨hdrop, hs.sublist (List.drop_sublist _ _)⟩, fun a ha b hb => ?_⟩
      rcases List.mem_cons.1 hb with rfl | hb
      · exact htake a ha
      · exact List.lt_trans (htake a ha) (hdrop b hb)
    · have e : y ∈ L ↔ y ∈ L.take k ∨ y ∈ L.drop k := by rw [← List.mem_append, List.take_append_drop]
      rw [e, List.mem_append, List.mem_cons]
      constructor
      · rintro (h | h | h)
        · exact .inr (.inl h)
        · exact .inl h
        · exact .inr (.inr h)
      · rintro (h | h | h)
        · exact .inr (.inl h)
        · exact .inl h
        · exact .inr (.inr h)
    · rw [List.length_append, List.length_cons, List.length_take, List.length_drop]
      omega
theorem nodup_lt {L : List (List UInt8)} (hs : L.Pairwise (· < ·)) : L.Nodup := hs.imp (fun {a b} h e => by subst e; exact List.lt_irrefl _ h)
/-- What is sorted stays. -/
theorem sorted_self {L : List (List UInt8)} (hs : L.Pairwise (· < ·)) : L.mergeSort (fun x y => decide (x ≤ y)) = L :=
  List.mergeSort_of_pairwise (hs.imp (fun {a b} h => by simpa using List.le_of_lt h))
/-- The keys of a map are the list's names. -/
def KeysAre {H : Type} (D : DataW H) (L : List (List UInt8)) : Prop := L.Pairwise (· < ·) ∧ ∀ x, x ∈ L ↔ has D (.string x) = true
theorem KeysAre.nil {H : Type} : KeysAre (.map [] : DataW H) [] := ⟨List.Pairwise.nil, fun x => by simp [has]⟩
theorem KeysAre.put {H : Type} {D : DataW H} {L : List (List UInt8)} {x : List UInt8} {k : Nat} (h : KeysAre D L) (hD : IsMap D) (d : DataW H) (hk : ∀ (j : Nat) y, j < k → L[j]? = some y → y < x) (hend : ∀ y, L[k]? = some y → ¬ y < x) : KeysAre (D.put (.string x) d) (insN x L k) := by
  obtain ⟨h1, h2, _⟩ := ins_ok h.1 hk hend
  refine ⟨h1, fun y => ?_⟩
  rw [h2 y]
  by_cases e : y = x
  · subst e
    rw [has_put_same hD (show WideAt.IsKeyLit (Lit.string y) from trivial)]
    simp
  · rw [has_put_other (fun e' => e (by injection e')), ← h.2 y]
    simp [e]
theorem KeysAre.there {H : Type} {D : DataW H} {L : List (List UInt8)} (h : KeysAre D L) (x : List UInt8) : Go.Maps.has D (.string x) = decide (x ∈ L) := by
  have := h.2 x
  cases hh : Go.Maps.has D (.string x)
  · rw [hh] at this
    simp at this
    simp [this]
  · rw [hh] at this
    simp at this
    simp [this]
end Go.Tx
namespace Go.Proofs.Ytpdkjifalgeodaa
open Go.RowKit Go.Extern.Stop Go.Stop Go.Extern Go.Lib Go.Tx
/-- A block of cells of another type is neither the registry nor its map. -/
theorem RegAt.no {w : World} {K r b : Nat} {mp : Option Nat} {D : DataW Value} {cs : Array Value} {e : TypeId} {fr : Nat × Nat} (h : RegAt w K r mp D) (hb : w.heap[b]? = some (.cells cs e fr)) (he : e ≠ 98) : b ≠ r ∧ ∀ m, mp = some m → b ≠ m := by
  refine ⟨fun e' => ?_, fun m hm e' => ?_⟩
  · subst e'
    have := h.cell
    rw [hb] at this
    injection this with this
    injection this with _ this
    exact he this
  · subst e' hm
    obtain ⟨n, _, _, es, clock, ho, _⟩ := h.got
    rw [hb] at ho
    cases ho
theorem RegAt.keys {w : World} {K r m : Nat} {D : DataW Value} {L ss : List (List UInt8)} (h : RegAt w K r (some m) D) (hL : KeysAre D L) (hs : ss.Perm (strKeys D)) : ss.mergeSort leS = L := by
  obtain ⟨n, _, _, ho⟩ := h.got
  obtain ⟨es, hD, hpw, _⟩ := ho.entries keyed9
  obtain ⟨es', hD', hko⟩ := ho.keysOf
  obtain rfl : es = es' := by rw [hD] at hD'; simpa using hD'
  subst hD
  have hp := perm_strKeys hpw (fun p hp => by obtain ⟨v, hv⟩ := hko p hp; obtain ⟨x, _, hx, _⟩ := Go.Maps.keyOf_str Try.underlying9 hv; exact ⟨x, hx⟩) (nodup_lt hL.1) hL.2
  rw [show ss.mergeSort leS = L.mergeSort leS from mergeSort_of_perm (hs.trans hp.symm)]
  exact sorted_self hL.1
end Go.Proofs.Ytpdkjifalgeodaa
