/- Contract of the document's Parse, whatever the text. -/
import Derived.Test.YtbhmmdkipmddlaaDoorPe
namespace Go.Proofs.YtbhmmdkipmddlaaDoor
open Go.RowKit Go.Lib Go.Tx Go.Rb Go.Ev
theorem rparse_any (s : ByteArray) (w : World) (hn : s.size ≤ 100000) : Calls Tryd.prog 8 #[.string s] w (FourR w (parseP s.data.toList)) := by
  have hl : s.data.toList.length = s.size := rfl
  cases hf : fourP (splitL 46 s.data.toList) with
  | some f => exact parse_four s f w hn hf
  | none =>
    cases hc : (List.range s.data.toList.length).find? (ccAt s.data.toList) with
    | none =>
      have hcc : ∀ j, j + 1 < s.size → ccAt s.data.toList j = false := fun j hj => by
        have := List.find?_eq_none.1 hc j (List.mem_range.2 (by omega))
        simpa using this
      have e : parseP s.data.toList = plainP s.data.toList := by unfold parseP plainP fullP; rw [hf, hc]; cases groupsP true s.data.toList <;> rfl
      rw [e]
      exact parse_plain s w hn hf hcc
    | some q =>
      have e : parseP s.data.toList = dblP s.data.toList q := by unfold parseP; rw [hf, hc]
      rw [e]
      obtain ⟨h1, _, h3⟩ := List.find?_range_eq_some.1 hc
      have hno : ∀ j, j < q → ccAt s.data.toList j = false := fun j hj => by simpa using h3 j hj
      have hq : q + 1 < s.size := by
        unfold ccAt at h1
        simp only [Bool.and_eq_true, decide_eq_true_eq] at h1
        have := (List.getElem?_eq_some_iff.1 h1.2).1
        omega
      unfold dblP
      cases hA : groupsP false (s.data.toList.take q) with
      | none =>
        cases hB : groupsP true (s.data.toList.drop (q + 2)) with
        | none => exact dbl_nn s w q hn hf hq hno h1 hA hB
        | some b => exact dbl_ns s w q hn hf hq hno h1 b hA hB
      | some a =>
        cases hB : groupsP true (s.data.toList.drop (q + 2)) with
        | none => exact dbl_sn s w q hn hf hq hno h1 a hA hB
        | some b =>
          simp only
          by_cases h14 : 14 < a.length + b.length
          · rw [if_pos h14]
            exact dbl_long s w q hn hf hq hno h1 a b hA hB h14
          · rw [if_neg h14]
            by_cases hb : 0 < b.length
            · exact dbl_full s w q hn hf hq hno h1 a b hA hB (by omega) hb
            · have : b = [] := List.eq_nil_of_length_eq_zero (by omega)
              subst this
              exact dbl_full0 s w q hn hf hq hno h1 a hA hB (by simpa using h14)
end Go.Proofs.YtbhmmdkipmddlaaDoor
