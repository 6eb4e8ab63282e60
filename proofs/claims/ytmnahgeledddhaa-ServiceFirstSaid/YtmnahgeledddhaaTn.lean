/- Contracts of Num, the program's and the document's, at every text. -/
import Derived.Test.YtmnahgeledddhaaTx
namespace Go.Proofs.Ytmnahgeledddhaa
open Go.RowKit Go.Lib Go.Tx
theorem size_len (s : ByteArray) : s.data.toList.length = s.size := rfl
theorem num_any (s : ByteArray) (m : Int) (w : World) (hs : s.size ≤ maxLen) :
    Calls Try.prog 34 #[.string s, .int .i64 m] w fun e w' => e = .returned (.tuple #[.int .i64 (numRes s.data.toList m).1, .bool (numRes s.data.toList m).2]) ∧ Below w.heap.size w w' := by
  have hl := size_len s
  by_cases h0 : s.size = 0
  · refine (num_nil s m w h0).mono ?_
    rintro e w' ⟨rfl, rfl⟩
    exact ⟨ret_num (numRes_nil _ _ (List.eq_nil_of_length_eq_zero (by omega))), Below.refl _ _⟩
  by_cases h9 : 9 < s.size
  · refine (num_len s m w hs h9).mono ?_
    rintro e w' ⟨rfl, rfl⟩
    exact ⟨ret_num (numRes_len _ _ (by omega)), Below.refl _ _⟩
  cases hz : ((s[0].toNat : Int) == 48) with
  | false => exact num_loop s m w (by omega) (by omega) (.inl hz)
  | true =>
    by_cases h1 : 1 < s.size
    · refine (num_zero s m w h1 (by omega) hz).mono ?_
      rintro e w' ⟨rfl, rfl⟩
      refine ⟨ret_num (numRes_zero _ _ (by omega) ?_), Below.refl _ _⟩
      rw [head_eq s (by omega)]
      rw [u8_48] at hz
      rw [eq_of_beq hz]
    · refine num_loop s m w (by omega) (by omega) (.inr ⟨hz, ?_⟩)
      have h2 : s.data.toList = [s[0]] := by
        apply List.ext_getElem?
        intro j
        cases j with
        | zero => rw [List.getElem?_eq_getElem (by omega)]; rfl
        | succ j => rw [List.getElem?_eq_none (by omega), List.getElem?_eq_none (by simp)]
      rw [u8_48] at hz
      rw [toList_data, h2, eq_of_beq hz]
      rfl
theorem rnum_any (s : ByteArray) (m : Int) (w : World) (hs : s.size ≤ maxLen) :
    Calls Try.prog 26 #[.string s, .int .i64 m] w fun e w' => e = .returned (.tuple #[.int .i64 (numRes s.data.toList m).1, .bool (numRes s.data.toList m).2]) ∧ w' = w := by
  have hl := size_len s
  by_cases h0 : s.size = 0
  · refine (rnum_nil s m w h0).mono ?_
    rintro e w' ⟨rfl, rfl⟩
    exact ⟨ret_num (numRes_nil _ _ (List.eq_nil_of_length_eq_zero (by omega))), rfl⟩
  by_cases h9 : 9 < s.size
  · refine (rnum_len s m w hs h9).mono ?_
    rintro e w' ⟨rfl, rfl⟩
    exact ⟨ret_num (numRes_len _ _ (by omega)), rfl⟩
  cases hz : ((s[0].toNat : Int) == 48) with
  | false => exact rnum_loop s m w (by omega) (by omega) (.inl hz)
  | true =>
    by_cases h1 : 1 < s.size
    · refine (rnum_zero s m w h1 (by omega) (eq_of_beq hz)).mono ?_
      rintro e w' ⟨rfl, rfl⟩
      refine ⟨ret_num (numRes_zero _ _ (by omega) ?_), rfl⟩
      rw [head_eq s (by omega)]
      rw [u8_48] at hz
      rw [eq_of_beq hz]
    · exact rnum_loop s m w (by omega) (by omega) (.inr ⟨hz, by omega⟩)
end Go.Proofs.Ytmnahgeledddhaa
