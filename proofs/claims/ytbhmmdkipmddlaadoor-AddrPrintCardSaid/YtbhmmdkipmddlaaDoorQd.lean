/- The law's cut; how long an address is. -/
import Derived.Test.YtbhmmdkipmddlaaDoorQc
namespace Go.Tx
theorem parseP_len {l f : List UInt8} (h : parseP l = some f) : f.length = 4 ∨ f.length = 16 := by
  unfold parseP at h
  cases h1 : fourP (splitL 46 l) with
  | some g =>
    rw [h1] at h
    cases h
    exact .inl (fourP_len h1)
  | none =>
    rw [h1] at h
    simp only at h
    cases h2 : (List.range l.length).find? (ccAt l) with
    | some k =>
      rw [h2] at h
      simp only [dblP] at h
      cases h3 : groupsP false (l.take k) with
      | none => rw [h3] at h; cases h
      | some a =>
        cases h4 : groupsP true (l.drop (k + 2)) with
        | none => rw [h3, h4] at h; cases h
        | some b =>
          rw [h3, h4] at h
          simp only at h
          split at h
          · cases h
          · cases h
            right
            simp
            omega
    | none =>
      rw [h2] at h
      simp only at h
      cases h3 : groupsP true l with
      | none => rw [h3] at h; cases h
      | some b =>
        rw [h3] at h
        simp only at h
        split at h
        · cases h; right; assumption
        · cases h
end Go.Tx
namespace Go.Proofs.YtbhmmdkipmddlaaDoor
open Go.RowKit Go.Lib Go.Tx Go.Rb
theorem cutq_any (s : ByteArray) (n : Nat) (hs : s.size ≤ maxLen) : ∃ t : ByteArray, t.size ≤ n ∧ ∀ w : World, Calls Tryd.prog 6 #[.string s, .int .i64 n] w fun e w' => e = .returned (.string t) ∧ w = w' := by
  by_cases h : s.size ≤ n
  · exact ⟨s, h, fun w => (cut_short s n w hs (by omega)).mono fun e w' ⟨a, b⟩ => ⟨a, b.symm⟩⟩
  · exact ⟨s.extract 0 n, by rw [ByteArray.size_extract]; omega, fun w => (cut_long s n w hs (by omega)).mono fun e w' ⟨a, b⟩ => ⟨a, b.symm⟩⟩
end Go.Proofs.YtbhmmdkipmddlaaDoor
