/- Plain facts of how far two texts are alike. -/
import Derived.KernelRfl
import Derived.Lib.Bytes
import Derived.Lib.BitFns
import Derived.Laws.BitsAllLaws
namespace Go.Am
open Go
/-- How many bits are alike. -/
def alk : List UInt8 → List UInt8 → Nat
  | x :: l, y :: m => if x = y then 8 + alk l m else 8 - Lib.bitLen (x.toNat ^^^ y.toNat)
  | _, _ => 0
theorem xor_same (x : UInt8) : bits .xor .u8 (x.toNat : Int) (x.toNat : Int) = 0 := by
  rw [u8_xor_nat _ _ x.toNat_lt x.toNat_lt, Nat.xor_self]; rfl
theorem xor_ne {x y : UInt8} (h : x ≠ y) : ∃ d : Nat, bits .xor .u8 (x.toNat : Int) (y.toNat : Int) = (d : Int) ∧ d = x.toNat ^^^ y.toNat ∧ 0 < d ∧ d < 256 := by
  refine ⟨x.toNat ^^^ y.toNat, u8_xor_nat _ _ x.toNat_lt y.toNat_lt, rfl, ?_, Nat.xor_lt_two_pow (n := 8) x.toNat_lt y.toNat_lt⟩
  rcases Nat.eq_zero_or_pos (x.toNat ^^^ y.toNat) with h0 | h0
  · refine absurd (UInt8.toNat_inj.1 ?_) h
    have h1 : x.toNat ^^^ (x.toNat ^^^ y.toNat) = x.toNat := by rw [h0, Nat.xor_zero]
    rw [← Nat.xor_assoc, Nat.xor_self, Nat.zero_xor] at h1
    exact h1.symm
  · exact h0
theorem alk_self : ∀ l : List UInt8, alk l l = 8 * l.length
  | [] => rfl
  | x :: l => by unfold alk; rw [if_pos rfl, alk_self l]; simp; omega
theorem bitLen_pos (d : Nat) (h0 : 0 < d) (h : d < 256) : 0 < Lib.bitLen d := by
  have : ∀ n : Fin 256, 0 < n.val → 0 < Lib.bitLen n.val := by decide +kernel
  exact this ⟨d, h⟩ h0
theorem xor_pos {x y : UInt8} (h : x ≠ y) : 0 < Lib.bitLen (x.toNat ^^^ y.toNat) := by
  obtain ⟨d, _, e, h1, h2⟩ := xor_ne h
  subst e
  exact bitLen_pos _ h1 h2
theorem alk_le : ∀ l m : List UInt8, l.length = m.length → alk l m ≤ 8 * l.length
  | [], [], _ => Nat.le_refl _
  | [], _ :: _, h => by simp at h
  | _ :: _, [], h => by simp at h
  | x :: l, y :: m, h => by
    unfold alk
    have := alk_le l m (by simpa using h)
    split <;> simp <;> omega
theorem alk_eq : ∀ l m : List UInt8, l.length = m.length → (alk l m = 8 * l.length ↔ l = m)
  | [], [], _ => by simp [alk]
  | [], _ :: _, h => by simp at h
  | _ :: _, [], h => by simp at h
  | x :: l, y :: m, h => by
    have ih := alk_eq l m (by simpa using h)
    have hl := alk_le l m (by simpa using h)
    unfold alk
    split
    · rename_i e
      subst e
      rw [List.length_cons, show 8 * (l.length + 1) = 8 + 8 * l.length by omega]
      simp [ih]
    · rename_i e
      have := xor_pos e
      constructor
      · intro h2; simp at h2; omega
      · intro h2; cases h2; exact absurd rfl e
theorem alk_step {l m : List UInt8} {k : Nat} {x y : UInt8} (hx : l[k]? = some x) (hy : m[k]? = some y) (he : x = y) : alk (l.drop k) (m.drop k) = 8 + alk (l.drop (k + 1)) (m.drop (k + 1)) := by
  obtain ⟨h1, rfl⟩ := List.getElem?_eq_some_iff.1 hx
  obtain ⟨h2, rfl⟩ := List.getElem?_eq_some_iff.1 hy
  rw [List.drop_eq_getElem_cons h1, List.drop_eq_getElem_cons h2]
  conv => lhs; unfold alk
  rw [if_pos he]
theorem alk_end {l m : List UInt8} {k : Nat} {x y : UInt8} (hx : l[k]? = some x) (hy : m[k]? = some y) (he : x ≠ y) : alk (l.drop k) (m.drop k) = 8 - Lib.bitLen (x.toNat ^^^ y.toNat) := by
  obtain ⟨h1, rfl⟩ := List.getElem?_eq_some_iff.1 hx
  obtain ⟨h2, rfl⟩ := List.getElem?_eq_some_iff.1 hy
  rw [List.drop_eq_getElem_cons h1, List.drop_eq_getElem_cons h2]
  conv => lhs; unfold alk
  rw [if_neg he]
theorem at_list (s : ByteArray) (k : Nat) (h : k < s.size) : s.data.toList[k]? = some s[k] := by
  rw [List.getElem?_eq_getElem (by simpa using h)]; rfl
theorem drop_all (s : ByteArray) : s.data.toList.drop s.size = [] := List.drop_eq_nil_of_le (by simp)
end Go.Am
