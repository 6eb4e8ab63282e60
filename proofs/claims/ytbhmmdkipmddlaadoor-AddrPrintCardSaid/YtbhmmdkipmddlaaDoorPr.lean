/- Contract of the document's printing of an address: neither kind, the first kind. -/
import Derived.Test.YtbhmmdkipmddlaaDoorDe
namespace Go.Tx
theorem decG_len : ∀ (k : Nat) (s : List UInt8), (decG k s).length ≤ k + 1 + s.length := by
  intro k
  induction k using Nat.strongRecOn with
  | _ k ih =>
    intro s
    by_cases h : k = 0
    · subst h
      by_cases hs : s = []
      · subst hs; unfold decG; simp
      · rw [decG_zero s hs]; omega
    · rw [decG_pos s (by omega)]
      have := ih (k / 10) (by omega) (UInt8.ofNat (48 + k % 10) :: s)
      simp only [List.length_cons] at this
      omega
/-- The first k bytes, in decimal, points between. -/
def print4 (l : List UInt8) : Nat → List UInt8
  | 0 => []
  | k + 1 => print4 l k ++ ((if k = 0 then [] else [46]) ++ decG (l.getD k 0).toNat [])
theorem print4_step {l : List UInt8} {k : Nat} {c : UInt8} (h : l[k]? = some c) : print4 l (k + 1) = print4 l k ++ ((if k = 0 then [] else [46]) ++ decG c.toNat []) := by
  simp only [print4, List.getD_eq_getElem?_getD, h, Option.getD_some]
end Go.Tx
namespace Go.Proofs.YtbhmmdkipmddlaaDoor
open Go.RowKit Go.Lib Go.Tx
theorem print_none (s : ByteArray) (w : World) (hn : s.size ≤ 100000) (h4 : s.size ≠ 4) (h16 : s.size ≠ 16) : Calls Tryd.prog 10 #[.string s] w (TextR w []) := by
  have e4 : ((s.size : Int) == 4) = false := by simp; omega
  have e16 : ((s.size : Int) != 16) = true := by simp; omega
  go_enter Tryd.func10, Tryd.ntmps10
  go_wp2
  go_ret
  exact ⟨rfl, Below.refl _ _⟩
theorem dec_byte (c : UInt8) (w : World) : Calls Tryd.prog 20 #[.int .i64 (c.toNat : Int)] w (TextR w (decG c.toNat [])) := dec_any c.toNat w (by have := c.toNat_lt; omega)
set_option maxHeartbeats 2000000 in
set_option maxRecDepth 100000 in
theorem print_four (s : ByteArray) (w : World) (h4 : s.size = 4) : Calls Tryd.prog 10 #[.string s] w (TextR w (print4 s.data.toList 4)) := by
  go_enter Tryd.func10, Tryd.ntmps10
  go_wp2
  go_loopw [3, 4] (fun sv i wr => ∃ (k : Nat) (t : ByteArray), k ≤ 4 ∧ i = .int .i64 k ∧ sv = .string t ∧ Hid (t.data.toList = print4 s.data.toList k) ∧ t.size ≤ 300 * k ∧ Below w.heap.size w wr) (fun _ i _ => 4 - (intOf i).toNat)
  case atStart => exact ⟨0, ⟨#[]⟩, Nat.zero_le _, rfl, rfl, Lib.hid rfl, Nat.le_refl _, Below.refl _ _⟩
  case round =>
    obtain ⟨k, t, hk, rfl, rfl, ht, hsz, hb⟩ := hrel
    by_cases hlt : k < 4
    · have hc : s.data.toList[k]? = some s[k] := List.getElem?_eq_getElem (by show k < s.size; omega)
      have HS := Lib.hid (print4_step hc)
      clear hc
      have hdl := decG_len s[k].toNat []
      have hu := s[k].toNat_lt
      simp only [List.length_nil] at hdl
      obtain ⟨D, hD⟩ : ∃ D, decG s[k].toNat [] = D := ⟨_, rfl⟩
      have HD := Lib.hid hD
      rw [hD] at hdl
      clear hD
      by_cases h0 : k = 0
      · subst h0
        go_wp2_with (go_at_call 20; refine (dec_byte _ _).mono ?_; rw [HD.out]; rintro e w3 ⟨rfl, hb3⟩)
        go_roundw
        case rel => exact ⟨1, t ++ ⟨D.toArray⟩, by omega, by go_num, rfl, Lib.hid (by rw [HS.out, HD.out, ← ht.out]; simp), by rw [ByteArray.size_append]; show t.size + D.toArray.size ≤ _; simp; omega, hb.trans (hb3.mono hb.size)⟩
        case measure => simp [intOf]
      · have hp : 0 < k := by omega
        go_wp2_with (go_at_call 20; refine (dec_byte _ _).mono ?_; rw [HD.out]; rintro e w3 ⟨rfl, hb3⟩)
        go_roundw
        case rel => exact ⟨k + 1, t ++ ⟨#[46]⟩ ++ ⟨D.toArray⟩, by omega, by go_num, rfl, Lib.hid (by rw [HS.out, HD.out, ← ht.out, if_neg h0]; simp), by rw [ByteArray.size_append, ByteArray.size_append]; show t.size + 1 + D.toArray.size ≤ _; simp; omega, hb.trans (hb3.mono hb.size)⟩
        case measure => simp [intOf]; omega
    · obtain rfl : k = 4 := by omega
      go_wp2
      go_ret
      exact ⟨by rw [← ht.out]; rfl, hb⟩
end Go.Proofs.YtbhmmdkipmddlaaDoor
