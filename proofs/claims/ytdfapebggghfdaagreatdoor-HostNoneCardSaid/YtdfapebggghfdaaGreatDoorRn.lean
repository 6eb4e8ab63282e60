/- Contracts of the document's Num, and of a text cut short. -/
import Derived.Test.YtdfapebggghfdaaGreatDoorRows
import Derived.Test.YtdfapebggghfdaaGreatDoorTm
import Derived.WalkKit
import Derived.LoopTactic
import Derived.Below
import Derived.Lib.Hide
namespace Go.Proofs.YtdfapebggghfdaaGreatDoor
open Go.RowKit Go.Lib Go.Tx
theorem cut_short (s : ByteArray) (n : Int) (w : World) (hs : s.size ≤ maxLen) (h : (s.size : Int) ≤ n) :
    Calls Tryz.prog 9 #[.string s, .int .i64 n] w fun e w' => e = .returned (.string s) ∧ w' = w := by
  unfold maxLen at hs
  go_enter Tryz.func9, Tryz.ntmps9
  go_wp2
  go_ret
  exact ⟨rfl, rfl⟩
theorem cut_long (s : ByteArray) (n : Nat) (w : World) (hs : s.size ≤ maxLen) (h : n < s.size) :
    Calls Tryz.prog 9 #[.string s, .int .i64 n] w fun e w' => e = .returned (.string (s.extract 0 n)) ∧ w' = w := by
  unfold maxLen at hs
  go_enter Tryz.func9, Tryz.ntmps9
  go_wp2
  go_ret
  exact ⟨rfl, rfl⟩
theorem ret_num {l : List UInt8} {m a : Int} {b : Bool} (h : numRes l m = (a, b)) : Ending.returned (.tuple #[.int .i64 a, .bool b]) = .returned (.tuple #[.int .i64 (numRes l m).1, .bool (numRes l m).2]) := by rw [h]
theorem head_eq (s : ByteArray) (h1 : 1 ≤ s.size) : s.data.toList.head? = some s[0] := by
  rw [List.head?_eq_getElem?]
  have : s.data.toList.length = s.size := rfl
  rw [List.getElem?_eq_getElem (by omega)]
  rfl
theorem u8_48 (c : UInt8) : ((c.toNat : Int) == 48) = (c == 48) := by
  by_cases h : c = 48
  · subst h; rfl
  · rw [beq_eq_false_iff_ne.2 h, beq_eq_false_iff_ne]
    intro h2
    exact h (UInt8.toNat_inj.1 (by show c.toNat = 48; omega))
theorem rnum_nil (s : ByteArray) (m : Int) (w : World) (h : s.size = 0) :
    Calls Tryz.prog 58 #[.string s, .int .i64 m] w fun e w' => e = .returned (.tuple #[.int .i64 0, .bool false]) ∧ w' = w := by
  go_enter Tryz.func58, Tryz.ntmps58
  go_wp2
  all_goals (go_ret2; exact ⟨rfl, rfl⟩)
theorem rnum_len (s : ByteArray) (m : Int) (w : World) (hs : s.size ≤ maxLen) (h : 9 < s.size) :
    Calls Tryz.prog 58 #[.string s, .int .i64 m] w fun e w' => e = .returned (.tuple #[.int .i64 0, .bool false]) ∧ w' = w := by
  unfold maxLen at hs
  go_enter Tryz.func58, Tryz.ntmps58
  go_wp2
  all_goals (go_ret2; exact ⟨rfl, rfl⟩)
theorem rnum_zero (s : ByteArray) (m : Int) (w : World) (h1 : 1 < s.size) (h9 : s.size ≤ 9) (h0 : (s[0].toNat : Int) = 48) :
    Calls Tryz.prog 58 #[.string s, .int .i64 m] w fun e w' => e = .returned (.tuple #[.int .i64 0, .bool false]) ∧ w' = w := by
  have h48 : ((s[0].toNat : Int) == 48) = true := by simp [h0]
  clear h0
  go_enter Tryz.func58, Tryz.ntmps58
  go_wp2
  all_goals (go_ret2; exact ⟨rfl, rfl⟩)
theorem rnum_loop (s : ByteArray) (m : Int) (w : World) (h1 : 1 ≤ s.size) (h9 : s.size ≤ 9) (h0 : ((s[0].toNat : Int) == 48) = false ∨ (((s[0].toNat : Int) == 48) = true ∧ (s.size : Int) ≤ 1)) :
    Calls Tryz.prog 58 #[.string s, .int .i64 m] w fun e w' => e = .returned (.tuple #[.int .i64 (numRes s.data.toList m).1, .bool (numRes s.data.toList m).2]) ∧ w' = w := by
  have HZ : Hid (¬ (s.data.toList.head? = some 48 ∧ 1 < s.data.toList.length)) := Lib.hid (by
    rintro ⟨h2, h3⟩
    rw [head_eq s h1] at h2
    have : s.data.toList.length = s.size := rfl
    rcases h0 with h0 | ⟨_, h0⟩
    · rw [u8_48] at h0
      simp at h0 h2
      exact h0 h2
    · omega)
  rcases h0 with h0 | ⟨h0, h0'⟩
  all_goals
    go_enter Tryz.func58, Tryz.ntmps58
    go_wp2
    go_loop [6, 7] (fun n i => ∃ k : Nat, k ≤ s.size ∧ i = .int .i64 k ∧ n = .int .i64 (val (s.data.toList.take k)) ∧ (s.data.toList.take k).all dig = true) (fun _ i => s.size - (intOf i).toNat)
    case atStart => exact ⟨0, Nat.zero_le _, rfl, rfl, rfl⟩
    case round =>
      obtain ⟨k, hk, rfl, rfl, hall⟩ := hrel
      have hbd := val_bd s k hall h9
      have HALL := Lib.hid hall
      clear hall
      by_cases hlt : k < s.size
      · by_cases hlo : (s[k].toNat : Int) < 48
        · go_wp2
          go_ret2
          exact ⟨ret_num (numRes_no _ _ (all_no s k hlt (dig_lo _ hlo))), rfl⟩
        · by_cases hhi : 57 < (s[k].toNat : Int)
          · have hlo : 48 ≤ (s[k].toNat : Int) := by omega
            go_wp2
            go_ret2
            exact ⟨ret_num (numRes_no _ _ (all_no s k hlt (dig_hi _ hhi))), rfl⟩
          · have hlo : 48 ≤ (s[k].toNat : Int) := by omega
            have hhi : (s[k].toNat : Int) ≤ 57 := by omega
            have HS := Lib.hid (val_step s k hlt (dig_of _ hlo hhi))
            have HA := Lib.hid (all_step s k hlt)
            have hk1 : k + 1 ≤ s.size := hlt
            have HK1 := Lib.hid hk1
            clear hk1
            go_wp2
            go_round
            case rel => exact ⟨k + 1, HK1.out, by go_num, by rw [HS.out, Int.mul_comm], by rw [HA.out, HALL.out, dig_of _ hlo hhi]; rfl⟩
            case measure => simp [intOf]; omega
      · go_wp2
        all_goals
          go_ret2
          have hkk : k = s.size := by omega
          have hall : s.data.toList.all dig = true := by rw [← take_all s k (by omega)]; exact HALL.out
          refine ⟨ret_num ?_, rfl⟩
          have ht := take_all s k (by omega)
          rw [numRes_ok _ _ h1 h9 HZ.out hall]
          try rw [ht]
          rw [← ht]
          first | rw [if_pos (by assumption)] | rw [if_neg (by omega)]
theorem size_len (s : ByteArray) : s.data.toList.length = s.size := rfl
theorem rnum_any (s : ByteArray) (m : Int) (w : World) (hs : s.size ≤ maxLen) :
    Calls Tryz.prog 58 #[.string s, .int .i64 m] w fun e w' => e = .returned (.tuple #[.int .i64 (numRes s.data.toList m).1, .bool (numRes s.data.toList m).2]) ∧ w' = w := by
  have hl := size_len s
  by_cases h0 : s.size = 0
  · refine (rnum_nil s m w h0).mono ?_
    rintro e w' ⟨rfl, rfl⟩
    exact ⟨ret_num (numRes_nil _ _ (List.eq_nil_of_length_eq_zero (by omega))), rfl⟩
  by_cases h9 : 9 < s.size
  · refine (rnum_len s m w hs h9).mono ?_
    rintro e w' ⟨rfl, rfl⟩
    exact ⟨ret_num (numRes_len _ _ (by omega)), rfl⟩
  cases hz : ((s[0].toNat : Int) == 48) with
  | false => exact rnum_loop s m w (by omega) (by omega) (.inl hz)
  | true =>
    by_cases h1 : 1 < s.size
    · refine (rnum_zero s m w h1 (by omega) (eq_of_beq hz)).mono ?_
      rintro e w' ⟨rfl, rfl⟩
      refine ⟨ret_num (numRes_zero _ _ (by omega) ?_), rfl⟩
      rw [head_eq s (by omega)]
      rw [u8_48] at hz
      rw [eq_of_beq hz]
    · exact rnum_loop s m w (by omega) (by omega) (.inr ⟨hz, by omega⟩)
end Go.Proofs.YtdfapebggghfdaaGreatDoor
