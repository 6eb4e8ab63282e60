/- Contracts of small functions of texts. -/
import Derived.Test.YtmnahgeledddhaaRows
import Derived.Test.YtmnahgeledddhaaTm
import Derived.WalkKit
import Derived.LoopTactic
import Derived.Below
import Derived.Laws.IdiomStrings
import Derived.Lib.Hide
import Derived.Laws.AppendOwn
namespace Go.Proofs.Ytmnahgeledddhaa
open Go.RowKit Go.Lib Go.Tx


theorem cut_short (s : ByteArray) (n : Int) (w : World) (hs : s.size ≤ maxLen) (h : (s.size : Int) ≤ n) :
    Calls Try.prog 8 #[.string s, .int .i64 n] w fun e w' => e = .returned (.string s) ∧ w' = w := by
  unfold maxLen at hs
  go_enter Try.func8, Try.ntmps8
  go_wp2
  go_ret
  exact ⟨rfl, rfl⟩
theorem cut_long (s : ByteArray) (n : Nat) (w : World) (hs : s.size ≤ maxLen) (h : n < s.size) :
    Calls Try.prog 8 #[.string s, .int .i64 n] w fun e w' => e = .returned (.string (s.extract 0 n)) ∧ w' = w := by
  unfold maxLen at hs
  go_enter Try.func8, Try.ntmps8
  go_wp2
  go_ret
  exact ⟨rfl, rfl⟩
theorem num_len (s : ByteArray) (m : Int) (w : World) (hs : s.size ≤ maxLen) (h : 9 < s.size) :
    Calls Try.prog 34 #[.string s, .int .i64 m] w fun e w' => e = .returned (.tuple #[.int .i64 0, .bool false]) ∧ w' = w := by
  unfold maxLen at hs
  go_enter Try.func34, Try.ntmps34
  go_wp2
  all_goals (go_ret2; exact ⟨rfl, rfl⟩)
theorem rnum_nil (s : ByteArray) (m : Int) (w : World) (h : s.size = 0) :
    Calls Try.prog 26 #[.string s, .int .i64 m] w fun e w' => e = .returned (.tuple #[.int .i64 0, .bool false]) ∧ w' = w := by
  go_enter Try.func26, Try.ntmps26
  go_wp2
  all_goals (go_ret2; exact ⟨rfl, rfl⟩)
theorem rnum_len (s : ByteArray) (m : Int) (w : World) (hs : s.size ≤ maxLen) (h : 9 < s.size) :
    Calls Try.prog 26 #[.string s, .int .i64 m] w fun e w' => e = .returned (.tuple #[.int .i64 0, .bool false]) ∧ w' = w := by
  unfold maxLen at hs
  go_enter Try.func26, Try.ntmps26
  go_wp2
  all_goals (go_ret2; exact ⟨rfl, rfl⟩)
theorem rnum_zero (s : ByteArray) (m : Int) (w : World) (h1 : 1 < s.size) (h9 : s.size ≤ 9) (h0 : (s[0].toNat : Int) = 48) :
    Calls Try.prog 26 #[.string s, .int .i64 m] w fun e w' => e = .returned (.tuple #[.int .i64 0, .bool false]) ∧ w' = w := by
  have h48 : ((s[0].toNat : Int) == 48) = true := by simp [h0]
  clear h0
  go_enter Try.func26, Try.ntmps26
  go_wp2
  all_goals (go_ret2; exact ⟨rfl, rfl⟩)
theorem num_nil (s : ByteArray) (m : Int) (w : World) (h : s.size = 0) :
    Calls Try.prog 34 #[.string s, .int .i64 m] w fun e w' => e = .returned (.tuple #[.int .i64 0, .bool false]) ∧ w' = w := by
  have h1 : s.toList = [] := by
    cases hh : s.toList with
    | nil => rfl
    | cons a l => rw [toList_data] at hh; have := congrArg List.length hh; simp at this; omega
  go_enter Try.func34, Try.ntmps34
  go_wp2
  all_goals (go_ret2; exact ⟨rfl, rfl⟩)
theorem conv_any (s : ByteArray) (w : World) : ∃ (cap : Nat) (C : Array Value), (convert 9 22 (.string s)).run Try.prog w = .ok (.slice (some ⟨w.heap.size, 0, none⟩) s.size cap) (w.drew.alloc (.cells C 5 (C.size, C.size + 1))) ∧
    C.size = cap ∧ s.size ≤ cap ∧ (∀ (k : Nat) (h : k < s.size), C[k]? = some (.int .u8 (s[k].toNat : Int))) ∧ (∀ k, s.size ≤ k → k < cap → C[k]? = some (.int .u8 0)) := by
  have hge := grownCap_ge w s.size 0 5
  refine ⟨grownCap w s.size 0 5, bytesRow s (grownCap w s.size 0 5), run_bytes_of_string w 9 22 5 s Try.underlying9 Try.underlying22 Try.underlying5, ?_, hge, fun k h => ?_, fun k h1 h2 => ?_⟩
  · have : s.data.size = s.size := rfl
    simp [bytesRow, this]; omega
  · exact bytesRow_at s _ k h
  · have : s.data.size = s.size := rfl
    simp only [bytesRow]
    rw [Array.getElem?_append, if_neg (by simp [this]; omega)]
    rw [Array.getElem?_replicate, if_pos (by simp [this]; omega)]
theorem ret_num {l : List UInt8} {m a : Int} {b : Bool} (h : numRes l m = (a, b)) : Ending.returned (.tuple #[.int .i64 a, .bool b]) = .returned (.tuple #[.int .i64 (numRes l m).1, .bool (numRes l m).2]) := by rw [h]
theorem cell_new {w : World} {C : Array Value} {e : TypeId} {fr : Nat × Nat} {k : Nat} {v : Value} (h : C[k]? = some v) : (w.alloc (.cells C e fr)).cell? ⟨w.heap.size, k, none⟩ = some v := by
  rw [World.cell?_alloc_mark]; exact h
theorem head_eq (s : ByteArray) (h1 : 1 ≤ s.size) : s.data.toList.head? = some s[0] := by
  rw [List.head?_eq_getElem?]
  have : s.data.toList.length = s.size := rfl
  rw [List.getElem?_eq_getElem (by omega)]
  rfl
theorem u8_48 (c : UInt8) : ((c.toNat : Int) == 48) = (c == 48) := by
  by_cases h : c = 48
  · subst h; rfl
  · rw [beq_eq_false_iff_ne.2 h, beq_eq_false_iff_ne]
    intro h2
    exact h (UInt8.toNat_inj.1 (by show c.toNat = 48; omega))
theorem head_ok (s : ByteArray) (h1 : 1 ≤ s.size) (h0 : ((s[0].toNat : Int) == 48) = false ∨ (((s[0].toNat : Int) == 48) = true ∧ (!s.toList == [48]) = false)) : ¬ (s.data.toList.head? = some 48 ∧ 1 < s.data.toList.length) := by
  rintro ⟨h2, h3⟩
  rw [head_eq s h1] at h2
  rcases h0 with h0 | ⟨_, h0⟩
  · rw [u8_48] at h0
    simp at h0 h2
    exact h0 h2
  · rw [toList_data] at h0
    simp at h0
    rw [h0] at h3
    simp at h3
set_option maxRecDepth 100000 in
theorem num_zero (s : ByteArray) (m : Int) (w : World) (h1 : 1 < s.size) (h9 : s.size ≤ 9) (h0 : ((s[0].toNat : Int) == 48) = true) :
    Calls Try.prog 34 #[.string s, .int .i64 m] w fun e w' => e = .returned (.tuple #[.int .i64 0, .bool false]) ∧ w' = w := by
  have hl : s.toList.length = s.size := by rw [toList_data]; rfl
  have e1 : s.toList.isEmpty = false := by
    cases hh : s.toList with
    | nil => rw [hh] at hl; simp at hl; omega
    | cons a l => rfl
  have e2 : ¬ s.toList = [] := by
    intro hh; rw [hh] at hl; simp at hl; omega
  have e3 : (!s.toList == [48]) = true := by
    simp only [Bool.not_eq_true', beq_eq_false_iff_ne]
    intro hh; rw [hh] at hl; simp at hl; omega
  clear hl
  go_enter Try.func34, Try.ntmps34
  go_wp2
  all_goals (go_ret2; exact ⟨rfl, rfl⟩)
set_option maxHeartbeats 1000000 in
set_option maxRecDepth 100000 in
theorem num_loop (s : ByteArray) (m : Int) (w : World) (h1 : 1 ≤ s.size) (h9 : s.size ≤ 9) (h0 : ((s[0].toNat : Int) == 48) = false ∨ (((s[0].toNat : Int) == 48) = true ∧ (!s.toList == [48]) = false)) :
    Calls Try.prog 34 #[.string s, .int .i64 m] w fun e w' => e = .returned (.tuple #[.int .i64 (numRes s.data.toList m).1, .bool (numRes s.data.toList m).2]) ∧ Below w.heap.size w w' := by
  have hl : s.toList.length = s.size := by rw [toList_data]; rfl
  have e1 : s.toList.isEmpty = false := by
    cases hh : s.toList with
    | nil => rw [hh] at hl; simp at hl; omega
    | cons a l => rfl
  have e2 : ¬ s.toList = [] := by
    intro hh; rw [hh] at hl; simp at hl; omega
  clear hl
  obtain ⟨cap, C, hconv, hC1, hC2, hC3, _⟩ := conv_any s w
  have HC1 := Lib.hid hC1
  have HC3 := Lib.hid hC3
  clear hC1 hC3
  have HZ : Hid (¬ (s.data.toList.head? = some 48 ∧ 1 < s.data.toList.length)) := Lib.hid (head_ok s h1 h0)
  rcases h0 with h0 | ⟨h0, h0'⟩
  all_goals
    go_enter Try.func34, Try.ntmps34
    go_wp2
    go_loop [6, 28] (fun n i => ∃ k : Nat, k ≤ s.size ∧ i = .int .i64 k ∧ n = .int .i64 (val (s.data.toList.take k)) ∧ (s.data.toList.take k).all dig = true) (fun _ i => s.size - (intOf i).toNat)
    case atStart => exact ⟨0, Nat.zero_le _, rfl, rfl, rfl⟩
    case round =>
      obtain ⟨k, hk, rfl, rfl, hall⟩ := hrel
      have hbd := val_bd s k hall h9
      have HALL := Lib.hid hall
      clear hall
      by_cases hlt : k < s.size
      · have hcell := cell_new (w := w) (e := 5) (fr := (C.size, C.size + 1)) (HC3.out k hlt)
        by_cases hlo : (s[k].toNat : Int) < 48
        · go_wp2
          go_ret2
          exact ⟨ret_num (numRes_no _ _ (all_no s k hlt (dig_lo _ hlo))), ((Below.refl _ _).alloc (Nat.le_refl _) _).drew⟩
        · by_cases hhi : 57 < (s[k].toNat : Int)
          · have hlo : 48 ≤ (s[k].toNat : Int) := by omega
            go_wp2
            go_ret2
            exact ⟨ret_num (numRes_no _ _ (all_no s k hlt (dig_hi _ hhi))), ((Below.refl _ _).alloc (Nat.le_refl _) _).drew⟩
          · have hlo : 48 ≤ (s[k].toNat : Int) := by omega
            have hhi : (s[k].toNat : Int) ≤ 57 := by omega
            have HS := Lib.hid (val_step s k hlt (dig_of _ hlo hhi))
            have HA := Lib.hid (all_step s k hlt)
            have hk1 : k + 1 ≤ s.size := hlt
            have HK1 := Lib.hid hk1
            clear hk1
            go_wp2
            go_round
            case rel => exact ⟨k + 1, HK1.out, by go_num, by rw [HS.out], by rw [HA.out, HALL.out, dig_of _ hlo hhi]; rfl⟩
            case measure => simp [intOf]; omega
      · go_wp2
        all_goals
          go_ret2
          have hkk : k = s.size := by omega
          have hall : s.data.toList.all dig = true := by rw [← take_all s k (by omega)]; exact HALL.out
          refine ⟨ret_num ?_, ((Below.refl _ _).alloc (Nat.le_refl _) _).drew⟩
          have ht := take_all s k (by omega)
          rw [numRes_ok _ _ h1 h9 HZ.out hall]
          try rw [ht]
          rw [← ht]
          first | rw [if_pos (by assumption)] | rw [if_neg (by omega)]
set_option maxHeartbeats 1000000 in
set_option maxRecDepth 100000 in
theorem rnum_loop (s : ByteArray) (m : Int) (w : World) (h1 : 1 ≤ s.size) (h9 : s.size ≤ 9) (h0 : ((s[0].toNat : Int) == 48) = false ∨ (((s[0].toNat : Int) == 48) = true ∧ (s.size : Int) ≤ 1)) :
    Calls Try.prog 26 #[.string s, .int .i64 m] w fun e w' => e = .returned (.tuple #[.int .i64 (numRes s.data.toList m).1, .bool (numRes s.data.toList m).2]) ∧ w' = w := by
  have HZ : Hid (¬ (s.data.toList.head? = some 48 ∧ 1 < s.data.toList.length)) := Lib.hid (by
    rintro ⟨h2, h3⟩
    rw [head_eq s h1] at h2
    have : s.data.toList.length = s.size := rfl
    rcases h0 with h0 | ⟨_, h0⟩
    · rw [u8_48] at h0
      simp at h0 h2
      exact h0 h2
    · omega)
  rcases h0 with h0 | ⟨h0, h0'⟩
  all_goals
    go_enter Try.func26, Try.ntmps26
    go_wp2
    go_loop [6, 7] (fun n i => ∃ k : Nat, k ≤ s.size ∧ i = .int .i64 k ∧ n = .int .i64 (val (s.data.toList.take k)) ∧ (s.data.toList.take k).all dig = true) (fun _ i => s.size - (intOf i).toNat)
    case atStart => exact ⟨0, Nat.zero_le _, rfl, rfl, rfl⟩
    case round =>
      obtain ⟨k, hk, rfl, rfl, hall⟩ := hrel
      have hbd := val_bd s k hall h9
      have HALL := Lib.hid hall
      clear hall
      by_cases hlt : k < s.size
      · by_cases hlo : (s[k].toNat : Int) < 48
        · go_wp2
          go_ret2
          exact ⟨ret_num (numRes_no _ _ (all_no s k hlt (dig_lo _ hlo))), rfl⟩
        · by_cases hhi : 57 < (s[k].toNat : Int)
          · have hlo : 48 ≤ (s[k].toNat : Int) := by omega
            go_wp2
            go_ret2
            exact ⟨ret_num (numRes_no _ _ (all_no s k hlt (dig_hi _ hhi))), rfl⟩
          · have hlo : 48 ≤ (s[k].toNat : Int) := by omega
            have hhi : (s[k].toNat : Int) ≤ 57 := by omega
            have HS := Lib.hid (val_step s k hlt (dig_of _ hlo hhi))
            have HA := Lib.hid (all_step s k hlt)
            have hk1 : k + 1 ≤ s.size := hlt
            have HK1 := Lib.hid hk1
            clear hk1
            go_wp2
            go_round
            case rel => exact ⟨k + 1, HK1.out, by go_num, by rw [HS.out, Int.mul_comm], by rw [HA.out, HALL.out, dig_of _ hlo hhi]; rfl⟩
            case measure => simp [intOf]; omega
      · go_wp2
        all_goals
          go_ret2
          have hkk : k = s.size := by omega
          have hall : s.data.toList.all dig = true := by rw [← take_all s k (by omega)]; exact HALL.out
          refine ⟨ret_num ?_, rfl⟩
          have ht := take_all s k (by omega)
          rw [numRes_ok _ _ h1 h9 HZ.out hall]
          try rw [ht]
          rw [← ht]
          first | rw [if_pos (by assumption)] | rw [if_neg (by omega)]
end Go.Proofs.Ytmnahgeledddhaa
