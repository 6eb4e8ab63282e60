/- Contracts of the document's side of names: letters. -/
import Derived.Test.YtmnahgeledddhaaChecked
import Derived.Test.YtmnahgeledddhaaNm
import Derived.Test.YtmnahgeledddhaaTr
import Derived.WalkKit
import Derived.LoopTactic
namespace Go.Proofs.Ytmnahgeledddhaa
open Go.RowKit Go.Lib Go.Tx
def alnum (x : Nat) : Bool := (decide (97 ≤ (x : Int)) && decide ((x : Int) ≤ 122)) || (decide (65 ≤ (x : Int)) && decide ((x : Int) ≤ 90)) || (decide (48 ≤ (x : Int)) && decide ((x : Int) ≤ 57))
def lettersB (more l : List UInt8) : Bool := l.all (fun b => alnum b.toNat || more.any fun m => b == m) && decide (l ≠ [])
theorem all_till {p : UInt8 → Bool} (l : List UInt8) (k : Nat) (hk : l.length ≤ k) (h : ∀ j b, j < k → l[j]? = some b → p b = true) : l.all p = true := by
  rw [List.all_eq_true]
  intro b hb
  obtain ⟨j, hj, rfl⟩ := List.getElem_of_mem hb
  exact h j _ (by omega) (List.getElem?_eq_getElem hj)
theorem all_not {p : UInt8 → Bool} (l : List UInt8) (k : Nat) (b : UInt8) (hk : l[k]? = some b) (h : p b = false) : l.all p = false := by
  rw [List.all_eq_false]
  exact ⟨b, List.mem_of_getElem? hk, by simp [h]⟩
theorem u8_beq (a b : UInt8) : ((a.toNat : Int) == (b.toNat : Int)) = (a == b) := by
  by_cases h : a = b
  · subst h; simp
  · have : ¬ (a.toNat : Int) = (b.toNat : Int) := fun e => h (UInt8.toNat_inj.1 (by omega))
    rw [beq_eq_false_iff_ne.2 this, beq_eq_false_iff_ne.2 h]
theorem ne_nil (s : ByteArray) : (!s.toList.isEmpty) = (true && decide (s.data.toList ≠ [])) := by
  rw [Go.Lib.toList_data]
  cases s.data.toList <;> simp
theorem ret_b {a b : Bool} (h : a = b) : Ending.returned (.bool a) = .returned (.bool b) := by rw [h]
set_option maxHeartbeats 2000000 in
set_option maxRecDepth 100000 in
theorem letters_any (s more : ByteArray) (w : World) (hs : s.size ≤ 1000000) (hm : more.size ≤ 100) : Calls Try.prog 38 #[.string s, .string more] w fun e w' => e = .returned (.bool (lettersB more.data.toList s.data.toList)) ∧ w' = w := by
  go_enter Try.func38, Try.ntmps38
  go_wp2
  go_loop [5] (fun i => ∃ k : Nat, k ≤ s.size ∧ i = .int .i64 k ∧ Hid (∀ j b, j < k → s.data.toList[j]? = some b → (alnum b.toNat || more.data.toList.any fun m => b == m) = true)) (fun i => s.size - (intOf i).toNat)
  case atStart => exact ⟨0, Nat.zero_le _, rfl, Lib.hid (by omega)⟩
  case round =>
    obtain ⟨k, hk, rfl, hall⟩ := hrel
    by_cases hlt : k < s.size
    · have HK : Hid (s.data.toList[k]? = some s[k]) := Lib.hid (List.getElem?_eq_getElem hlt)
      go_wp2
      all_goals (
        go_loop [7, 8] (fun ok i => ∃ j : Nat, j ≤ more.size ∧ i = .int .i64 j ∧ ok = .bool (alnum s[k].toNat || (more.data.toList.take j).any fun m => s[k] == m)) (fun _ i => more.size - (intOf i).toNat)
        case atStart => exact ⟨0, Nat.zero_le _, rfl, congrArg Value.bool (by unfold alnum; simp [*] <;> first | omega | (rw [Bool.eq_iff_iff]; simp; omega))⟩
        case round =>
          obtain ⟨j, hj, rfl, rfl⟩ := hrel
          by_cases hjl : j < more.size
          · have hstep : ∀ m, more.data.toList[j]? = some m → (more.data.toList.take (j + 1)).any (fun m => s[k] == m) = ((more.data.toList.take j).any (fun m => s[k] == m) || (s[k] == m)) := fun m hm => by
              rw [List.take_add_one, hm, List.any_append]; simp
            have HS := Lib.hid (hstep more[j] (List.getElem?_eq_getElem hjl))
            clear hstep
            cases hX : (alnum s[k].toNat || (more.data.toList.take j).any fun m => s[k] == m) with
            | true =>
              have HX := Lib.hid hX
              clear hX
              go_wp2
              go_round
              case rel => exact ⟨j + 1, hjl, by go_num, congrArg Value.bool (by rw [HS.out, ← Bool.or_assoc, HX.out]; rfl)⟩
              case measure => simp [intOf]; omega
            | false =>
              have HX := Lib.hid hX
              clear hX
              go_wp2
              go_round
              case rel => exact ⟨j + 1, hjl, by go_num, congrArg Value.bool (by rw [HS.out, ← Bool.or_assoc, HX.out, Bool.false_or]; exact u8_beq _ _)⟩
              case measure => simp [intOf]; omega
          · obtain rfl : j = more.size := by omega
            have ht : more.data.toList.take more.size = more.data.toList := List.take_of_length_le (Nat.le_refl _)
            have HT := Lib.hid ht
            clear ht
            cases hX : (alnum s[k].toNat || (more.data.toList.take more.size).any fun m => s[k] == m) with
            | true =>
              have HX := Lib.hid hX
              clear hX
              go_wp2
              go_round
              case rel => exact ⟨k + 1, hlt, by go_num, Lib.hid (by
                intro j d hj hd
                by_cases e : j = k
                · subst e
                  have := HK.out
                  rw [this] at hd
                  cases hd
                  have := HX.out
                  rw [HT.out] at this
                  exact this
                · exact hall.out j d (by omega) hd)⟩
              case measure => simp [intOf]; omega
            | false =>
              have HX := Lib.hid hX
              clear hX
              go_wp2
              go_ret
              have := HX.out
              rw [HT.out] at this
              exact ⟨by unfold lettersB; rw [all_not _ k _ HK.out this]; rfl, rfl⟩)
    · obtain rfl : k = s.size := by omega
      have HA := Lib.hid (all_till (p := fun b => alnum b.toNat || more.data.toList.any fun m => b == m) s.data.toList s.size (Nat.le_refl _) hall.out)
      go_wp2
      go_ret
      exact ⟨by unfold lettersB; rw [HA.out]; exact ret_b (ne_nil s), rfl⟩
end Go.Proofs.Ytmnahgeledddhaa
