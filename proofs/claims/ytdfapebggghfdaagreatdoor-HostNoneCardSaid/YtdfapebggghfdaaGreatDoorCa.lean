/- Contracts of the names' inner functions: what is foreign, what is no label. -/
import Derived.Test.YtdfapebggghfdaaGreatDoorShelf
import Derived.Test.YtdfapebggghfdaaGreatDoorChecked
import Derived.Test.YtdfapebggghfdaaGreatDoorNm
import Derived.Test.YtdfapebggghfdaaGreatDoorTr
import Derived.WalkKit
import Derived.LoopTactic
namespace Go.Proofs.YtdfapebggghfdaaGreatDoor
open Go.RowKit Go.Lib Go.Tx
theorem foreign_any (x : Nat) (hx : x ≤ 1114111) (w : World) : Calls Tryz.prog 84 #[.int .i32 (x : Int)] w fun e w' => e = .returned (.bool (!sign x)) ∧ w' = w := by
  have hc : x < 45 ∨ x = 45 ∨ (46 ≤ x ∧ x ≤ 47) ∨ (48 ≤ x ∧ x ≤ 57) ∨ (58 ≤ x ∧ x ≤ 64) ∨ (65 ≤ x ∧ x ≤ 90) ∨ (91 ≤ x ∧ x ≤ 94) ∨ x = 95 ∨ x = 96 ∨ (97 ≤ x ∧ x ≤ 122) ∨ 122 < x := by omega
  have key : ∀ b, sign x = b → Calls Tryz.prog 84 #[.int .i32 (x : Int)] w (fun e w' => e = .returned (.bool (!b)) ∧ w' = w) → Calls Tryz.prog 84 #[.int .i32 (x : Int)] w fun e w' => e = .returned (.bool (!sign x)) ∧ w' = w := fun b h k => by rw [h]; exact k
  have hs : sign x = decide ((97 ≤ x ∧ x ≤ 122) ∨ (65 ≤ x ∧ x ≤ 90) ∨ (48 ≤ x ∧ x ≤ 57) ∨ x = 45 ∨ x = 95) := by
    simp only [sign]
    by_cases h1 : 97 ≤ x <;> by_cases h2 : x ≤ 122 <;> by_cases h3 : 65 ≤ x <;> by_cases h4 : x ≤ 90 <;> by_cases h5 : 48 ≤ x <;> by_cases h6 : x ≤ 57 <;> by_cases h7 : x = 45 <;> by_cases h8 : x = 95 <;> simp [*]
  rcases hc with h | h | ⟨h, h'⟩ | ⟨h, h'⟩ | ⟨h, h'⟩ | ⟨h, h'⟩ | ⟨h, h'⟩ | h | h | ⟨h, h'⟩ | h
  · refine key false (by rw [hs]; exact decide_eq_false (by omega)) ?_
    clear hs key hx
    have : (x : Int) < 45 := by omega
    go_enter Tryz.func84, Tryz.ntmps84
    go_wp2
    all_goals (go_ret; exact ⟨rfl, rfl⟩)
  · subst h
    refine key true (by decide) ?_
    clear hs key hx
    go_enter Tryz.func84, Tryz.ntmps84
    go_wp2
    all_goals (go_ret; exact ⟨rfl, rfl⟩)
  · refine key false (by rw [hs]; exact decide_eq_false (by omega)) ?_
    clear hs key hx
    have a1 : (46:Int) ≤ (x : Int) := by omega
    have a2 : (x : Int) ≤ 47 := by omega
    go_enter Tryz.func84, Tryz.ntmps84
    go_wp2
    all_goals (go_ret; exact ⟨rfl, rfl⟩)
  · refine key true (by rw [hs]; exact decide_eq_true (by omega)) ?_
    clear hs key hx
    have a1 : (48:Int) ≤ (x : Int) := by omega
    have a2 : (x : Int) ≤ 57 := by omega
    go_enter Tryz.func84, Tryz.ntmps84
    go_wp2
    all_goals (go_ret; exact ⟨rfl, rfl⟩)
  · refine key false (by rw [hs]; exact decide_eq_false (by omega)) ?_
    clear hs key hx
    have a1 : (58:Int) ≤ (x : Int) := by omega
    have a2 : (x : Int) ≤ 64 := by omega
    go_enter Tryz.func84, Tryz.ntmps84
    go_wp2
    all_goals (go_ret; exact ⟨rfl, rfl⟩)
  · refine key true (by rw [hs]; exact decide_eq_true (by omega)) ?_
    clear hs key hx
    have a1 : (65:Int) ≤ (x : Int) := by omega
    have a2 : (x : Int) ≤ 90 := by omega
    go_enter Tryz.func84, Tryz.ntmps84
    go_wp2
    all_goals (go_ret; exact ⟨rfl, rfl⟩)
  · refine key false (by rw [hs]; exact decide_eq_false (by omega)) ?_
    clear hs key hx
    have a1 : (91:Int) ≤ (x : Int) := by omega
    have a2 : (x : Int) ≤ 94 := by omega
    go_enter Tryz.func84, Tryz.ntmps84
    go_wp2
    all_goals (go_ret; exact ⟨rfl, rfl⟩)
  · subst h
    refine key true (by decide) ?_
    clear hs key hx
    go_enter Tryz.func84, Tryz.ntmps84
    go_wp2
    all_goals (go_ret; exact ⟨rfl, rfl⟩)
  · subst h
    refine key false (by decide) ?_
    clear hs key hx
    go_enter Tryz.func84, Tryz.ntmps84
    go_wp2
    all_goals (go_ret; exact ⟨rfl, rfl⟩)
  · refine key true (by rw [hs]; exact decide_eq_true (by omega)) ?_
    clear hs key hx
    have a1 : (97:Int) ≤ (x : Int) := by omega
    have a2 : (x : Int) ≤ 122 := by omega
    go_enter Tryz.func84, Tryz.ntmps84
    go_wp2
    all_goals (go_ret; exact ⟨rfl, rfl⟩)
  · refine key false (by rw [hs]; exact decide_eq_false (by omega)) ?_
    clear hs key hx
    have a1 : (122:Int) < (x : Int) := by omega
    go_enter Tryz.func84, Tryz.ntmps84
    go_wp2
    all_goals (go_ret; exact ⟨rfl, rfl⟩)
theorem foreignAt (w : World) : PredAtRunes Tryz.prog 84 #[] (fun x => !sign x) w := fun W x hx _ =>
  (foreign_any x hx W).mono fun _ _ ⟨h1, h2⟩ => ⟨h1, 0, h2⟩
set_option maxRecDepth 100000 in
theorem hasForeign (s : ByteArray) (w : World) : Calls Tryz.prog 83 #[.string s, .func (.func 84) #[] #[]] w fun e w' => e = .returned (.bool (s.data.toList.any fun b => !sign b.toNat)) ∧ Below w.heap.size w w' := by
  refine (Tryz.strings_ContainsFunc_runes 84 #[] (fun args w => by rfl) (fun x => !sign x) s w (foreignAt w)).mono fun e w' ⟨h1, h2⟩ => ⟨?_, h2⟩
  rw [h1, idx_any (fun x => !sign x) (fun x hx => by simp [sign_high x hx])]
theorem noLabel_any (s : ByteArray) (w : World) : Calls Tryz.prog 63 #[.string s] w fun e w' => e = .returned (.bool (!labelB s.data.toList)) ∧ Below w.heap.size w w' := by
  have HF := Lib.hid (fun w => hasForeign s w)
  have HN := Lib.hid (noLabel s.data.toList)
  have hl : s.data.toList.length = s.size := rfl
  by_cases h0 : s = ⟨#[]⟩
  · subst h0
    go_enter Tryz.func63, Tryz.ntmps63
    go_wp2
    all_goals (go_ret; exact ⟨rfl, Below.refl _ _⟩)
  · have h0' : s.data.toList ≠ [] := fun h => h0 (by cases s; simp at h; simp [h])
    by_cases h1 : 63 < s.size
    · have h1' : (63 : Int) < (s.size : Int) := by omega
      have hb : labelB s.data.toList = false := by unfold labelB; simp [hl]; omega
      rw [hb]
      clear HN HF
      go_enter Tryz.func63, Tryz.ntmps63
      go_wp2
      all_goals (go_ret; exact ⟨rfl, Below.refl _ _⟩)
    · have h1' : (s.size : Int) ≤ 63 := by omega
      have hb : (!labelB s.data.toList) = s.data.toList.any fun b => !sign b.toNat := by
        rw [← HN.out]
        simp [h0', hl, h1]
      rw [hb]
      clear HN hb
      have e2 : s.toList.isEmpty = false := by
        rw [Go.Lib.toList_data]
        cases hh : s.data.toList with
        | nil => exact absurd hh h0'
        | cons x y => rfl
      have e3 : decide (63 < (s.size : Int)) = false := decide_eq_false (by omega)
      clear h0 h0' h1 hl
      have HF' : ∀ w, Calls Tryz.prog 83 #[.string s, .func (.func 84) #[] #[]] w fun e w' => e = .returned (.bool (s.data.toList.any fun b => !sign b.toNat)) ∧ Below w.heap.size w w' := HF.out
      clear HF
      generalize (s.data.toList.any fun b => !sign b.toNat) = X at HF' ⊢
      have HF := Lib.hid HF'
      clear HF'
      go_enter Tryz.func63, Tryz.ntmps63
      go_wp2_with (go_at_call 83; refine (HF.out _).mono ?_; rintro e w2 ⟨rfl, hb⟩)
      all_goals (go_ret; exact ⟨by simp only [e3, Bool.false_or]; rfl, hb⟩)
end Go.Proofs.YtdfapebggghfdaaGreatDoor
