/- Common and In, the program's own, and the law's cut. -/
import Derived.Test.YtieiiffieccceaaDoorAl
import Derived.Laws.IdiomStrings
namespace Go.Proofs.YtieiiffieccceaaDoor
open Go.RowKit Go.Am
theorem cut_short (s : ByteArray) (n : Int) (w : World) (hs : s.size ≤ maxLen) (h : (s.size : Int) ≤ n) :
    Calls Tryd.prog 8 #[.string s, .int .i64 n] w fun e w' => e = .returned (.string s) ∧ w = w' := by
  unfold maxLen at hs
  go_enter Tryd.func8, Tryd.ntmps8
  go_wp2
  go_ret
  exact ⟨rfl, rfl⟩
theorem cut_long (s : ByteArray) (n : Nat) (w : World) (hs : s.size ≤ maxLen) (h : n < s.size) :
    Calls Tryd.prog 8 #[.string s, .int .i64 n] w fun e w' => e = .returned (.string (s.extract 0 n)) ∧ w = w' := by
  unfold maxLen at hs
  go_enter Tryd.func8, Tryd.ntmps8
  go_wp2
  go_ret
  exact ⟨rfl, rfl⟩
theorem cut_any (s : ByteArray) (n : Nat) (hs : s.size ≤ maxLen) : ∃ t : ByteArray, t.size ≤ n ∧ ∀ w : World, Calls Tryd.prog 8 #[.string s, .int .i64 n] w fun e w' => e = .returned (.string t) ∧ w = w' := by
  by_cases h : s.size ≤ n
  · exact ⟨s, h, fun w => cut_short s n w hs (by omega)⟩
  · exact ⟨s.extract 0 n, by rw [ByteArray.size_extract]; omega, fun w => cut_long s n w hs (by omega)⟩
set_option maxRecDepth 100000 in
theorem common_any (a b : ByteArray) (w : World) (hab : a.size = b.size) (h : a.size = 4 ∨ a.size = 16) :
    Calls Tryd.prog 13 #[.string a, .string b] w fun e w' => e = .returned (.int .i64 (alk a.data.toList b.data.toList)) ∧ Below w.heap.size w w' := by
  have HAB := Lib.hid hab
  have h1 : ((a.size : Int) != (b.size : Int)) = false := by rw [hab]; simp
  have h0 : a.size ≤ 1000000000 := by omega
  have H0 := Lib.hid h0
  clear hab h0
  have h2 : ((a.size : Int) != 4) = false ∨ (((a.size : Int) != 4) = true ∧ ((a.size : Int) != 16) = false) := by
    rcases h with h | h
    · left; rw [h]; rfl
    · right; rw [h]; exact ⟨rfl, rfl⟩
  clear h
  rcases h2 with h2 | ⟨h2, h3⟩
  all_goals
    go_enter Tryd.func13, Tryd.ntmps13
    go_wp2_with (go_at_call 23; refine (alike_any _ _ _ H0.out HAB.out).mono ?_; rintro e w1 ⟨rfl, hb⟩)
    go_ret
    exact ⟨rfl, hb⟩
def inB (n : Int) (m : Nat) : Bool := decide (0 ≤ n) && decide (n ≤ m)
theorem inB_t {n : Int} {m : Nat} (h0 : 0 ≤ n) (h : n ≤ m) : inB n m = true := by simp [inB, h0, h]
theorem inB_hi {n : Int} {m : Nat} (h : (m : Int) < n) : inB n m = false := by
  have : ¬ n ≤ m := by omega
  simp [inB, this]
theorem inB_lo {n : Int} {m : Nat} (h : n < 0) : inB n m = false := by
  have : ¬ 0 ≤ n := by omega
  simp [inB, this]
set_option maxRecDepth 100000 in
theorem in_any (a b : ByteArray) (n : Int) (w : World) (hab : a.size = b.size) (h0 : a.size ≤ 1000000000) :
    Calls Tryd.prog 14 #[.string a, .string b, .int .i64 n] w fun e w' => e = .returned (.bool (inB n (alk a.data.toList b.data.toList))) ∧ Below w.heap.size w w' := by
  have HAB := Lib.hid hab
  have H0 := Lib.hid h0
  have h1 : ((a.size : Int) == (b.size : Int)) = true := by rw [hab]; simp
  clear hab h0
  by_cases hn : 0 ≤ n
  · by_cases hm : n ≤ (alk a.data.toList b.data.toList : Int)
    · have e := inB_t hn hm
      rw [e]
      have HM := Lib.hid hm
      have hm2 : decide (n ≤ (alk a.data.toList b.data.toList : Int)) = true := decide_eq_true hm
      clear hm e
      go_enter Tryd.func14, Tryd.ntmps14
      go_wp2_with (go_at_call 23; refine (alike_any _ _ _ H0.out HAB.out).mono ?_; rintro e w1 ⟨rfl, hb⟩)
      go_ret
      exact ⟨rfl, hb⟩
    · have e := inB_hi (n := n) (m := alk a.data.toList b.data.toList) (by omega)
      rw [e]
      have hm2 : decide (n ≤ (alk a.data.toList b.data.toList : Int)) = false := decide_eq_false hm
      clear hm e
      go_enter Tryd.func14, Tryd.ntmps14
      go_wp2_with (go_at_call 23; refine (alike_any _ _ _ H0.out HAB.out).mono ?_; rintro e w1 ⟨rfl, hb⟩)
      go_ret
      exact ⟨rfl, hb⟩
  · have e := inB_lo (n := n) (m := alk a.data.toList b.data.toList) (by omega)
    rw [e]
    have hn2 : n < 0 := by omega
    clear e
    go_enter Tryd.func14, Tryd.ntmps14
    go_wp2
    go_ret
    exact ⟨rfl, Below.refl _ _⟩
end Go.Proofs.YtieiiffieccceaaDoor
