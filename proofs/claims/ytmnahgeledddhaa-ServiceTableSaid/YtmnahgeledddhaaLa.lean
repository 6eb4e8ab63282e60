/- Contracts: blanks, foreign bytes, the first foreign byte of a row. -/
import Derived.Test.YtmnahgeledddhaaRows
import Derived.WalkKit
import Derived.LoopTactic
import Derived.Below
import Derived.Lib.Hide
import Derived.Lib.BytesEntry
import Derived.Deep.QuietTactic
import Derived.BigQuiet
import Derived.ChangeAlike
namespace Go.Tx
open Go.RowKit
def blankN (x : Nat) : Bool := x == 32 || x == 9 || x == 13
def forB (c : UInt8) : Bool := decide (127 ≤ c.toNat) || (decide (c.toNat < 32) && !blankN c.toNat)
/-- A slice of bytes that reads as l. -/
structure BA (w : World) (a : Option Addr) (n c : Nat) (l : List UInt8) : Prop where
  len : l.length = n
  cap : n ≤ c
  max : c ≤ 9223372036854775807
  none : a = none → c = 0
  cell : ∀ x, a = some x → ∀ j b, l[j]? = some b → w.cell? (x.add j) = some (.int .u8 (b.toNat : Int))
theorem BA.below {w w' : World} {a : Option Addr} {n c : Nat} {l : List UInt8} (h : BA w a n c l) {B : Nat} (hb : Below B w w') (hlt : ∀ x, a = some x → x.block < B) : BA w' a n c l :=
  ⟨h.len, h.cap, h.max, h.none, fun x hx j b hj => by
    have hblk : (x.add j).block = x.block := by unfold Addr.add; split <;> rfl
    rw [hb.cell (by rw [hblk]; exact hlt x hx)]; exact h.cell x hx j b hj⟩
end Go.Tx
namespace Go.Proofs.Ytmnahgeledddhaa
open Go.RowKit Go.Lib Go.Tx
theorem ret_bool {a b : Bool} (h : a = b) : Ending.returned (.bool a) = .returned (.bool b) := by rw [h]
theorem isBlank_any (x : Nat) (w : World) :
    Calls Try.prog 43 #[.int .i32 x] w fun e w' => e = .returned (.bool (blankN x)) ∧ w' = w := by
  by_cases h1 : x = 32
  · subst h1
    go_enter Try.func43, Try.ntmps43
    go_wp2
    all_goals (go_ret; exact ⟨rfl, rfl⟩)
  by_cases h2 : x = 9
  · subst h2
    go_enter Try.func43, Try.ntmps43
    go_wp2
    all_goals (go_ret; exact ⟨rfl, rfl⟩)
  by_cases h3 : x = 13
  · subst h3
    go_enter Try.func43, Try.ntmps43
    go_wp2
    all_goals (go_ret; exact ⟨rfl, rfl⟩)
  have e0 : blankN x = false := by simp [blankN, h1, h2, h3]
  have e1 : ((x : Int) == 32) = false := by rw [beq_eq_false_iff_ne]; omega
  have e2 : ((x : Int) == 9) = false := by rw [beq_eq_false_iff_ne]; omega
  have e3 : ((x : Int) == 13) = false := by rw [beq_eq_false_iff_ne]; omega
  clear h1 h2 h3
  have E0 := Lib.hid e0
  clear e0
  go_enter Try.func43, Try.ntmps43
  go_wp2
  all_goals (go_ret; exact ⟨ret_bool E0.out.symm, rfl⟩)
set_option maxRecDepth 100000 in
theorem isForeign_any (c : UInt8) (w : World) :
    Calls Try.prog 41 #[.int .u8 (c.toNat : Int)] w fun e w' => e = .returned (.bool (forB c)) ∧ w' = w := by
  by_cases h1 : 127 ≤ (c.toNat : Int)
  · have E0 : Hid (forB c = true) := Lib.hid (by have : 127 ≤ c.toNat := by omega
                                                 simp [forB, this])
    go_enter Try.func41, Try.ntmps41
    go_wp2
    all_goals (go_ret; exact ⟨ret_bool E0.out.symm, rfl⟩)
  by_cases h2 : (c.toNat : Int) < 32
  · have E0 : Hid (forB c = !blankN c.toNat) := Lib.hid (by have a1 : ¬ 127 ≤ c.toNat := by omega
                                                            have a2 : c.toNat < 32 := by omega
                                                            simp [forB, a1, a2])
    have h3 : (c.toNat : Int) < 127 := by omega
    clear h1
    go_enter Try.func41, Try.ntmps41
    go_wp2_with (go_at_call 43; refine (isBlank_any c.toNat _).mono ?_; rintro e w' ⟨rfl, rfl⟩)
    all_goals (go_ret; exact ⟨ret_bool (by rw [E0.out, show decide (127 ≤ (c.toNat : Int)) = false from by rw [decide_eq_false_iff_not]; omega]; rfl), rfl⟩)
  · have E0 : Hid (forB c = false) := Lib.hid (by have a1 : ¬ 127 ≤ c.toNat := by omega
                                                  have a2 : ¬ c.toNat < 32 := by omega
                                                  simp [forB, a1, a2])
    have h3 : (c.toNat : Int) < 127 := by omega
    have h4 : 32 ≤ (c.toNat : Int) := by omega
    clear h1 h2
    go_enter Try.func41, Try.ntmps41
    go_wp2
    all_goals (go_ret; exact ⟨ret_bool (by rw [E0.out, decide_eq_false_iff_not]; omega), rfl⟩)
end Go.Proofs.Ytmnahgeledddhaa
