/- How far two texts are alike: the program's own. -/
import Derived.Test.YtieiiffieccceaaDoorRows
import Derived.Test.YtieiiffieccceaaDoorShelf
import Derived.Test.YtieiiffieccceaaDoorAm
import Derived.WalkKit
import Derived.LoopTactic
import Derived.Below
import Derived.RegionTactic
import Derived.BigQuiet
import Derived.Deep.QuietTactic
import Derived.Lib.Hide
import Derived.Outline
namespace Go.Proofs.YtieiiffieccceaaDoor
open Go.RowKit Go.Am
theorem ret_int {k : IntKind} {a b : Int} (h : a = b) : Ending.returned (.int k a) = .returned (.int k b) := by rw [h]
set_option maxHeartbeats 1000000 in
set_option maxRecDepth 100000 in
theorem alike_any (a b : ByteArray) (w : World) (ha : a.size ≤ 1000000000) (hab : a.size = b.size) :
    Calls Tryd.prog 23 #[.string a, .string b] w fun e w' => e = .returned (.int .i64 (alk a.data.toList b.data.toList)) ∧ Below w.heap.size w w' := by
  have HAB := Lib.hid hab
  clear hab
  go_enter Tryd.func23, Tryd.ntmps23
  go_wp2
  go_loopw [9] (fun i wr => ∃ k : Nat, k ≤ a.size ∧ i = .int .i64 k ∧ alk a.data.toList b.data.toList = 8 * k + alk (a.data.toList.drop k) (b.data.toList.drop k) ∧ Below w.heap.size w wr) (fun i _ => a.size - (intOf i).toNat)
  case atStart => exact ⟨0, Nat.zero_le _, rfl, by simp, Below.refl _ _⟩
  case round =>
    obtain ⟨k, hk, rfl, hpre, hbel⟩ := hrel
    by_cases hlt : k < a.size
    · have hlt2 : k < b.size := by rw [← HAB.out]; exact hlt
      have HP := Lib.hid hpre
      clear hpre
      by_cases he : a[k] = b[k]
      · have HE := Lib.hid he
        have hx : bits .xor .u8 (a[k].toNat : Int) (b[k].toNat : Int) = 0 := by rw [HE.out]; exact xor_same _
        clear he
        go_wp2
        go_quiet (fail)
        go_wp2
        go_roundw
        case rel => exact ⟨k + 1, by omega, by go_num, by rw [HP.out, alk_step (at_list a k hlt) (at_list b k hlt2) HE.out]; omega, by first | exact hbel | exact hbel.trans (Below.refl _ _).drew | exact ⟨hbel.os, hbel.tape, hbel.output, hbel.size, hbel.block⟩⟩
        case measure => simp [intOf]; omega
      · obtain ⟨d, hx, hd, hd0, hd1⟩ := xor_ne he
        have HE := Lib.hid he
        have HD := Lib.hid hd
        have hle : Lib.bitLen d ≤ 8 := Lib.bitLen_le8 ⟨d, hd1⟩
        have hne : ((d : Int) != 0) = true := by simp; omega
        clear he hd
        go_wp2
        go_quiet (fail)
        go_wp2_with (go_at_call 38; refine (Tryd.bits_LeadingZeros8 _ _ (by omega) (by omega)).mono ?_; rintro e w' ⟨rfl, rfl⟩)
        go_ret
        exact ⟨ret_int (by rw [HP.out, alk_end (at_list a k hlt) (at_list b k hlt2) HE.out, ← HD.out]; simp; omega), by first | exact hbel | exact ⟨hbel.os, hbel.tape, hbel.output, hbel.size, hbel.block⟩⟩
    · go_wp2
      go_ret
      have hk2 : k = a.size := by omega
      exact ⟨ret_int (by rw [hpre, hk2, drop_all, HAB.out, drop_all]; simp [alk]), hbel⟩
end Go.Proofs.YtieiiffieccceaaDoor
