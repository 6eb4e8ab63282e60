/- SourceAble: the walk. -/
import Derived.Test.YtpdkjifalgeodaaSx
namespace Go.Proofs.Ytpdkjifalgeodaa
open Go.RowKit Go.Extern.Stop Go.Stop Go.Extern Go.Lib Go.Tx
abbrev sX : ByteArray := ⟨#[120]⟩
def dX (wl k0 k1 k2 k3 k4 : Bool) (bg : Int) : DefL := ⟨sX, wl, k0, k1, k2, k3, k4, bg, 0, false, 0, false, none, 0, 0, none, 0, 0, 0, 0, none, 0, 0, false⟩
theorem builtX : Program.built Try.prog 28 [(0, .string sX), (3, .int .i64 2)] = some (defC (dX false false false false false false 2)) := by unfold defC dX; kernel_rfl
set_option maxHeartbeats 4000000 in
set_option maxRecDepth 100000 in
theorem sourceAble_far (a0 a1 : Int) (w : World) (h : a1 < 0 ∨ 4 < a1 ∨ a0 < 0) : Calls Try.prog 6 #[.int .i64 a0, .int .i64 a1] w fun e w' => e = .returned (.bool true) ∧ Below w.heap.size w w' := by
  have HSx := Lib.hid begun12_any
  rcases h with h | h | h
  · go_enter Try.func6, Try.ntmps6
    go_wp2_with (go_at_call 7; refine (HSx.out _).mono ?_; rintro e w4 ⟨rfl, hb⟩; have HB := Lib.hid hb; clear hb)
    go_ret
    exact ⟨rfl, HB.out⟩
  · have h2 : ¬ a1 < 0 := by omega
    go_enter Try.func6, Try.ntmps6
    go_wp2_with (go_at_call 7; refine (HSx.out _).mono ?_; rintro e w4 ⟨rfl, hb⟩; have HB := Lib.hid hb; clear hb)
    go_ret
    exact ⟨rfl, HB.out⟩
  · by_cases h2 : a1 < 0
    · go_enter Try.func6, Try.ntmps6
      go_wp2_with (go_at_call 7; refine (HSx.out _).mono ?_; rintro e w4 ⟨rfl, hb⟩; have HB := Lib.hid hb; clear hb)
      go_ret
      exact ⟨rfl, HB.out⟩
    · by_cases h3 : 4 < a1
      · go_enter Try.func6, Try.ntmps6
        go_wp2_with (go_at_call 7; refine (HSx.out _).mono ?_; rintro e w4 ⟨rfl, hb⟩; have HB := Lib.hid hb; clear hb)
        go_ret
        exact ⟨rfl, HB.out⟩
      · go_enter Try.func6, Try.ntmps6
        go_wp2_with (go_at_call 7; refine (HSx.out _).mono ?_; rintro e w4 ⟨rfl, hb⟩; have HB := Lib.hid hb; clear hb)
        go_ret
        exact ⟨rfl, HB.out⟩
end Go.Proofs.Ytpdkjifalgeodaa
