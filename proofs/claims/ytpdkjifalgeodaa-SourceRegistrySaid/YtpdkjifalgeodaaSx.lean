/- SourceNone: the walk. -/
import Derived.Test.YtpdkjifalgeodaaSw
namespace Go.Proofs.Ytpdkjifalgeodaa
open Go.RowKit Go.Extern.Stop Go.Stop Go.Extern Go.Lib Go.Tx
theorem ptrN (w : World) : (binOp .eql 55 (.pointer none) (.pointer none)).run Try.prog w = .ok (.bool true) w := by kernel_rfl
theorem names_nil (w : World) : Calls Try.prog 23 #[.pointer none] w fun e w' => e = .returned (.slice none 0 0) ∧ w = w' := by
  have e1 := ptrN
  go_enter Try.func23, Try.ntmps23
  go_wp2
  go_ret
  exact ⟨rfl, rfl⟩
theorem codeV_two : codeV 2 = 2 := by decide
set_option maxHeartbeats 4000000 in
set_option maxRecDepth 100000 in
theorem sourceNone_walk (w : World) : Calls Try.prog 5 #[] w fun e w' => e = .returned (.bool true) ∧ Below w.heap.size w w' := by
  have e1 := opN
  have HBg : Hid (∀ W, Calls Try.prog 9 #[.nilIface, .agg #[.int .i64 0, .string ⟨#[]⟩, .string ⟨#[]⟩, .int .i64 0]] W fun e w' => ∃ er, e = .returned (.tuple #[.nilIface, er]) ∧ ErrS w' [⟨#[]⟩] 2 er ∧ Below W.heap.size W w') := Lib.hid (fun W => begin_nil 0 ⟨#[]⟩ ⟨#[]⟩ 0 W)
  have HPo : Hid (∀ W, Calls Try.prog 15 #[.string ⟨#[120]⟩, .nilIface] W fun e w' => ∃ er, e = .returned (.tuple #[zAns, .slice none 0 0, er, .bool true]) ∧ ErrS w' [⟨#[120]⟩] 2 er ∧ Below W.heap.size W w') := Lib.hid (fun W => spoll_nil ⟨#[120]⟩ W)
  have HSx := Lib.hid begun12_any
  go_enter Try.func5, Try.ntmps5
  go_upto_region 5 with (first
    | (go_at_call 9; refine (HBg.out _).mono ?_; rintro e w1 ⟨er, rfl, he1, hb1⟩; have HE1 := Lib.hid he1; have HB1 := Lib.hid hb1; have hsh1 := he1.iface; clear he1 hb1; obtain ⟨t1, x1, rfl⟩ := hsh1)
    | (go_at_call 15; refine (HPo.out _).mono ?_; rintro e w2 ⟨er2, rfl, he2, hb2⟩; have HE2 := Lib.hid he2; have HE1b := Lib.hid (HE1.out.below hb2); have HB2 := Lib.hid (keepE HB1.out hb2); have hsh2 := he2.iface; clear he2 hb2; obtain ⟨t2, x2, rfl⟩ := hsh2)
    | (go_at_call 21; refine (get_nil _ _).mono ?_; rintro e w3 ⟨rfl, rfl⟩))
  obtain ⟨W0, hW0⟩ : ∃ W, w2.alloc (.cells #[.slice none 0 0, .slice none 0 0, .int .i64 0, .int .i64 0] 25) = W := ⟨_, rfl⟩
  have HB0 : Hid (Below w.heap.size w W0) := Lib.hid (hW0 ▸ keepE HB2.out (al_bel w2 _))
  have HE1c : Hid (ErrS W0 [⟨#[]⟩] 2 (.iface t1 x1)) := Lib.hid (hW0 ▸ HE1b.out.alloc _)
  have HE2c : Hid (ErrS W0 [⟨#[120]⟩] 2 (.iface t2 x2)) := Lib.hid (hW0 ▸ HE2.out.alloc _)
  rw [hW0]
  clear hW0
  have HC1 : Hid (∀ W, Below W0.heap.size W0 W → Calls Try.prog 11 #[.iface t1 x1] W fun e w' => e = .returned (.int .i64 2) ∧ Below W0.heap.size W0 w') := Lib.hid (fun W hW => (code0_any W _ _ _ (HE1c.out.below hW) (by decide)).mono (fun e w' ⟨he, hb⟩ => ⟨by rw [he, codeV_two], keepE hW hb⟩))
  have HC2 : Hid (∀ W, Below W0.heap.size W0 W → Calls Try.prog 11 #[.iface t2 x2] W fun e w' => e = .returned (.int .i64 2) ∧ Below W0.heap.size W0 w') := Lib.hid (fun W hW => (code0_any W _ _ _ (HE2c.out.below hW) (by decide)).mono (fun e w' ⟨he, hb⟩ => ⟨by rw [he, codeV_two], keepE hW hb⟩))
  have HS2 : Hid (∀ W, Below W0.heap.size W0 W → Calls Try.prog 12 #[.iface t2 x2] W fun e w' => e = .returned (.string ⟨#[120]⟩) ∧ W = w') := Lib.hid (fun W hW => src0_any W _ _ _ _ (HE2c.out.below hW))
  have HBx := Lib.hid (Below.refl W0.heap.size W0)
  go_wp2_with (first
    | (go_at_call 7; refine (HSx.out _).mono ?_; rintro e w4 ⟨rfl, hb⟩; have HBx := Lib.hid hb; clear hb)
    | (go_at_call 11; with_reducible refine (HC1.out _ HBx.out).mono ?_; rintro e w5 ⟨rfl, hb⟩; have HBx := Lib.hid hb; clear hb)
    | (go_at_call 11; with_reducible refine (HC2.out _ HBx.out).mono ?_; rintro e w6 ⟨rfl, hb⟩; have HBx := Lib.hid hb; clear hb)
    | (go_at_call 12; refine (HS2.out _ HBx.out).mono ?_; rintro e w7 ⟨rfl, rfl⟩)
    | (go_at_call 13; refine (hear_nil _ _ _ _ _).mono ?_; rintro e w8 ⟨rfl, hb⟩; have HBx := Lib.hid (keepE HBx.out hb); clear hb)
    | (go_at_call 14; refine (bytes_nil _ _ _ _ _ _).mono ?_; rintro e w9 ⟨rfl, hb⟩; have HBx := Lib.hid (keepE HBx.out hb); clear hb)
    | (go_at_call 23; refine (names_nil _).mono ?_; rintro e w10 ⟨rfl, rfl⟩))
  go_ret
  exact ⟨rfl, keepE HB0.out HBx.out⟩
end Go.Proofs.Ytpdkjifalgeodaa
