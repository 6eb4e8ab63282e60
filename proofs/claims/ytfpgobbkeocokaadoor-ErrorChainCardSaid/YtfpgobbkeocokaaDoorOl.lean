/- Contracts: Guard; begun of layer 9. -/
import Derived.Test.YtfpgobbkeocokaaDoorOk
namespace Go.Proofs.YtfpgobbkeocokaaDoor
open Go.RowKit Go.Extern.Stop Go.Stop Go.Extern Go.Lib Go.Extern.Rtype
theorem fnE (K : Nat) (caps : Array Value) (w : World) : (binOp .eql 1 (.func (.func K) #[] caps) .nilFunc).run Tryd.prog w = .ok (.bool false) w := by kernel_rfl
theorem fnN (w : World) : (binOp .eql 1 .nilFunc .nilFunc).run Tryd.prog w = .ok (.bool true) w := by kernel_rfl
theorem guard_ok (K : Nat) (caps : Array Value) (w : World) (s : ByteArray) (hE : ∀ w, (callFunc K caps).run Tryd.prog w = .ok (.enter K caps) w)
    (hK : Calls Tryd.prog K caps (w.alloc (.cells #[.bool false] 4)) fun e w' => e = .returned (.tuple #[]) ∧ Below (w.alloc (.cells #[.bool false] 4)).heap.size (w.alloc (.cells #[.bool false] 4)) w') :
    Calls Tryd.prog 13 #[.string s, .func (.func K) #[] caps] w fun e w' => e = .returned .nilIface ∧ Below w.heap.size w w' := by
  have HG := Lib.hid (guard_back K caps w _ hE hK (fun w' hb => (hb.block _ (by rw [al_size]; omega)).trans (heap_alloc_new w _)))
  have f1 := fnE K caps
  clear hE hK
  go_enter Tryd.func13, Tryd.ntmps13
  go_wp2_with (go_at_call 16; refine HG.out.mono ?_; rintro e w4 ⟨rfl, w3, hb, hw⟩; have HB : Hid (Below w.heap.size w w4) := Lib.hid (by rw [hw]; exact (keepE (al_bel w _) hb).setCell (Nat.le_refl _) _); clear hb hw)
  go_ret
  exact ⟨rfl, HB.out⟩
theorem guard_bad (K : Nat) (caps : Array Value) (w : World) (s : ByteArray) (u : TypeId) (pv : Value) (hE : ∀ w, (callFunc K caps).run Tryd.prog w = .ok (.enter K caps) w)
    (hK : Calls Tryd.prog K caps (w.alloc (.cells #[.bool false] 4)) fun e w' => e = .panicked [{ v := .iface u pv, recovered := false }] ∧ Below (w.alloc (.cells #[.bool false] 4)).heap.size (w.alloc (.cells #[.bool false] 4)) w') :
    Calls Tryd.prog 13 #[.string s, .func (.func K) #[] caps] w fun e w' => ∃ b, e = .returned (.iface 32 (.pointer (some ⟨b, 0, none⟩))) ∧ ErrAt w' [.src s] (some 2) (.iface 32 (.pointer (some ⟨b, 0, none⟩))) ∧ Below w.heap.size w w' := by
  have HG := Lib.hid (guard_panics K caps w u pv _ hE hK (fun w' hb => (hb.block _ (by rw [al_size]; omega)).trans (heap_alloc_new w _)))
  have f1 := fnE K caps
  clear hE hK
  go_enter Tryd.func13, Tryd.ntmps13
  go_wp2_with (first | (go_at_call 16; refine HG.out.mono ?_; rintro e w4 ⟨rfl, hb⟩; have HB : Hid (Below w.heap.size w w4) := Lib.hid (keepE (al_bel w _) hb); clear hb) | (go_at_call 8; refine (wrap_any w4 [] (some 2) s _ rfl).mono ?_; rintro e w5 ⟨b, rfl, he, hb⟩; have HE := Lib.hid he; have HB5 := Lib.hid hb; clear he hb))
  go_ret
  exact ⟨b, rfl, HE.out, keepE HB.out HB5.out⟩
theorem guard_nil (w : World) (s : ByteArray) :
    Calls Tryd.prog 13 #[.string s, .nilFunc] w fun e w' => ∃ b, e = .returned (.iface 32 (.pointer (some ⟨b, 0, none⟩))) ∧ ErrAt w' [.src s] (some 2) (.iface 32 (.pointer (some ⟨b, 0, none⟩))) ∧ Below w.heap.size w w' := by
  have f1 := fnN
  go_enter Tryd.func13, Tryd.ntmps13
  go_wp2_with (go_at_call 8; refine (wrap_any w [] (some 2) s _ rfl).mono ?_; rintro e w5 ⟨b, rfl, he, hb⟩; have HE := Lib.hid he; have HB5 := Lib.hid hb; clear he hb)
  go_ret
  exact ⟨b, rfl, HE.out, HB5.out⟩
theorem beg1 (w : World) : Calls Tryd.prog 15 #[] w fun e w' => e = .returned (.tuple #[]) ∧ Below w.heap.size w w' := by
  go_enter Tryd.func15, Tryd.ntmps15
  go_wp2
  go_end0
  exact ⟨rfl, Below.refl _ _⟩
theorem glob_keep {w w' : World} (hg : w.cell? ⟨0, 0, none⟩ = some (rT 25)) (hb : Below w.heap.size w w') : w'.cell? ⟨0, 0, none⟩ = some (rT 25) := by
  have hl : 0 < w.heap.size := by
    unfold World.cell? at hg
    split at hg
    · rename_i h; exact (Array.getElem?_eq_some_iff.1 h).1
    · cases hg
  exact (hb.cell (p := ⟨0, 0, none⟩) hl).trans hg
theorem neqN (w : World) : (binOp .neq 25 .nilIface .nilIface).run Tryd.prog w = .ok (.bool false) w := by kernel_rfl
set_option maxHeartbeats 1000000 in
set_option maxRecDepth 100000 in
theorem begun9_any (w : World) (hg : w.cell? ⟨0, 0, none⟩ = some (rT 25)) :
    Calls Tryd.prog 6 #[] w fun e w' => e = .returned (.bool true) ∧ Below w.heap.size w w' := by
  have HW := Lib.hid (wrap_any w [] (some 3) ⟨#[100, 110, 115]⟩ _ rfl)
  have HG := Lib.hid hg
  have e1 := nilNe
  have e2 := nilN
  have d1 : decide (ofV (some 3) = 3) = true := by decide
  clear hg
  go_enter Tryd.func6, Tryd.ntmps6
  go_upto_region 2 with (go_at_call 8; refine HW.out.mono ?_; rintro e w2 ⟨b, rfl, he, hb⟩; have HE := Lib.hid he; have HB2 := Lib.hid hb; clear he hb)
  go_upto_region 3 with (go_at_call 13; refine (guard_ok 15 #[] w2 _ (fun w => by kernel_rfl) (beg1 _)).mono ?_; rintro e w3 ⟨rfl, hb⟩; have HB3 := Lib.hid (keepE HB2.out hb); have HE3 := Lib.hid (HE.out.below hb); clear hb)
  have HOf : Hid (∀ W, Below w3.heap.size w3 W → ∀ v r, ((v = .iface 32 (.pointer (some ⟨b, 0, none⟩)) ∧ r = 3) ∨ (v = .nilIface ∧ r = 0)) → Calls Tryd.prog 10 #[v] W fun e w' => e = .returned (.int .i64 r) ∧ Below w3.heap.size w3 w') := Lib.hid (fun W hW v r hv => by
    rcases hv with ⟨rfl, rfl⟩ | ⟨rfl, rfl⟩
    · refine (of_any W _ _ _ (HE3.out.below hW)).mono ?_
      rintro e w' ⟨he, hb⟩
      exact ⟨he, keepE hW hb⟩
    · refine (of_nil W).mono ?_
      rintro e w' ⟨he, rfl⟩
      exact ⟨he, hW⟩)
  have HSr : Hid (∀ W, Below w3.heap.size w3 W → Calls Tryd.prog 11 #[.iface 32 (.pointer (some ⟨b, 0, none⟩))] W fun e w' => e = .returned (.string ⟨#[100, 110, 115]⟩) ∧ Below w3.heap.size w3 w') := Lib.hid (fun W hW => by
    refine (osrc_any W _ _ _ (HE3.out.below hW) (glob_keep HG.out (keepE HB3.out hW))).mono ?_
    rintro e w' ⟨he, hb⟩
    exact ⟨he, keepE hW hb⟩)
  have HBx := Lib.hid (Below.refl w3.heap.size w3)
  clear d1
  go_wp2_with (first | (go_at_call 10; refine (HOf.out _ HBx.out _ _ (by first | exact .inl ⟨rfl, rfl⟩ | exact .inr ⟨rfl, rfl⟩)).mono ?_; rintro e w4 ⟨rfl, hb⟩; have HBx := Lib.hid hb; clear hb) | (go_at_call 11; refine (HSr.out _ HBx.out).mono ?_; rintro e w5 ⟨rfl, hb⟩; have HBx := Lib.hid hb; clear hb) | (go_at_call 8; refine (wrap_nil _ _).mono ?_; rintro e w7 ⟨rfl, rfl⟩))
  go_ret
  exact ⟨rfl, keepE HB3.out HBx.out⟩
end Go.Proofs.YtfpgobbkeocokaaDoor
