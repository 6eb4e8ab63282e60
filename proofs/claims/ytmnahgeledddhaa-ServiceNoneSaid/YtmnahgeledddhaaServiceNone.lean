/- No table has no row, no port and no name: the closed law returns true. No condition. -/
import Derived.Test.YtmnahgeledddhaaRows
import Derived.Test.YtmnahgeledddhaaSl
import Derived.WalkKit
import Derived.ProofKit
import Derived.OpenShut
import Derived.ShutString
import Derived.WalkKit
import Derived.ProofKit
import Derived.Test.YtmnahgeledddhaaVj
namespace Go.Proofs.Ytmnahgeledddhaa.serviceNone
open Go.ChangeShapes Go.WideShapes Go.ChangeAt Go.RowKit
open Go.ChangeMaps (open_string shut_string)
theorem own : ownKnob Try.prog.godebug = none := by kernel_rfl
open Go.Tx Go.Lib
set_option maxRecDepth 100000 in
theorem walk (W : World) :
    Calls Try.prog 4 #[] W fun e w' => e = .returned (.bool true) ∧ Below W.heap.size W w' := by
  have HB := Lib.hid (begun_any W)
  go_enter Try.func4, Try.ntmps4
  go_wp2_with (first | (go_at_call 6; refine HB.out.mono ?_; rintro e w2 ⟨rfl, hb⟩) | (go_at_call 11; refine (len_nil _).mono ?_; rintro e w3 ⟨rfl, hw⟩; obtain rfl := hw) | (go_at_call 12; refine (byName_nil _ _ _).mono ?_; rintro e w4 ⟨rfl, hw⟩; obtain rfl := hw) | (go_at_call 14; refine (byPort_nil _ _ _).mono ?_; rintro e w5 ⟨rfl, hw⟩; obtain rfl := hw))
  go_ret
  exact ⟨rfl, hb⟩

theorem laidOut : laidOutB Try.prog = true := by kernel_rfl
set_option maxRecDepth 100000 in
theorem lifted (os : Os) (started : os.Started) (H : Type) (enc : TypeId × Value → H) :
    ReturnsInHanded {} Try.checked os 4 .any (Rows.serviceNoneSpec.pre6 enc Try.prog Try.f4 Rows.serviceNoneRow.domain false) (Rows.serviceNoneSpec.post enc Try.prog Try.f4 false true false false) := by
  refine returnsInHanded_of_change (C := Try.checked) own started (by kernel_rfl) Try.func4
    (ChangeSpec.witness6 (enc := enc) (C := Try.checked) false ⟨#[], #[], []⟩ 8 (by kernel_rfl) (by kernel_rfl) (by kernel_rfl) (by kernel_rfl)) ?_
  intro W base args ds gs before hval0 hW hcnd _
  have hval : ∀ (j : Nat) t v, Try.f4.params[j]? = some t → args[j]? = some v → Value.okWide Try.prog W .any base t v := hval0
  have hW' := hW
  obtain ⟨p, q, hA0, hV, rfl, hfz, hnd⟩ := hW
  have hA : DataW.TrodAll enc Try.prog W 0 (fun _ => true) true Try.f4.params.toList args.toList ds p := hA0
  rw [Try.params4] at hA hval
  obtain ⟨rfl, rfl, rfl⟩ := trodAll_none hA
  obtain ⟨rfl, rfl⟩ := trodVars_none hV
  clear hA0 hval0
  simp only [List.append_nil] at hW'
  refine (walk  W ).mono fun e W' ⟨he, bel⟩ => ?_
  subst he
  exact ⟨_, rfl, _, _, _, [], [], [], hW', trodAll_mk1 (shut_bool Try.underlying4 _), trodAll_mk0, rfl, bel.frame _, fun h => by cases h⟩

theorem over : Rows.serviceNoneRow.holds Try.pinned (OpenSpec.ofChange Rows.serviceNoneSpec) :=
  OpenClaim.holds_of_wide 4 Try.f4 rfl rfl rfl rfl rfl rfl rfl ⟨rfl, rfl, rfl, rfl, rfl⟩ rfl rfl rfl rfl rfl (by kernel_rfl) Try.func4 (by kernel_rfl)
    (of_decide_eq_true (by kernel_rfl)) (by unfold Func.isWrapper; first | (rw [if_pos (by decide +kernel)]; kernel_rfl) | (rw [if_neg (by decide +kernel)]; exact ⟨rfl, rfl⟩))
    (fun os started H enc _ => lifted os started H enc)

theorem proved : Rows.ServiceNoneSaid := over
end Go.Proofs.Ytmnahgeledddhaa.serviceNone
