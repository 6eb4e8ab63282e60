/- The law of texts folded and numbers read: for every text and every bound the law returns true. No condition. -/
import Derived.Test.YtmnkdfecclbgfaaRows
import Derived.WalkKit
import Derived.ProofKit
import Derived.OpenShut
import Derived.ShutString
import Derived.Test.YtmnkdfecclbgfaaBg
import Derived.Test.YtmnkdfecclbgfaaTn
import Derived.Test.YtmnkdfecclbgfaaTf
import Derived.Deep.RegionWith
namespace Go.Proofs.Ytmnkdfecclbgfaa.textWords
open Go.ChangeShapes Go.WideShapes Go.ChangeAt Go.RowKit
open Go.ChangeMaps (open_string shut_string)
set_option linter.unusedVariables false      -- a walk need not use every 'w<i>' (that an integer argument fits its kind)

theorem own : ownKnob Try.prog.godebug = none := by kernel_rfl

open Go.Tx Go.Rb
set_option maxHeartbeats 1000000 in
set_option maxRecDepth 100000 in
theorem walk (a0 : ByteArray) (a1 : Int) (w0 : a0.size ≤ maxLen) (w1 : (Lit.int .i64 a1).wf = true) (w : World) :
    Calls Try.prog 8 #[.string a0, .int .i64 a1] w fun e w' => e = .returned (.bool true) ∧ Below w.heap.size w w' := by
  by_cases h : (a0.size : Int) ≤ 100
  · have W0 := Lib.hid w0
    clear w0
    go_enter Try.func8, Try.ntmps8
    go_wp2_with (first | (go_at_call 39; refine (begun2 _).mono ?_; rintro e w2 ⟨rfl, hb⟩) | (go_at_call 43; refine (cut_short a0 100 _ W0.out h).mono ?_; rintro e w2 ⟨rfl, rfl⟩) | (go_at_call 44; refine (num_any _ _ _ W0.out).mono ?_; rintro e w3 ⟨rfl, hb3⟩) | (go_at_call 45; refine (rnum_any _ _ _ W0.out).mono ?_; rintro e w4 ⟨rfl, rfl⟩) | (go_at_call 46; refine (fold_any _ _ W0.out).mono ?_; rintro e w5 ⟨rfl, hb5⟩) | (go_at_call 47; refine (rfold_any _ _ W0.out).mono ?_; rintro e w6 ⟨rfl, hb6⟩))
    go_ret
    exact ⟨rfl, hb.trans (hb3.trans ((hb5.trans (hb6.mono hb5.size)).mono hb3.size) |>.mono hb.size)⟩
  · have W0 := Lib.hid w0
    have hlen : 100 < a0.size := by omega
    have hcut : ∀ w : World, Calls Try.prog 43 #[.string a0, .int .i64 100] w fun e w' => e = .returned (.string (a0.extract 0 100)) ∧ w' = w := fun w => cut_long a0 100 w W0.out hlen
    have W1 : Hid ((a0.extract 0 100).size ≤ maxLen) := Lib.hid (by rw [ByteArray.size_extract]; unfold maxLen; omega)
    have HCUT := Lib.hid hcut
    clear w0 hcut
    generalize a0.extract 0 100 = s at HCUT W1
    go_enter Try.func8, Try.ntmps8
    go_wp2_with (first | (go_at_call 39; refine (begun2 _).mono ?_; rintro e w2 ⟨rfl, hb⟩) | (go_at_call 43; refine (HCUT.out _).mono ?_; rintro e w2 ⟨rfl, rfl⟩) | (go_at_call 44; refine (num_any _ _ _ W1.out).mono ?_; rintro e w3 ⟨rfl, hb3⟩) | (go_at_call 45; refine (rnum_any _ _ _ W1.out).mono ?_; rintro e w4 ⟨rfl, rfl⟩) | (go_at_call 46; refine (fold_any _ _ W1.out).mono ?_; rintro e w5 ⟨rfl, hb5⟩) | (go_at_call 47; refine (rfold_any _ _ W1.out).mono ?_; rintro e w6 ⟨rfl, hb6⟩))
    go_ret
    exact ⟨rfl, hb.trans (hb3.trans ((hb5.trans (hb6.mono hb5.size)).mono hb3.size) |>.mono hb.size)⟩

/-! ### THE ROW's STEP: WRITTEN OUT: LEAVE IT -/
set_option maxRecDepth 100000 in
theorem lifted (os : Os) (started : os.Started) (H : Type) (enc : TypeId × Value → H) :
    ReturnsInHanded {} Try.checked os 8 .any (Rows.textWordsSpec.pre6 enc Try.prog Try.f8 Rows.textWordsRow.domain false) (Rows.textWordsSpec.post enc Try.prog Try.f8 false true false false) := by
  refine returnsInHanded_of_change (C := Try.checked) own started (by kernel_rfl) Try.func8
    (ChangeSpec.witness6 (enc := enc) (C := Try.checked) false ⟨#[], #[.string ByteArray.empty, .int .i64 0], []⟩ 8 (by kernel_rfl) (by kernel_rfl) (by kernel_rfl) (by kernel_rfl)) ?_
  intro W base args ds gs before hval0 hW hcnd _
  have hval : ∀ (j : Nat) t v, Try.f8.params[j]? = some t → args[j]? = some v → Value.okWide Try.prog W .any base t v := hval0
  have hW' := hW
  obtain ⟨p, q, hA0, hV, rfl, hfz, hnd⟩ := hW
  have hA : DataW.TrodAll enc Try.prog W 0 (fun _ => true) true Try.f8.params.toList args.toList ds p := hA0
  rw [Try.params8] at hA hval
  obtain ⟨v0, vs0, d0, ds0, p0, q0, hargs, rfl, rfl, h0, r0⟩ := trodAll_cons hA
  obtain ⟨v1, vs1, d1, ds1, p1, q1, rfl, rfl, rfl, h1, r1⟩ := trodAll_cons r0
  obtain ⟨rfl, rfl, rfl⟩ := trodAll_nil r1
  obtain rfl : args = #[v0, v1] := by cases args; simp_all
  obtain ⟨rfl, rfl⟩ := trodVars_none hV
  obtain ⟨a0, rfl, rfl, rfl, w0⟩ := open_string Try.underlying9 (hval 0 9 v0 rfl rfl) h0
  obtain ⟨a1, rfl, rfl, rfl, w1⟩ := open_int Try.underlying3 (hval 1 3 v1 rfl rfl) h1
  clear hA0 hval0
  simp only [List.append_nil] at hW'
  refine (walk a0 a1 w0 w1 W).mono fun e W' ⟨he, bel⟩ => ?_
  subst he
  exact ⟨_, rfl, _, _, _, [], _, [], hW', trodAll_mk1 (shut_bool Try.underlying4 _), (trodAll_cons_mk (shut_string Try.underlying9 w0) (trodAll_cons_mk (shut_int Try.underlying3 w1) trodAll_mk0)), rfl, bel.frame _, fun h => by cases h⟩

theorem over : Rows.textWordsRow.holds Try.pinned (OpenSpec.ofChange Rows.textWordsSpec) :=
  OpenClaim.holds_of_wide 8 Try.f8 rfl rfl rfl rfl rfl rfl rfl ⟨rfl, rfl, rfl, rfl, rfl⟩ rfl rfl rfl rfl rfl (by kernel_rfl) Try.func8 (by kernel_rfl)
    (of_decide_eq_true (by kernel_rfl)) (by unfold Func.isWrapper; first | (rw [if_pos (by decide +kernel)]; kernel_rfl) | (rw [if_neg (by decide +kernel)]; exact ⟨rfl, rfl⟩))
    (fun os started H enc _ => lifted os started H enc)

/-- ████ THE STATEMENT ████ -/
theorem proved : Rows.TextWordsSaid :=
  over
end Go.Proofs.Ytmnkdfecclbgfaa.textWords
