/- For all lengths a and numbers b of labels, and both truths, the law of longest names returns true. The package variables of Go's library that it reads hold what the program's text lays in them (the card's tie). No other condition. -/
import Derived.Test.YtjlaiimcbkbciaaDoorCards
import Derived.Test.YtjlaiimcbkbciaaDoorTie
import Derived.Test.YtjlaiimcbkbciaaDoorGb
import Derived.OpenShut
import Derived.ShutString
import Derived.WalkKit
import Derived.ProofKit
import Derived.Test.YtjlaiimcbkbciaaDoorTb5
namespace Go.Proofs.YtjlaiimcbkbciaaDoor.nameLimits
open Go.ChangeShapes Go.WideShapes Go.ChangeAt Go.RowKit Go.Ev Go.Fr
open Go.ChangeMaps (open_string shut_string)
theorem begun1 (w : World) (h : EOK E0 (Bas.of w)) : Calls Tryd.prog 7 #[] w fun e w' => e = .returned (.bool true) ∧ Below w.heap.size w w' :=
  (FnOK.tab h fol kb [] H00 (.bool true) H00 rfl (fun _ => none) w [] (HR.none00 Tryd.prog w) (fun _ _ _ => rfl) VRL.nil).mono fun e w' ⟨v, ρ', h1, h2, h3, h4⟩ => by
    simp only [VR] at h2
    subst h2
    refine ⟨h1, h4.os, h4.tape, h4.output, h4.size, fun k hk => h4.frame k hk ?_⟩
    rintro ⟨n, o, cp, e, _⟩
    rw [show H00.objs.get n = none from Tr.get_leaf n] at e
    cases e
theorem run (a : Int) (ha : 60 ≤ a) (ha2 : a ≤ 66) (b : Int) (hb : 0 ≤ b) (hb2 : b ≤ 5) : p a b = true := by
  have h : a = 60 ∨ a = 61 ∨ a = 62 ∨ a = 63 ∨ a = 64 ∨ a = 65 ∨ a = 66 := by omega
  rcases h with rfl | rfl | rfl | rfl | rfl | rfl | rfl
  · exact each_spec r60 b hb (by omega)
  · exact each_spec r61 b hb (by omega)
  · exact each_spec r62 b hb (by omega)
  · exact each_spec r63 b hb (by omega)
  · exact each_spec r64 b hb (by omega)
  · exact each_spec r65 b hb (by omega)
  · exact each_spec r66 b hb (by omega)
theorem runs (a : Int) (ha : 60 ≤ a) (ha2 : a ≤ 66) (b : Int) (hb : 0 ≤ b) (hb2 : b ≤ 5) (c : Bool) : yes (aFn E1 200 5 [.int .i64 a, .int .i64 b, .bool c] H00) = true := by
  have h := run a ha ha2 b hb hb2
  unfold p at h
  split at h
  · cases c
    · exact h
    · assumption
  · cases h
set_option maxHeartbeats 4000000 in
set_option maxRecDepth 100000 in
theorem walk (a0 : Int) (a1 : Int) (a2 : Bool) (w0 : (Lit.int .i64 a0).wf = true) (w1 : (Lit.int .i64 a1).wf = true) (w : World) (hL : laidMetH Tryd.prog laidL w) (hsh : w.ShapedOpen Tryd.prog) :
    Calls Tryd.prog 5 #[.int .i64 a0, .int .i64 a1, .bool a2] w fun e w' => e = .returned (.bool true) ∧ Below w.heap.size w w' := by
  have h := eok w hL hsh
  by_cases hc : a0 < 60 ∨ 66 < a0 ∨ a1 < 0 ∨ 5 < a1
  · have HB := Lib.hid (begun1 w h)
    clear h hL hsh
    rcases hc with hc | hc | hc | hc
    · go_enter Tryd.func5, Tryd.ntmps5
      go_wp2_with (go_at_call 7; refine HB.out.mono ?_; rintro e w2 ⟨rfl, hb⟩)
      all_goals (go_ret; exact ⟨rfl, hb⟩)
    · have h0 : ¬ a0 < 60 := by omega
      go_enter Tryd.func5, Tryd.ntmps5
      go_wp2_with (go_at_call 7; refine HB.out.mono ?_; rintro e w2 ⟨rfl, hb⟩)
      all_goals (go_ret; exact ⟨rfl, hb⟩)
    · by_cases h0 : a0 < 60 <;> by_cases h1 : 66 < a0
      all_goals go_enter Tryd.func5, Tryd.ntmps5
      all_goals go_wp2_with (go_at_call 7; refine HB.out.mono ?_; rintro e w2 ⟨rfl, hb⟩)
      all_goals (go_ret; exact ⟨rfl, hb⟩)
    · by_cases h0 : a0 < 60 <;> by_cases h1 : 66 < a0 <;> by_cases h2 : a1 < 0
      all_goals go_enter Tryd.func5, Tryd.ntmps5
      all_goals go_wp2_with (go_at_call 7; refine HB.out.mono ?_; rintro e w2 ⟨rfl, hb⟩)
      all_goals (go_ret; exact ⟨rfl, hb⟩)
  · exact closedL w (eok1 h) fol (runs a0 (by omega) (by omega) a1 (by omega) (by omega) a2) (VRL.int1 (VRL.int1 (VRL.bool1 VRL.nil)))

set_option maxRecDepth 100000 in
theorem lifted (os : Os) (started : os.Started) (H : Type) (enc : TypeId × Value → H) :
    ReturnsInHanded {} Tryd.checked os 5 .any (fun w args => (Rows.nameLimitsSpec.pre enc Tryd.prog Tryd.f5 Rows.nameLimitsRow.domain false w args ∧ laidMetH Tryd.prog Rows.nameLimitsRow.laid w) ∧ sizedMet enc Tryd.prog Tryd.f5 (OpenSpec.ofChange Rows.nameLimitsSpec) false w args)
      (Rows.nameLimitsSpec.post enc Tryd.prog Tryd.f5 false true false false) := by
  refine wrap (C := Tryd.checked) (X := fun w _ => laidMetH Tryd.prog Rows.nameLimitsRow.laid w) (fun _ _ _ hh h => h.of_heap hh) own started (by kernel_rfl) Tryd.func5
    (ChangeSpec.witness_shaped (enc := enc) (C := Tryd.checked) (os := os) (X := fun w _ => laidMetH Tryd.prog Rows.nameLimitsRow.laid w) false (World.laidAll Tryd.prog os Rows.nameLimitsRow.laid) #[.int .i64 0, .int .i64 0, .bool false] 8 (World.laidAll_os _ _ _)
      (World.shaped_of_ZipB (by kernel_rfl) (by kernel_rfl)) (by kernel_rfl) (by kernel_rfl) (by kernel_rfl)
      (by rw [MakeChecks.laidMetH_plain _ _ _ (by kernel_rfl)]; exact laidMet_laidAll _ (by kernel_rfl) (by kernel_rfl))) ?_
  intro W base args ds gs before hval0 hW _ _ hL hsh
  have hval : ∀ (j : Nat) t v, Tryd.f5.params[j]? = some t → args[j]? = some v → Value.okWide Tryd.prog W .any base t v := hval0
  have hW' := hW
  obtain ⟨p, q, hA0, hV, rfl, hfz, hnd⟩ := hW
  have hA : DataW.TrodAll enc Tryd.prog W 0 (fun _ => true) true Tryd.f5.params.toList args.toList ds p := hA0
  rw [Tryd.params5] at hA hval
  obtain ⟨v0, vs0, d0, ds0, p0, q0, hargs, rfl, rfl, h0, r0⟩ := trodAll_cons hA
  obtain ⟨v1, vs1, d1, ds1, p1, q1, rfl, rfl, rfl, h1, r1⟩ := trodAll_cons r0
  obtain ⟨v2, vs2, d2, ds2, p2, q2, rfl, rfl, rfl, h2, r2⟩ := trodAll_cons r1
  obtain ⟨rfl, rfl, rfl⟩ := trodAll_nil r2
  obtain rfl : args = #[v0, v1, v2] := by cases args; simp_all
  obtain ⟨rfl, rfl⟩ := trodVars_none hV
  obtain ⟨a0, rfl, rfl, rfl, w0⟩ := open_int Tryd.underlying3 (hval 0 3 v0 rfl rfl) h0
  obtain ⟨a1, rfl, rfl, rfl, w1⟩ := open_int Tryd.underlying3 (hval 1 3 v1 rfl rfl) h1
  obtain ⟨a2, rfl, rfl, rfl⟩ := open_bool Tryd.underlying4 (hval 2 4 v2 rfl rfl) h2
  clear hA0 hval0
  simp only [List.append_nil] at hW'
  refine (walk a0 a1 a2 w0 w1 W hL hsh).mono fun e W' ⟨he, bel⟩ => ?_
  subst he
  exact ⟨_, rfl, _, _, _, [], _, [], hW', trodAll_mk1 (shut_bool Tryd.underlying4 _), (trodAll_cons_mk (shut_int Tryd.underlying3 w0) (trodAll_cons_mk (shut_int Tryd.underlying3 w1) (trodAll_cons_mk (shut_bool Tryd.underlying4 _) trodAll_mk0))), rfl, bel.frame _, fun h => by cases h⟩

theorem over : Rows.nameLimitsRow.holds Tryd.pinned (OpenSpec.ofChange Rows.nameLimitsSpec) :=
  OpenClaim.holds_of_wide 5 Tryd.f5 rfl rfl rfl rfl rfl rfl rfl ⟨rfl, rfl, rfl, rfl, rfl⟩ rfl rfl rfl rfl rfl (by kernel_rfl) Tryd.func5 (by kernel_rfl)
    (of_decide_eq_true (by kernel_rfl)) (by unfold Func.isWrapper; first | (rw [if_pos (by decide +kernel)]; kernel_rfl) | (rw [if_neg (by decide +kernel)]; exact ⟨rfl, rfl⟩))
    (fun os started H enc _ => lifted os started H enc)

theorem proved : Rows.NameLimitsCardSaid :=
  Claim7.holds_tied_plain_at .later [] Rows.nameLimitsCard.laidKinds true Rows.nameLimitsCard.stood.harness Rows.nameLimitsCard.stood.looks over (fun _ h => by cases h) (by kernel_rfl) (fun _ h => by cases h) nameLimits_row_tie rfl ⟨rfl, rfl⟩ (by kernel_rfl) rfl
    (fun f fn hf hfn => by
      obtain rfl : f = 5 := Option.some.inj ((show Tryd.prog.funcNamed "concierge/conciergelaw4.NameLimits" = some 5 by kernel_rfl).symm.trans hf) |>.symm
      obtain rfl : fn = Tryd.f5 := (Option.some.inj (Tryd.func5.symm.trans hfn)).symm
      exact ⟨by kernel_rfl, fun j t ht => by
        rw [Tryd.params5] at ht
        have hm : t ∈ [3, 3, 4] := by simpa using Array.mem_of_getElem? ht
        have hall : ([3, 3, 4].all fun u => !Tryd.prog.wantsStandIn u) = true := by kernel_rfl
        exact (show Tryd.prog.wantsStandIn t = false by simpa using List.all_eq_true.1 hall t hm)⟩)
    (by kernel_rfl)
end Go.Proofs.YtjlaiimcbkbciaaDoor.nameLimits
