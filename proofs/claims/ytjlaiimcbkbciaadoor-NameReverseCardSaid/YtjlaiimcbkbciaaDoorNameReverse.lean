/- For every text, the law of an address' name in reverse returns true. The package variables of Go's library that it reads hold what the program's text lays in them (the card's tie). No other condition. -/
import Derived.Test.YtjlaiimcbkbciaaDoorCards
import Derived.Test.YtjlaiimcbkbciaaDoorTie
import Derived.Test.YtjlaiimcbkbciaaDoorGb
import Derived.Test.YtjlaiimcbkbciaaDoorSl
import Derived.OpenShut
import Derived.ShutString
import Derived.WalkKit
import Derived.ProofKit
import Derived.Test.YtjlaiimcbkbciaaDoorBq
import Derived.Test.YtjlaiimcbkbciaaDoorGe
namespace Go.Proofs.YtjlaiimcbkbciaaDoor.nameReverse
open Go.ChangeShapes Go.WideShapes Go.ChangeAt Go.RowKit Go.Ev Go.Fr
open Go.ChangeMaps (open_string shut_string)
open Go.Tx Go.Lib
set_option maxHeartbeats 2000000 in
set_option maxRecDepth 100000 in
theorem walk (a0 : ByteArray) (W : World) (w0 : a0.size ≤ maxLen) (hL : laidMetH Tryd.prog laidL W) (hsh : W.ShapedOpen Tryd.prog) :
    Calls Tryd.prog 4 #[.string a0] W fun e w' => e = .returned (.bool true) ∧ Below W.heap.size W w' := by
  have hE := eok W hL hsh
  have HB := Lib.hid (begunW W hE)
  have HM := Lib.hid (maxAt W hsh)
  have hsz := cutB_size a0 20
  have HCut := Lib.hid (fun w => cut_any a0 20 w (by omega))
  have HNR := Lib.hid (fun (w : World) (hb : Below W.heap.size W w) => nrev_any (cutB a0 20) w (by omega) hE hb)
  have HRR := Lib.hid (fun (w : World) => rrev_any (cutB a0 20) w (by omega))
  obtain ⟨n, r, hcv⟩ := clean_rev (cutB a0 20).data.toList
  have hrl := refR_len (cutB a0 20).data.toList
  have hSl : (cutB a0 20).data.toList.length = (cutB a0 20).size := rfl
  rw [hSl] at hcv
  clear hSl hL hsh w0 hE
  generalize cutB a0 20 = S at *
  obtain ⟨R, hR⟩ : ∃ R : ByteArray, ⟨(refR S.data.toList).toArray⟩ = R := ⟨_, rfl⟩
  have hRd : R.data.toList = refR S.data.toList := by rw [← hR]
  have hRs : R.size ≤ 253 := by
    have : R.data.toList.length = R.size := rfl
    rw [← this, hRd]; exact hrl
  rw [← hRd] at hcv
  rw [hR] at HNR HRR
  have HCl := Lib.hid (fun (w : World) hm => clean_any R w (by unfold maxLen; omega) hm)
  rw [hcv] at HCl
  clear hcv hRd hR hrl
  have hc : S.size = 4 ∨ S.size = 16 ∨ (S.size ≠ 4 ∧ S.size ≠ 16) := by omega
  rcases hc with h | h | ⟨h, h'⟩
  · have h1 : (S.size : Int) = 4 := by omega
    have e : (decide (S.size = 4) || decide (S.size = 16)) = true := by rw [h]; rfl
    rw [e] at HCl
    clear e h
    go_enter Tryd.func4, Tryd.ntmps4
    go_wp2_with (first | (go_at_call 7; refine HB.out.mono ?_; rintro e w2 ⟨rfl, hb⟩) | (go_at_call 8; refine (HCut.out _).mono ?_; rintro e w3 ⟨rfl, rfl⟩) | (go_at_call 12; refine (HNR.out _ hb).mono ?_; rintro e w4 ⟨rfl, hb4⟩) | (go_at_call 13; refine (HCl.out _ ((HM.out.below hb).below hb4)).mono ?_; rintro e w5 ⟨rfl, hb5⟩) | (go_at_call 14; refine (HRR.out _).mono ?_; rintro e w6 ⟨rfl, hb6⟩))
    go_ret
    exact ⟨by simp, ((hb.trans (hb4.mono hb.size)).trans (hb5.mono (Nat.le_trans hb.size hb4.size))).trans (hb6.mono (Nat.le_trans (Nat.le_trans hb.size hb4.size) hb5.size))⟩
  · have h1 : (S.size : Int) = 16 := by omega
    have e : (decide (S.size = 4) || decide (S.size = 16)) = true := by rw [h]; rfl
    rw [e] at HCl
    clear e h
    go_enter Tryd.func4, Tryd.ntmps4
    go_wp2_with (first | (go_at_call 7; refine HB.out.mono ?_; rintro e w2 ⟨rfl, hb⟩) | (go_at_call 8; refine (HCut.out _).mono ?_; rintro e w3 ⟨rfl, rfl⟩) | (go_at_call 12; refine (HNR.out _ hb).mono ?_; rintro e w4 ⟨rfl, hb4⟩) | (go_at_call 13; refine (HCl.out _ ((HM.out.below hb).below hb4)).mono ?_; rintro e w5 ⟨rfl, hb5⟩) | (go_at_call 14; refine (HRR.out _).mono ?_; rintro e w6 ⟨rfl, hb6⟩))
    go_ret
    exact ⟨by simp, ((hb.trans (hb4.mono hb.size)).trans (hb5.mono (Nat.le_trans hb.size hb4.size))).trans (hb6.mono (Nat.le_trans (Nat.le_trans hb.size hb4.size) hb5.size))⟩
  · have h1 : ((S.size : Int) == 4) = false := beq_eq_false_iff_ne.2 (by omega)
    have h2 : ((S.size : Int) == 16) = false := beq_eq_false_iff_ne.2 (by omega)
    have e : (decide (S.size = 4) || decide (S.size = 16)) = false := by rw [decide_eq_false h, decide_eq_false h']; rfl
    rw [e] at HCl
    clear e h h'
    go_enter Tryd.func4, Tryd.ntmps4
    go_wp2_with (first | (go_at_call 7; refine HB.out.mono ?_; rintro e w2 ⟨rfl, hb⟩) | (go_at_call 8; refine (HCut.out _).mono ?_; rintro e w3 ⟨rfl, rfl⟩) | (go_at_call 12; refine (HNR.out _ hb).mono ?_; rintro e w4 ⟨rfl, hb4⟩) | (go_at_call 13; refine (HCl.out _ ((HM.out.below hb).below hb4)).mono ?_; rintro e w5 ⟨rfl, hb5⟩) | (go_at_call 14; refine (HRR.out _).mono ?_; rintro e w6 ⟨rfl, hb6⟩))
    go_ret
    exact ⟨by simp, ((hb.trans (hb4.mono hb.size)).trans (hb5.mono (Nat.le_trans hb.size hb4.size))).trans (hb6.mono (Nat.le_trans (Nat.le_trans hb.size hb4.size) hb5.size))⟩

theorem laidOut : laidOutB Tryd.prog = true := by kernel_rfl
set_option maxRecDepth 100000 in
theorem lifted (os : Os) (started : os.Started) (H : Type) (enc : TypeId × Value → H) :
    ReturnsInHanded {} Tryd.checked os 4 .any (fun w args => (Rows.nameReverseSpec.pre enc Tryd.prog Tryd.f4 Rows.nameReverseRow.domain false w args ∧ laidMetH Tryd.prog Rows.nameReverseRow.laid w) ∧ sizedMet enc Tryd.prog Tryd.f4 (OpenSpec.ofChange Rows.nameReverseSpec) false w args)
      (Rows.nameReverseSpec.post enc Tryd.prog Tryd.f4 false true false false) := by
  refine wrap (C := Tryd.checked) (X := fun w _ => laidMetH Tryd.prog Rows.nameReverseRow.laid w) (fun _ _ _ hh h => h.of_heap hh) own started (by kernel_rfl) Tryd.func4
    (ChangeSpec.witness_shaped (enc := enc) (C := Tryd.checked) (os := os) (X := fun w _ => laidMetH Tryd.prog Rows.nameReverseRow.laid w) false (World.laidAll Tryd.prog os Rows.nameReverseRow.laid) #[.string ByteArray.empty] 8 (World.laidAll_os _ _ _)
      (World.shaped_of_ZipB (by kernel_rfl) (by kernel_rfl)) (by kernel_rfl) (by kernel_rfl) (by kernel_rfl)
      (by rw [MakeChecks.laidMetH_plain _ _ _ (by kernel_rfl)]; exact laidMet_laidAll _ (by kernel_rfl) (by kernel_rfl))) ?_
  intro W base args ds gs before hval0 hW _ _ hL hsh
  have hval : ∀ (j : Nat) t v, Tryd.f4.params[j]? = some t → args[j]? = some v → Value.okWide Tryd.prog W .any base t v := hval0
  have hW' := hW
  obtain ⟨p, q, hA0, hV, rfl, hfz, hnd⟩ := hW
  have hA : DataW.TrodAll enc Tryd.prog W 0 (fun _ => true) true Tryd.f4.params.toList args.toList ds p := hA0
  rw [Tryd.params4] at hA hval
  obtain ⟨v0, vs0, d0, ds0, p0, q0, hargs, rfl, rfl, h0, r0⟩ := trodAll_cons hA
  obtain ⟨rfl, rfl, rfl⟩ := trodAll_nil r0
  obtain rfl : args = #[v0] := by cases args; simp_all
  obtain ⟨rfl, rfl⟩ := trodVars_none hV
  obtain ⟨a0, rfl, rfl, rfl, w0⟩ := open_string Tryd.underlying9 (hval 0 9 v0 rfl rfl) h0
  clear hA0 hval0
  simp only [List.append_nil] at hW'
  refine (walk a0 W w0 hL hsh).mono fun e W' ⟨he, bel⟩ => ?_
  subst he
  exact ⟨_, rfl, _, _, _, [], _, [], hW', trodAll_mk1 (shut_bool Tryd.underlying4 _), (trodAll_cons_mk (shut_string Tryd.underlying9 w0) trodAll_mk0), rfl, bel.frame _, fun h => by cases h⟩

theorem over : Rows.nameReverseRow.holds Tryd.pinned (OpenSpec.ofChange Rows.nameReverseSpec) :=
  OpenClaim.holds_of_wide 4 Tryd.f4 rfl rfl rfl rfl rfl rfl rfl ⟨rfl, rfl, rfl, rfl, rfl⟩ rfl rfl rfl rfl rfl (by kernel_rfl) Tryd.func4 (by kernel_rfl)
    (of_decide_eq_true (by kernel_rfl)) (by unfold Func.isWrapper; first | (rw [if_pos (by decide +kernel)]; kernel_rfl) | (rw [if_neg (by decide +kernel)]; exact ⟨rfl, rfl⟩))
    (fun os started H enc _ => lifted os started H enc)

theorem proved : Rows.NameReverseCardSaid :=
  Claim7.holds_tied_plain_at .later [] Rows.nameReverseCard.laidKinds true Rows.nameReverseCard.stood.harness Rows.nameReverseCard.stood.looks over (fun _ h => by cases h) (by kernel_rfl) (fun _ h => by cases h) nameReverse_row_tie rfl ⟨rfl, rfl⟩ (by kernel_rfl) rfl
    (fun f fn hf hfn => by
      obtain rfl : f = 4 := Option.some.inj ((show Tryd.prog.funcNamed "concierge/conciergelaw4.NameReverse" = some 4 by kernel_rfl).symm.trans hf) |>.symm
      obtain rfl : fn = Tryd.f4 := (Option.some.inj (Tryd.func4.symm.trans hfn)).symm
      exact ⟨by kernel_rfl, fun j t ht => by
        rw [Tryd.params4] at ht
        have hm : t ∈ [9] := by simpa using Array.mem_of_getElem? ht
        have hall : ([9].all fun u => !Tryd.prog.wantsStandIn u) = true := by kernel_rfl
        exact (show Tryd.prog.wantsStandIn t = false by simpa using List.all_eq_true.1 hall t hm)⟩)
    (by kernel_rfl)
end Go.Proofs.YtjlaiimcbkbciaaDoor.nameReverse
