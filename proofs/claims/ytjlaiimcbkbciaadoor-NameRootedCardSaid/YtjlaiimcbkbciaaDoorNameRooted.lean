/- For every text, every search list and every number, the law of rooted names returns true. The package variables of Go's library that it reads hold what the program's text lays in them (the card's tie). No other condition. -/
import Derived.Test.YtjlaiimcbkbciaaDoorCards
import Derived.Test.YtjlaiimcbkbciaaDoorTie
import Derived.Test.YtjlaiimcbkbciaaDoorGb
import Derived.Test.YtjlaiimcbkbciaaDoorSl
import Derived.OpenShut
import Derived.ShutString
import Derived.WalkKit
import Derived.ProofKit
import Derived.Test.YtjlaiimcbkbciaaDoorBq
import Derived.Test.YtjlaiimcbkbciaaDoorCc
import Derived.Test.YtjlaiimcbkbciaaDoorNn
namespace Go.Proofs.YtjlaiimcbkbciaaDoor.nameRooted
open Go.ChangeShapes Go.WideShapes Go.ChangeAt Go.RowKit Go.Ev Go.Fr
open Go.ChangeMaps (open_string shut_string)
open Go.Tx Go.Lib
set_option maxHeartbeats 4000000 in
set_option maxRecDepth 100000 in
theorem walk (a0 : ByteArray) (a1 : Option Addr) (n1 c1 : Nat) (a2 : Int) (W : World) (w0 : a0.size ≤ maxLen) (w1 : ∃ zs, Go.Sl.IsStrs W a1 n1 c1 zs) (w2 : (Lit.int .i64 a2).wf = true) (hL : laidMetH Tryd.prog laidL W) (hsh : W.ShapedOpen Tryd.prog) :
    Calls Tryd.prog 6 #[.string a0, .slice a1 n1 c1, .int .i64 a2] W fun e w' => e = .returned (.bool true) ∧ Below W.heap.size W w' := by
  have HB := Lib.hid (begunW W (eok W hL hsh))
  have HM := Lib.hid (maxAt W hsh)
  have hsz := cutB_size a0 250
  have HCut := Lib.hid (fun w => cut_any a0 250 w (by omega))
  have HCl := Lib.hid (fun w => rclean_any (cutB a0 250) w (by omega))
  have hn1 : n1 ≤ maxLen := by
    obtain ⟨zs, h⟩ := w1
    rcases h with ⟨_, h, _⟩ | ⟨_, _, h1, h2, _⟩
    · omega
    · omega
  unfold maxLen at hn1
  clear hL hsh w0 w1 w2
  generalize cutB a0 250 = S at *
  rcases cleanV_cases S.data.toList with ⟨hnb, hcv⟩ | ⟨hnb, hcv⟩
  · have hlen : ((bare S.data.toList).map low).length ≤ 250 := by
      have h1 := bare_len S.data.toList
      have h2 : S.data.toList.length = S.size := rfl
      rw [List.length_map]; omega
    obtain ⟨N, hN⟩ : ∃ N : ByteArray, ⟨((bare S.data.toList).map low).toArray⟩ = N := ⟨_, rfl⟩
    have hNd : N.data.toList = (bare S.data.toList).map low := by rw [← hN]
    have hNs : N.size ≤ 250 := by
      have : N.data.toList.length = N.size := rfl
      rw [← this, hNd]; exact hlen
    have hr := clean_rooted _ hnb
    rw [hN] at hr
    rw [hN] at hcv
    have hr2 : cleanV (N ++ ⟨#[46]⟩ : ByteArray).data.toList = .tuple #[.string N, .bool true, .bool true] := by
      rw [← hr, ← hNd]; simp
    have hns2 : (N ++ ⟨#[46]⟩ : ByteArray).size ≤ maxLen := by
      rw [ByteArray.size_append]
      have : (ByteArray.mk #[46]).size = 1 := rfl
      unfold maxLen; omega
    have HCa := Lib.hid (fun q d w hm => cands_rooted (N ++ ⟨#[46]⟩) N q d w hns2 hm hr2)
    have HV := Lib.hid hcv
    clear hr hr2 hns2 hlen hNd hN hnb hcv hsz
    by_cases h8 : (8 : Int) < (n1 : Int)
    · go_enter Tryd.func6, Tryd.ntmps6
      go_wp2_with (first | (go_at_call 7; refine HB.out.mono ?_; rintro e w2 ⟨rfl, hb⟩) | (go_at_call 8; refine (HCut.out _).mono ?_; rintro e w3 ⟨rfl, rfl⟩) | (go_at_call 15; refine (HCl.out _).mono ?_; rw [HV.out]; rintro e w4 ⟨rfl, hb4⟩))
      all_goals (go_ret; exact ⟨rfl, hb.trans (hb4.mono hb.size)⟩)
    · go_enter Tryd.func6, Tryd.ntmps6
      go_wp2_with (first | (go_at_call 7; refine HB.out.mono ?_; rintro e w2 ⟨rfl, hb⟩) | (go_at_call 8; refine (HCut.out _).mono ?_; rintro e w3 ⟨rfl, rfl⟩) | (go_at_call 15; refine (HCl.out _).mono ?_; rw [HV.out]; rintro e w4 ⟨rfl, hb4⟩) | (go_at_call 10; refine (HCa.out _ _ _ ((HM.out.below hb).below hb4)).mono ?_; rintro e w5 ⟨g, rfl, hcell, hb5⟩))
      all_goals (go_ret; exact ⟨by simp, (hb.trans (hb4.mono hb.size)).trans (hb5.mono (Nat.le_trans hb.size hb4.size))⟩)
  · have HV := Lib.hid hcv
    clear hnb hcv hsz
    go_enter Tryd.func6, Tryd.ntmps6
    go_wp2_with (first | (go_at_call 7; refine HB.out.mono ?_; rintro e w2 ⟨rfl, hb⟩) | (go_at_call 8; refine (HCut.out _).mono ?_; rintro e w3 ⟨rfl, rfl⟩) | (go_at_call 15; refine (HCl.out _).mono ?_; rw [HV.out]; rintro e w4 ⟨rfl, hb4⟩))
    all_goals (go_ret; exact ⟨rfl, hb.trans (hb4.mono hb.size)⟩)

theorem laidOut : laidOutB Tryd.prog = true := by kernel_rfl
set_option maxRecDepth 100000 in
theorem lifted (os : Os) (started : os.Started) (H : Type) (enc : TypeId × Value → H) :
    ReturnsInHanded {} Tryd.checked os 6 .any (fun w args => (Rows.nameRootedSpec.pre enc Tryd.prog Tryd.f6 Rows.nameRootedRow.domain false w args ∧ laidMetH Tryd.prog Rows.nameRootedRow.laid w) ∧ sizedMet enc Tryd.prog Tryd.f6 (OpenSpec.ofChange Rows.nameRootedSpec) false w args)
      (Rows.nameRootedSpec.post enc Tryd.prog Tryd.f6 false true false false) := by
  refine wrap (C := Tryd.checked) (X := fun w _ => laidMetH Tryd.prog Rows.nameRootedRow.laid w) (fun _ _ _ hh h => h.of_heap hh) own started (by kernel_rfl) Tryd.func6
    (ChangeSpec.witness_shaped (enc := enc) (C := Tryd.checked) (os := os) (X := fun w _ => laidMetH Tryd.prog Rows.nameRootedRow.laid w) false (World.laidAll Tryd.prog os Rows.nameRootedRow.laid) #[.string ByteArray.empty, .slice none 0 0, .int .i64 0] 8 (World.laidAll_os _ _ _)
      (World.shaped_of_ZipB (by kernel_rfl) (by kernel_rfl)) (by kernel_rfl) (by kernel_rfl) (by kernel_rfl)
      (by rw [MakeChecks.laidMetH_plain _ _ _ (by kernel_rfl)]; exact laidMet_laidAll _ (by kernel_rfl) (by kernel_rfl))) ?_
  intro W base args ds gs before hval0 hW _ _ hL hsh
  have hval : ∀ (j : Nat) t v, Tryd.f6.params[j]? = some t → args[j]? = some v → Value.okWide Tryd.prog W .any base t v := hval0
  have hW' := hW
  obtain ⟨p, q, hA0, hV, rfl, hfz, hnd⟩ := hW
  have hA : DataW.TrodAll enc Tryd.prog W 0 (fun _ => true) true Tryd.f6.params.toList args.toList ds p := hA0
  rw [Tryd.params6] at hA hval
  obtain ⟨v0, vs0, d0, ds0, p0, q0, hargs, rfl, rfl, h0, r0⟩ := trodAll_cons hA
  obtain ⟨v1, vs1, d1, ds1, p1, q1, rfl, rfl, rfl, h1, r1⟩ := trodAll_cons r0
  obtain ⟨v2, vs2, d2, ds2, p2, q2, rfl, rfl, rfl, h2, r2⟩ := trodAll_cons r1
  obtain ⟨rfl, rfl, rfl⟩ := trodAll_nil r2
  obtain rfl : args = #[v0, v1, v2] := by cases args; simp_all
  obtain ⟨rfl, rfl⟩ := trodVars_none hV
  obtain ⟨a0, rfl, rfl, rfl, w0⟩ := open_string Tryd.underlying9 (hval 0 9 v0 rfl rfl) h0
  obtain ⟨a1, n1, c1, rfl⟩ := okWide_slice Tryd.underlying22 (hval 1 22 v1 rfl rfl)
  have k1 := h1
  have lt1 : ∀ x ∈ p1, x.block < W.heap.size := by obtain ⟨m, hm⟩ := k1; exact DataW.trod_lt m _ _ _ hm
  have w1 := Go.Sl.isStrs_of Tryd.underlying22 Tryd.underlying9 (by kernel_rfl) h1
  obtain ⟨a2, rfl, rfl, rfl, w2⟩ := open_int Tryd.underlying3 (hval 2 3 v2 rfl rfl) h2
  clear hA0 hval0
  simp only [List.append_nil] at hW'
  refine (walk a0 a1 n1 c1 a2 W w0 w1 w2 hL hsh).mono fun e W' ⟨he, bel⟩ => ?_
  subst he
  exact ⟨_, rfl, _, _, _, [], _, [], hW', trodAll_mk1 (shut_bool Tryd.underlying4 _), (trodAll_cons_mk (shut_string Tryd.underlying9 w0) (trodAll_cons_mk (Below.trod laidOut (by kernel_rfl) (of_decide_eq_true (by kernel_rfl)) k1 bel lt1) (trodAll_cons_mk (shut_int Tryd.underlying3 w2) trodAll_mk0))), rfl, bel.frame _, fun h => by cases h⟩

theorem over : Rows.nameRootedRow.holds Tryd.pinned (OpenSpec.ofChange Rows.nameRootedSpec) :=
  OpenClaim.holds_of_wide 6 Tryd.f6 rfl rfl rfl rfl rfl rfl rfl ⟨rfl, rfl, rfl, rfl, rfl⟩ rfl rfl rfl rfl rfl (by kernel_rfl) Tryd.func6 (by kernel_rfl)
    (of_decide_eq_true (by kernel_rfl)) (by unfold Func.isWrapper; first | (rw [if_pos (by decide +kernel)]; kernel_rfl) | (rw [if_neg (by decide +kernel)]; exact ⟨rfl, rfl⟩))
    (fun os started H enc _ => lifted os started H enc)

theorem proved : Rows.NameRootedCardSaid :=
  Claim7.holds_tied_plain_at .later [] Rows.nameRootedCard.laidKinds true Rows.nameRootedCard.stood.harness Rows.nameRootedCard.stood.looks over (fun _ h => by cases h) (by kernel_rfl) (fun _ h => by cases h) nameRooted_row_tie rfl ⟨rfl, rfl⟩ (by kernel_rfl) rfl
    (fun f fn hf hfn => by
      obtain rfl : f = 6 := Option.some.inj ((show Tryd.prog.funcNamed "concierge/conciergelaw4.NameRooted" = some 6 by kernel_rfl).symm.trans hf) |>.symm
      obtain rfl : fn = Tryd.f6 := (Option.some.inj (Tryd.func6.symm.trans hfn)).symm
      exact ⟨by kernel_rfl, fun j t ht => by
        rw [Tryd.params6] at ht
        have hm : t ∈ [9, 22, 3] := by simpa using Array.mem_of_getElem? ht
        have hall : ([9, 22, 3].all fun u => !Tryd.prog.wantsStandIn u) = true := by kernel_rfl
        exact (show Tryd.prog.wantsStandIn t = false by simpa using List.all_eq_true.1 hall t hm)⟩)
    (by kernel_rfl)
end Go.Proofs.YtjlaiimcbkbciaaDoor.nameRooted
