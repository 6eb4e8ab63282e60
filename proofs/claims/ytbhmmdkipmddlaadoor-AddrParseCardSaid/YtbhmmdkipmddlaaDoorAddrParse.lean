/- For every text, the law of reading addresses returns true. The package variables of Go's library that it reads hold what the program's text lays in them (the card's tie). No other condition. -/
import Derived.Test.YtbhmmdkipmddlaaDoorCards
import Derived.Test.YtbhmmdkipmddlaaDoorTie
import Derived.Test.YtbhmmdkipmddlaaDoorGb
import Derived.Test.YtbhmmdkipmddlaaDoorSl
import Derived.OpenShut
import Derived.ShutString
import Derived.WalkKit
import Derived.ProofKit
import Derived.Test.YtbhmmdkipmddlaaDoorQd
import Derived.Test.YtbhmmdkipmddlaaDoorPf
namespace Go.Proofs.YtbhmmdkipmddlaaDoor.addrParse
open Go.ChangeShapes Go.WideShapes Go.ChangeAt Go.RowKit Go.Ev Go.Fr
open Go.ChangeMaps (open_string shut_string)
open Go.Tx Go.Lib Go.Rb
set_option maxHeartbeats 2000000 in
set_option maxRecDepth 100000 in
theorem walk (a0 : ByteArray) (W : World) (w0 : a0.size ≤ maxLen) (hL : laidMetH Tryd.prog laidL W) (hsh : W.ShapedOpen Tryd.prog) :
    Calls Tryd.prog 3 #[.string a0] W fun e w' => e = .returned (.bool true) ∧ Below W.heap.size W w' := by
  obtain ⟨hg, hp⟩ := glo_at W hL hsh
  have HB := Lib.hid (begun_any W hL hsh)
  obtain ⟨S, hS, hcut⟩ := cutq_any a0 80 w0
  have HCut : Hid (∀ w : World, Calls Tryd.prog 6 #[.string a0, .int .i64 80] w fun e w' => e = .returned (.string S) ∧ w = w') := Lib.hid hcut
  have HPP := Lib.hid (fun (w : World) (hb : Below W.heap.size W w) => paddr_any S w (by omega) (hg.below hb))
  have HRP := Lib.hid (fun (w : World) => rparse_any S w (by omega))
  cases hr : parseP S.data.toList with
  | none =>
    rw [hr] at HPP HRP
    clear hcut hL hsh hg hp hr w0
    go_enter Tryd.func3, Tryd.ntmps3
    go_wp2_with (first | (go_at_call 5; refine HB.out.mono ?_; rintro e w2 ⟨rfl, hb⟩; have HW := Lib.hid hb; clear hb) | (go_at_call 6; refine (HCut.out _).mono ?_; rintro e w3 ⟨rfl, rfl⟩) | (go_at_call 7; refine (HPP.out _ HW.out).mono ?_; rintro e w4 ⟨rfl, hb4⟩; have HW := Lib.hid (keepB HW.out hb4); clear hb4; simp only [Option.getD_none, Option.isSome_none]) | (go_at_call 8; refine (HRP.out _).mono ?_; rintro e w4 ⟨rfl, hb4⟩; have HW := Lib.hid (keepB HW.out hb4); clear hb4; simp only [Option.getD_none, Option.isSome_none]))
    go_ret
    exact ⟨by simp, HW.out⟩
  | some f =>
    have hfl := parseP_len hr
    obtain ⟨x, hx⟩ : ∃ x : ByteArray, (⟨f.toArray⟩ : ByteArray) = x := ⟨_, rfl⟩
    have hxs : x.size ≤ 16 := by rw [← hx]; show f.toArray.size ≤ 16; simp; omega
    have HPP2 : Hid (∀ w, Below W.heap.size W w → Calls Tryd.prog 7 #[.string S] w fun e w' => e = .returned (.tuple #[.string x, .bool true]) ∧ Below w.heap.size w w') := Lib.hid (fun w hb => by
      have := HPP.out w hb
      rw [hr] at this
      rw [← hx]
      exact this)
    have HRP2 : Hid (∀ w, Calls Tryd.prog 8 #[.string S] w fun e w' => e = .returned (.tuple #[.string x, .bool true]) ∧ Below w.heap.size w w') := Lib.hid (fun w => by
      have := HRP.out w
      rw [hr] at this
      rw [← hx]
      exact this)
    obtain ⟨y, hy⟩ : ∃ y : ByteArray, (⟨(printP x.data.toList).toArray⟩ : ByteArray) = y := ⟨_, rfl⟩
    have HPr : Hid (∀ w, Below W.heap.size W w → Calls Tryd.prog 9 #[.string x] w fun e w' => e = .returned (.string y) ∧ Below w.heap.size w w') := Lib.hid (fun w hb => by rw [← hy]; exact pprint_any x w (by omega) (hp.below hb))
    have HRr : Hid (∀ w, Calls Tryd.prog 10 #[.string x] w fun e w' => e = .returned (.string y) ∧ Below w.heap.size w w') := Lib.hid (fun w => by rw [← hy]; exact rprint_any x w (by omega))
    have hxx : (x.toList == x.toList) = true := by simp
    have hyy : (y.toList == y.toList) = true := by simp
    clear hcut hL hsh hg hp hr w0 HPP HRP hx hy hfl
    go_enter Tryd.func3, Tryd.ntmps3
    go_wp2_with (first | (go_at_call 5; refine HB.out.mono ?_; rintro e w2 ⟨rfl, hb⟩; have HW := Lib.hid hb; clear hb) | (go_at_call 6; refine (HCut.out _).mono ?_; rintro e w3 ⟨rfl, rfl⟩) | (go_at_call 7; refine (HPP2.out _ HW.out).mono ?_; rintro e w4 ⟨rfl, hb4⟩; have HW := Lib.hid (keepB HW.out hb4); clear hb4) | (go_at_call 8; refine (HRP2.out _).mono ?_; rintro e w4 ⟨rfl, hb4⟩; have HW := Lib.hid (keepB HW.out hb4); clear hb4) | (go_at_call 9; refine (HPr.out _ HW.out).mono ?_; rintro e w4 ⟨rfl, hb4⟩; have HW := Lib.hid (keepB HW.out hb4); clear hb4) | (go_at_call 10; refine (HRr.out _).mono ?_; rintro e w4 ⟨rfl, hb4⟩; have HW := Lib.hid (keepB HW.out hb4); clear hb4))
    go_ret
    exact ⟨by simp, HW.out⟩

theorem laidOut : laidOutB Tryd.prog = true := by kernel_rfl
set_option maxRecDepth 100000 in
theorem lifted (os : Os) (started : os.Started) (H : Type) (enc : TypeId × Value → H) :
    ReturnsInHanded {} Tryd.checked os 3 .any (fun w args => (Rows.addrParseSpec.pre enc Tryd.prog Tryd.f3 Rows.addrParseRow.domain false w args ∧ laidMetH Tryd.prog Rows.addrParseRow.laid w) ∧ sizedMet enc Tryd.prog Tryd.f3 (OpenSpec.ofChange Rows.addrParseSpec) false w args)
      (Rows.addrParseSpec.post enc Tryd.prog Tryd.f3 false true false false) := by
  refine wrap (C := Tryd.checked) (X := fun w _ => laidMetH Tryd.prog Rows.addrParseRow.laid w) (fun _ _ _ hh h => h.of_heap hh) own started (by kernel_rfl) Tryd.func3
    (ChangeSpec.witness_shaped (enc := enc) (C := Tryd.checked) (os := os) (X := fun w _ => laidMetH Tryd.prog Rows.addrParseRow.laid w) false (World.laidAll Tryd.prog os Rows.addrParseRow.laid) #[.string ByteArray.empty] 8 (World.laidAll_os _ _ _)
      (World.shaped_of_ZipB (by kernel_rfl) (by kernel_rfl)) (by kernel_rfl) (by kernel_rfl) (by kernel_rfl)
      (by rw [MakeChecks.laidMetH_plain _ _ _ (by kernel_rfl)]; exact laidMet_laidAll _ (by kernel_rfl) (by kernel_rfl))) ?_
  intro W base args ds gs before hval0 hW _ _ hL hsh
  have hval : ∀ (j : Nat) t v, Tryd.f3.params[j]? = some t → args[j]? = some v → Value.okWide Tryd.prog W .any base t v := hval0
  have hW' := hW
  obtain ⟨p, q, hA0, hV, rfl, hfz, hnd⟩ := hW
  have hA : DataW.TrodAll enc Tryd.prog W 0 (fun _ => true) true Tryd.f3.params.toList args.toList ds p := hA0
  rw [Tryd.params3] at hA hval
  obtain ⟨v0, vs0, d0, ds0, p0, q0, hargs, rfl, rfl, h0, r0⟩ := trodAll_cons hA
  obtain ⟨rfl, rfl, rfl⟩ := trodAll_nil r0
  obtain rfl : args = #[v0] := by cases args; simp_all
  obtain ⟨rfl, rfl⟩ := trodVars_none hV
  obtain ⟨a0, rfl, rfl, rfl, w0⟩ := open_string Tryd.underlying9 (hval 0 9 v0 rfl rfl) h0
  clear hA0 hval0
  simp only [List.append_nil] at hW'
  refine (walk a0 W w0 hL hsh).mono fun e W' ⟨he, bel⟩ => ?_
  subst he
  exact ⟨_, rfl, _, _, _, [], _, [], hW', trodAll_mk1 (shut_bool Tryd.underlying4 _), (trodAll_cons_mk (shut_string Tryd.underlying9 w0) trodAll_mk0), rfl, bel.frame _, fun h => by cases h⟩

theorem over : Rows.addrParseRow.holds Tryd.pinned (OpenSpec.ofChange Rows.addrParseSpec) :=
  OpenClaim.holds_of_wide 3 Tryd.f3 rfl rfl rfl rfl rfl rfl rfl ⟨rfl, rfl, rfl, rfl, rfl⟩ rfl rfl rfl rfl rfl (by kernel_rfl) Tryd.func3 (by kernel_rfl)
    (of_decide_eq_true (by kernel_rfl)) (by unfold Func.isWrapper; first | (rw [if_pos (by decide +kernel)]; kernel_rfl) | (rw [if_neg (by decide +kernel)]; exact ⟨rfl, rfl⟩))
    (fun os started H enc _ => lifted os started H enc)

theorem proved : Rows.AddrParseCardSaid :=
  Claim7.holds_tied_plain_at .later [] Rows.addrParseCard.laidKinds true Rows.addrParseCard.stood.harness Rows.addrParseCard.stood.looks over (fun _ h => by cases h) (by kernel_rfl) (fun _ h => by cases h) addrParse_row_tie rfl ⟨rfl, rfl⟩ (by kernel_rfl) rfl
    (fun f fn hf hfn => by
      obtain rfl : f = 3 := Option.some.inj ((show Tryd.prog.funcNamed "concierge/conciergelaw3.AddrParse" = some 3 by kernel_rfl).symm.trans hf) |>.symm
      obtain rfl : fn = Tryd.f3 := (Option.some.inj (Tryd.func3.symm.trans hfn)).symm
      exact ⟨by kernel_rfl, fun j t ht => by
        rw [Tryd.params3] at ht
        have hm : t ∈ [9] := by simpa using Array.mem_of_getElem? ht
        have hall : ([9].all fun u => !Tryd.prog.wantsStandIn u) = true := by kernel_rfl
        exact (show Tryd.prog.wantsStandIn t = false by simpa using List.all_eq_true.1 hall t hm)⟩)
    (by kernel_rfl)
end Go.Proofs.YtbhmmdkipmddlaaDoor.addrParse
