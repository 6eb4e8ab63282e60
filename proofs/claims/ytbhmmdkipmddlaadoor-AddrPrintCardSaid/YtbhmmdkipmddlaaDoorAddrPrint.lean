/- For every text, the law of printing addresses returns true. The package variables of Go's library that it reads hold what the program's text lays in them (the card's tie). No other condition. -/
import Derived.Test.YtbhmmdkipmddlaaDoorCards
import Derived.Test.YtbhmmdkipmddlaaDoorTie
import Derived.Test.YtbhmmdkipmddlaaDoorGb
import Derived.Test.YtbhmmdkipmddlaaDoorSl
import Derived.OpenShut
import Derived.ShutString
import Derived.WalkKit
import Derived.ProofKit
import Derived.Test.YtbhmmdkipmddlaaDoorQe
import Derived.Test.YtbhmmdkipmddlaaDoorPf
namespace Go.Proofs.YtbhmmdkipmddlaaDoor.addrPrint
open Go.ChangeShapes Go.WideShapes Go.ChangeAt Go.RowKit Go.Ev Go.Fr
open Go.ChangeMaps (open_string shut_string)
open Go.Tx Go.Lib Go.Rb
theorem printP_len (l : List UInt8) : (printP l).length ≤ 100 := by
  unfold printP
  split
  · rename_i h
    have := join_len [46] (by simp) 3 (l.map fun c => Lib.decDigits c.toNat) (fun x hx => by
      obtain ⟨c, _, rfl⟩ := List.mem_map.1 hx
      exact digits_len c)
    rw [List.length_map, h] at this
    omega
  · split
    · unfold print16
      split
      · have := join_len [58] (by simp) 4 (grpT l) (grpT_few l)
        rw [grpT_len] at this
        omega
      · rename_i i m _
        have h1 := join_len [58] (by simp) 4 ((grpT l).take i) (fun x hx => grpT_few l x (List.mem_of_mem_take hx))
        have h2 := join_len [58] (by simp) 4 ((grpT l).drop (i + m)) (fun x hx => grpT_few l x (List.mem_of_mem_drop hx))
        rw [List.length_take, grpT_len] at h1
        rw [List.length_drop, grpT_len] at h2
        simp only [List.length_append, List.length_cons, List.length_nil]
        omega
    · simp
set_option maxHeartbeats 2000000 in
set_option maxRecDepth 100000 in
theorem walk (a0 : ByteArray) (W : World) (w0 : a0.size ≤ maxLen) (hL : laidMetH Tryd.prog laidL W) (hsh : W.ShapedOpen Tryd.prog) :
    Calls Tryd.prog 4 #[.string a0] W fun e w' => e = .returned (.bool true) ∧ Below W.heap.size W w' := by
  obtain ⟨hg, hp⟩ := glo_at W hL hsh
  have HB := Lib.hid (begun_any W hL hsh)
  obtain ⟨S, hS, hcut⟩ := cutq_any a0 20 w0
  have HCut : Hid (∀ w : World, Calls Tryd.prog 6 #[.string a0, .int .i64 20] w fun e w' => e = .returned (.string S) ∧ w = w') := Lib.hid hcut
  obtain ⟨y, hy⟩ : ∃ y : ByteArray, (⟨(printP S.data.toList).toArray⟩ : ByteArray) = y := ⟨_, rfl⟩
  have hyd : y.data.toList = printP S.data.toList := by rw [← hy]
  have hys : y.size ≤ 100 := by
    have := printP_len S.data.toList
    have e : y.data.toList.length = y.size := rfl
    rw [hyd] at e
    omega
  have HPr : Hid (∀ w, Below W.heap.size W w → Calls Tryd.prog 9 #[.string S] w fun e w' => e = .returned (.string y) ∧ Below w.heap.size w w') := Lib.hid (fun w hb => by rw [← hy]; exact pprint_any S w (by omega) (hp.below hb))
  have HRr : Hid (∀ w, Calls Tryd.prog 10 #[.string S] w fun e w' => e = .returned (.string y) ∧ Below w.heap.size w w') := Lib.hid (fun w => by rw [← hy]; exact rprint_any S w (by omega))
  have hSl : S.data.toList.length = S.size := rfl
  have hyy : (y.toList == y.toList) = true := by simp
  have hSS : (S.toList == S.toList) = true := by simp
  by_cases hc : S.size = 4 ∨ S.size = 16
  · have hrp := read_print S.data.toList (by rw [hSl]; exact hc)
    have HPP : Hid (∀ w, Below W.heap.size W w → Calls Tryd.prog 7 #[.string y] w fun e w' => e = .returned (.tuple #[.string S, .bool true]) ∧ Below w.heap.size w w') := Lib.hid (fun w hb => by
      have := paddr_any y w (by omega) (hg.below hb)
      rw [hyd, hrp] at this
      exact this)
    clear hrp hyd hy hcut hL hsh hg hp w0 hSl
    rcases hc with h | h
    · have h1 : (S.size : Int) = 4 := by omega
      clear h
      go_enter Tryd.func4, Tryd.ntmps4
      go_wp2_with (first | (go_at_call 5; refine HB.out.mono ?_; rintro e w2 ⟨rfl, hb⟩; have HW := Lib.hid hb; clear hb) | (go_at_call 6; refine (HCut.out _).mono ?_; rintro e w3 ⟨rfl, rfl⟩) | (go_at_call 7; refine (HPP.out _ HW.out).mono ?_; rintro e w4 ⟨rfl, hb4⟩; have HW := Lib.hid (keepB HW.out hb4); clear hb4) | (go_at_call 9; refine (HPr.out _ HW.out).mono ?_; rintro e w4 ⟨rfl, hb4⟩; have HW := Lib.hid (keepB HW.out hb4); clear hb4) | (go_at_call 10; refine (HRr.out _).mono ?_; rintro e w4 ⟨rfl, hb4⟩; have HW := Lib.hid (keepB HW.out hb4); clear hb4))
      go_ret
      exact ⟨by simp, HW.out⟩
    · have h1 : (S.size : Int) = 16 := by omega
      clear h
      go_enter Tryd.func4, Tryd.ntmps4
      go_wp2_with (first | (go_at_call 5; refine HB.out.mono ?_; rintro e w2 ⟨rfl, hb⟩; have HW := Lib.hid hb; clear hb) | (go_at_call 6; refine (HCut.out _).mono ?_; rintro e w3 ⟨rfl, rfl⟩) | (go_at_call 7; refine (HPP.out _ HW.out).mono ?_; rintro e w4 ⟨rfl, hb4⟩; have HW := Lib.hid (keepB HW.out hb4); clear hb4) | (go_at_call 9; refine (HPr.out _ HW.out).mono ?_; rintro e w4 ⟨rfl, hb4⟩; have HW := Lib.hid (keepB HW.out hb4); clear hb4) | (go_at_call 10; refine (HRr.out _).mono ?_; rintro e w4 ⟨rfl, hb4⟩; have HW := Lib.hid (keepB HW.out hb4); clear hb4))
      go_ret
      exact ⟨by simp, HW.out⟩
  · have hy0 : y = ⟨#[]⟩ := by
      rw [← hy]
      unfold printP
      rw [if_neg (by rw [hSl]; exact fun e => hc (.inl e)), if_neg (by rw [hSl]; exact fun e => hc (.inr e))]
    have e4 : ((S.size : Int) != 4) = true := by simp; omega
    have e16 : ((S.size : Int) != 16) = true := by simp; omega
    clear hyd hy hcut hL hsh hg hp w0 hSl hc
    subst hy0
    go_enter Tryd.func4, Tryd.ntmps4
    go_wp2_with (first | (go_at_call 5; refine HB.out.mono ?_; rintro e w2 ⟨rfl, hb⟩; have HW := Lib.hid hb; clear hb) | (go_at_call 6; refine (HCut.out _).mono ?_; rintro e w3 ⟨rfl, rfl⟩) | (go_at_call 9; refine (HPr.out _ HW.out).mono ?_; rintro e w4 ⟨rfl, hb4⟩; have HW := Lib.hid (keepB HW.out hb4); clear hb4))
    go_ret
    exact ⟨by simp, HW.out⟩

theorem laidOut : laidOutB Tryd.prog = true := by kernel_rfl
set_option maxRecDepth 100000 in
theorem lifted (os : Os) (started : os.Started) (H : Type) (enc : TypeId × Value → H) :
    ReturnsInHanded {} Tryd.checked os 4 .any (fun w args => (Rows.addrPrintSpec.pre enc Tryd.prog Tryd.f4 Rows.addrPrintRow.domain false w args ∧ laidMetH Tryd.prog Rows.addrPrintRow.laid w) ∧ sizedMet enc Tryd.prog Tryd.f4 (OpenSpec.ofChange Rows.addrPrintSpec) false w args)
      (Rows.addrPrintSpec.post enc Tryd.prog Tryd.f4 false true false false) := by
  refine wrap (C := Tryd.checked) (X := fun w _ => laidMetH Tryd.prog Rows.addrPrintRow.laid w) (fun _ _ _ hh h => h.of_heap hh) own started (by kernel_rfl) Tryd.func4
    (ChangeSpec.witness_shaped (enc := enc) (C := Tryd.checked) (os := os) (X := fun w _ => laidMetH Tryd.prog Rows.addrPrintRow.laid w) false (World.laidAll Tryd.prog os Rows.addrPrintRow.laid) #[.string ByteArray.empty] 8 (World.laidAll_os _ _ _)
      (World.shaped_of_ZipB (by kernel_rfl) (by kernel_rfl)) (by kernel_rfl) (by kernel_rfl) (by kernel_rfl)
      (by rw [MakeChecks.laidMetH_plain _ _ _ (by kernel_rfl)]; exact laidMet_laidAll _ (by kernel_rfl) (by kernel_rfl))) ?_
  intro W base args ds gs before hval0 hW _ _ hL hsh
  have hval : ∀ (j : Nat) t v, Tryd.f4.params[j]? = some t → args[j]? = some v → Value.okWide Tryd.prog W .any base t v := hval0
  have hW' := hW
  obtain ⟨p, q, hA0, hV, rfl, hfz, hnd⟩ := hW
  have hA : DataW.TrodAll enc Tryd.prog W 0 (fun _ => true) true Tryd.f4.params.toList args.toList ds p := hA0
  rw [Tryd.params4] at hA hval
  obtain ⟨v0, vs0, d0, ds0, p0, q0, hargs, rfl, rfl, h0, r0⟩ := trodAll_cons hA
  obtain ⟨rfl, rfl, rfl⟩ := trodAll_nil r0
  obtain rfl : args = #[v0] := by cases args; simp_all
  obtain ⟨rfl, rfl⟩ := trodVars_none hV
  obtain ⟨a0, rfl, rfl, rfl, w0⟩ := open_string Tryd.underlying9 (hval 0 9 v0 rfl rfl) h0
  clear hA0 hval0
  simp only [List.append_nil] at hW'
  refine (walk a0 W w0 hL hsh).mono fun e W' ⟨he, bel⟩ => ?_
  subst he
  exact ⟨_, rfl, _, _, _, [], _, [], hW', trodAll_mk1 (shut_bool Tryd.underlying4 _), (trodAll_cons_mk (shut_string Tryd.underlying9 w0) trodAll_mk0), rfl, bel.frame _, fun h => by cases h⟩

theorem over : Rows.addrPrintRow.holds Tryd.pinned (OpenSpec.ofChange Rows.addrPrintSpec) :=
  OpenClaim.holds_of_wide 4 Tryd.f4 rfl rfl rfl rfl rfl rfl rfl ⟨rfl, rfl, rfl, rfl, rfl⟩ rfl rfl rfl rfl rfl (by kernel_rfl) Tryd.func4 (by kernel_rfl)
    (of_decide_eq_true (by kernel_rfl)) (by unfold Func.isWrapper; first | (rw [if_pos (by decide +kernel)]; kernel_rfl) | (rw [if_neg (by decide +kernel)]; exact ⟨rfl, rfl⟩))
    (fun os started H enc _ => lifted os started H enc)

theorem proved : Rows.AddrPrintCardSaid :=
  Claim7.holds_tied_plain_at .later [] Rows.addrPrintCard.laidKinds true Rows.addrPrintCard.stood.harness Rows.addrPrintCard.stood.looks over (fun _ h => by cases h) (by kernel_rfl) (fun _ h => by cases h) addrPrint_row_tie rfl ⟨rfl, rfl⟩ (by kernel_rfl) rfl
    (fun f fn hf hfn => by
      obtain rfl : f = 4 := Option.some.inj ((show Tryd.prog.funcNamed "concierge/conciergelaw3.AddrPrint" = some 4 by kernel_rfl).symm.trans hf) |>.symm
      obtain rfl : fn = Tryd.f4 := (Option.some.inj (Tryd.func4.symm.trans hfn)).symm
      exact ⟨by kernel_rfl, fun j t ht => by
        rw [Tryd.params4] at ht
        have hm : t ∈ [9] := by simpa using Array.mem_of_getElem? ht
        have hall : ([9].all fun u => !Tryd.prog.wantsStandIn u) = true := by kernel_rfl
        exact (show Tryd.prog.wantsStandIn t = false by simpa using List.all_eq_true.1 hall t hm)⟩)
    (by kernel_rfl)
end Go.Proofs.YtbhmmdkipmddlaaDoor.addrPrint
