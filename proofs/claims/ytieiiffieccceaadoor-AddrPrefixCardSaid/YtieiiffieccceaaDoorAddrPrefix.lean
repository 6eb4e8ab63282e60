/- The law of addresses and their prefixes: for every two texts it returns true. The package variables of Go's library that it reads hold what the program's text lays in them (the card's tie). No other condition. -/
import Derived.Test.YtieiiffieccceaaDoorCards
import Derived.Test.YtieiiffieccceaaDoorTie
import Derived.Test.YtieiiffieccceaaDoorGb
import Derived.Test.YtieiiffieccceaaDoorAx
import Derived.ShutString
namespace Go.Proofs.YtieiiffieccceaaDoor.addrPrefix
open Go.ChangeShapes Go.WideShapes Go.ChangeAt Go.RowKit Go.Ev Go.Fr Go.Am
open Go.ChangeMaps (open_string shut_string)
open Go.Lib (toList_data)
set_option maxRecDepth 1000000 in
theorem run7 (b1 o1 b2 o2 : Nat) : yes (aFn (E0 b1 o1 b2 o2) 200 7 [] H00) = true := by kernel_rfl
theorem begun (W : World) (hL : laidMetH Tryd.prog laidL W) (hsh : W.ShapedOpen Tryd.prog) :
    Calls Tryd.prog 7 #[] W fun e w' => e = .returned (.bool true) ∧ Below W.heap.size W w' := by
  obtain ⟨b1, o1, b2, o2, h⟩ := eok W hL hsh
  exact closed W h fol (run7 b1 o1 b2 o2)
set_option maxHeartbeats 1000000 in
set_option maxRecDepth 100000 in
theorem walk (a0 a1 : ByteArray) (h0 : a0.size ≤ maxLen) (h1 : a1.size ≤ maxLen) (W : World) (hB : Hid (Calls Tryd.prog 7 #[] W fun e w' => e = .returned (.bool true) ∧ Below W.heap.size W w')) :
    Calls Tryd.prog 5 #[.string a0, .string a1] W fun e w' => e = .returned (.bool true) ∧ Below W.heap.size W w' := by
  obtain ⟨a, ha, hca⟩ := cut_any a0 16 h0
  obtain ⟨b, hb, hcb⟩ := cut_any a1 16 h1
  have HA : Hid (∀ w : World, Calls Tryd.prog 8 #[.string a0, .int .i64 16] w fun e w' => e = .returned (.string a) ∧ w = w') := Lib.hid hca
  have HC : Hid (∀ w : World, Calls Tryd.prog 8 #[.string a1, .int .i64 16] w fun e w' => e = .returned (.string b) ∧ w = w') := Lib.hid hcb
  clear hca hcb h0 h1
  by_cases hab : a.size = b.size
  · have e1 : ((a.size : Int) != (b.size : Int)) = false := by rw [hab]; simp
    have HAB := Lib.hid hab
    clear hab
    by_cases h4 : a.size = 4 ∨ a.size = 16
    · have h2 : ((a.size : Int) != 4) = false ∨ (((a.size : Int) != 4) = true ∧ ((a.size : Int) != 16) = false) := by
        rcases h4 with h | h
        · left; rw [h]; rfl
        · right; rw [h]; exact ⟨rfl, rfl⟩
      have H4 := Lib.hid h4
      clear h4
      rcases h2 with h2 | ⟨h2, h3⟩
      all_goals
        go_enter Tryd.func5, Tryd.ntmps5
        go_wp2_with (first | (go_at_call 7; refine (Hid.out hB).mono ?_; rintro e w1 ⟨rfl, hb1⟩) | (go_at_call 8; (with_reducible refine (HA.out _).mono ?_); rintro e w2 ⟨rfl, rfl⟩) | (go_at_call 8; (with_reducible refine (HC.out _).mono ?_); rintro e w2 ⟨rfl, rfl⟩) | (go_at_call 13; refine (common_any _ _ _ HAB.out H4.out).mono ?_; rintro e w3 ⟨rfl, hb3⟩))
        have hL0 : a.data.toList.length = a.size := by simp
        have hL1 : b.data.toList.length = b.size := by simp
        have hself : alk a.data.toList a.data.toList = 8 * a.size := by rw [alk_self, hL0]
        have hle : alk a.data.toList b.data.toList ≤ 8 * a.size := by have := alk_le a.data.toList b.data.toList (by rw [hL0, hL1]; exact HAB.out); rw [hL0] at this; exact this
        have heq := alk_eq a.data.toList b.data.toList (by rw [hL0, hL1]; exact HAB.out)
        rw [hL0] at heq
        have HIN : Hid (∀ (n : Int) (w : World), Calls Tryd.prog 14 #[.string a, .string b, .int .i64 n] w fun e w' => e = .returned (.bool (inB n (alk a.data.toList b.data.toList))) ∧ Below w.heap.size w w') := Lib.hid fun n w => in_any a b n w HAB.out (by omega)
        have HSELF : Hid (∀ (n : Int) (w : World), Calls Tryd.prog 14 #[.string a, .string a, .int .i64 n] w fun e w' => e = .returned (.bool (inB n (8 * a.size))) ∧ Below w.heap.size w w') := Lib.hid fun n w => by rw [← hself]; exact in_any a a n w rfl (by omega)
        have HQ := Lib.hid heq
        clear hL0 hL1 hself heq
        generalize alk a.data.toList b.data.toList = m at hle HIN HQ ⊢
        go_loopw [7] (fun i wr => ∃ k : Nat, k ≤ 8 * a.size + 1 ∧ i = .int .i64 k ∧ Below W.heap.size W wr) (fun i _ => 8 * a.size + 1 - (intOf i).toNat)
        case atStart => exact ⟨0, Nat.zero_le _, rfl, hb1.trans (hb3.mono hb1.size)⟩
        case round =>
          obtain ⟨k, hk, rfl, hbel⟩ := hrel
          by_cases hlt : k ≤ 8 * a.size
          · have HS : Hid (∀ w : World, Calls Tryd.prog 14 #[.string a, .string a, .int .i64 k] w fun e w' => e = .returned (.bool true) ∧ Below w.heap.size w w') := Lib.hid fun w => by
              have := HSELF.out k w
              rw [inB_t (by omega) (by omega)] at this
              exact this
            by_cases hm : k ≤ m
            · have HI : Hid (∀ w : World, Calls Tryd.prog 14 #[.string a, .string b, .int .i64 k] w fun e w' => e = .returned (.bool true) ∧ Below w.heap.size w w') := Lib.hid fun w => by
                have := HIN.out k w
                rw [inB_t (by omega) (by omega)] at this
                exact this
              go_wp2_with (first | (go_at_call 14; (with_reducible refine (HS.out _).mono ?_); rintro e w4 ⟨rfl, hb4⟩) | (go_at_call 14; (with_reducible refine (HI.out _).mono ?_); rintro e w5 ⟨rfl, hb5⟩))
              go_roundw
              case rel => exact ⟨k + 1, by omega, by go_num, hbel.trans ((hb4.trans (hb5.mono hb4.size)).mono hbel.size)⟩
              case measure => simp [intOf]; omega
            · have HI : Hid (∀ w : World, Calls Tryd.prog 14 #[.string a, .string b, .int .i64 k] w fun e w' => e = .returned (.bool false) ∧ Below w.heap.size w w') := Lib.hid fun w => by
                have := HIN.out k w
                rw [inB_hi (by omega)] at this
                exact this
              go_wp2_with (first | (go_at_call 14; (with_reducible refine (HS.out _).mono ?_); rintro e w4 ⟨rfl, hb4⟩) | (go_at_call 14; (with_reducible refine (HI.out _).mono ?_); rintro e w5 ⟨rfl, hb5⟩))
              go_roundw
              case rel => exact ⟨k + 1, by omega, by go_num, hbel.trans ((hb4.trans (hb5.mono hb4.size)).mono hbel.size)⟩
              case measure => simp [intOf]; omega
          · have HS1 : Hid (∀ w : World, Calls Tryd.prog 14 #[.string a, .string a, .int .i64 (8 * (a.size : Int) + 1)] w fun e w' => e = .returned (.bool false) ∧ Below w.heap.size w w') := Lib.hid fun w => by
              have := HSELF.out (8 * (a.size : Int) + 1) w
              rw [inB_hi (by omega)] at this
              exact this
            have HS2 : Hid (∀ w : World, Calls Tryd.prog 14 #[.string a, .string a, .int .i64 (-1)] w fun e w' => e = .returned (.bool false) ∧ Below w.heap.size w w') := Lib.hid fun w => by
              have := HSELF.out (-1) w
              rw [inB_lo (by omega)] at this
              exact this
            by_cases hq : a.data.toList = b.data.toList
            · have q1 : ((m : Int) == 8 * (a.size : Int)) = true := by have := HQ.out.2 hq; simp; omega
              have q2 : (a.toList == b.toList) = true := by rw [toList_data, toList_data, hq]; simp
              clear hq
              go_wp2_with (first | (go_at_call 14; (with_reducible refine (HS1.out _).mono ?_); rintro e w4 ⟨rfl, hb4⟩) | (go_at_call 14; (with_reducible refine (HS2.out _).mono ?_); rintro e w5 ⟨rfl, hb5⟩))
              go_ret
              exact ⟨rfl, hbel.trans ((hb4.trans (hb5.mono hb4.size)).mono hbel.size)⟩
            · have q1 : ((m : Int) == 8 * (a.size : Int)) = false := by
                rw [beq_eq_false_iff_ne]; intro h; exact hq (HQ.out.1 (by omega))
              have q2 : (a.toList == b.toList) = false := by rw [toList_data, toList_data]; simpa using hq
              clear hq
              go_wp2_with (first | (go_at_call 14; (with_reducible refine (HS1.out _).mono ?_); rintro e w4 ⟨rfl, hb4⟩) | (go_at_call 14; (with_reducible refine (HS2.out _).mono ?_); rintro e w5 ⟨rfl, hb5⟩))
              go_ret
              exact ⟨rfl, hbel.trans ((hb4.trans (hb5.mono hb4.size)).mono hbel.size)⟩
    · have h2 : ((a.size : Int) != 4) = true := by simp; omega
      have h3 : ((a.size : Int) != 16) = true := by simp; omega
      clear h4
      go_enter Tryd.func5, Tryd.ntmps5
      go_wp2_with (first | (go_at_call 7; refine (Hid.out hB).mono ?_; rintro e w1 ⟨rfl, hb1⟩) | (go_at_call 8; (with_reducible refine (HA.out _).mono ?_); rintro e w2 ⟨rfl, rfl⟩) | (go_at_call 8; (with_reducible refine (HC.out _).mono ?_); rintro e w2 ⟨rfl, rfl⟩))
      go_ret
      exact ⟨rfl, hb1⟩
  · have e1 : ((a.size : Int) != (b.size : Int)) = true := by simp; omega
    clear hab
    go_enter Tryd.func5, Tryd.ntmps5
    go_wp2_with (first | (go_at_call 7; refine (Hid.out hB).mono ?_; rintro e w1 ⟨rfl, hb1⟩) | (go_at_call 8; (with_reducible refine (HA.out _).mono ?_); rintro e w2 ⟨rfl, rfl⟩) | (go_at_call 8; (with_reducible refine (HC.out _).mono ?_); rintro e w2 ⟨rfl, rfl⟩))
    go_ret
    exact ⟨rfl, hb1⟩
set_option maxRecDepth 100000 in
theorem lifted (os : Os) (started : os.Started) (H : Type) (enc : TypeId × Value → H) :
    ReturnsInHanded {} Tryd.checked os 5 .any (fun w args => (Rows.addrPrefixSpec.pre enc Tryd.prog Tryd.f5 Rows.addrPrefixRow.domain false w args ∧ laidMetH Tryd.prog Rows.addrPrefixRow.laid w) ∧ sizedMet enc Tryd.prog Tryd.f5 (OpenSpec.ofChange Rows.addrPrefixSpec) false w args)
      (Rows.addrPrefixSpec.post enc Tryd.prog Tryd.f5 false true false false) := by
  refine wrap (C := Tryd.checked) (X := fun w _ => laidMetH Tryd.prog Rows.addrPrefixRow.laid w) (fun _ _ _ hh h => h.of_heap hh) own started (by kernel_rfl) Tryd.func5
    (ChangeSpec.witness_shaped (enc := enc) (C := Tryd.checked) (os := os) (X := fun w _ => laidMetH Tryd.prog Rows.addrPrefixRow.laid w) false (World.laidAll Tryd.prog os Rows.addrPrefixRow.laid) #[.string ByteArray.empty, .string ByteArray.empty] 8 (World.laidAll_os _ _ _)
      (World.shaped_of_ZipB (by kernel_rfl) (by kernel_rfl)) (by kernel_rfl) (by kernel_rfl) (by kernel_rfl)
      (by rw [MakeChecks.laidMetH_plain _ _ _ (by kernel_rfl)]; exact laidMet_laidAll _ (by kernel_rfl) (by kernel_rfl))) ?_
  intro W base args ds gs before hval0 hW _ _ hL hsh
  have hval : ∀ (j : Nat) t v, Tryd.f5.params[j]? = some t → args[j]? = some v → Value.okWide Tryd.prog W .any base t v := hval0
  have hW' := hW
  obtain ⟨p, q, hA0, hV, rfl, hfz, hnd⟩ := hW
  have hA : DataW.TrodAll enc Tryd.prog W 0 (fun _ => true) true Tryd.f5.params.toList args.toList ds p := hA0
  rw [Tryd.params5] at hA hval
  obtain ⟨v0, vs0, d0, ds0, p0, q0, hargs, rfl, rfl, h0, r0⟩ := trodAll_cons hA
  obtain ⟨v1, vs1, d1, ds1, p1, q1, rfl, rfl, rfl, h1, r1⟩ := trodAll_cons r0
  obtain ⟨rfl, rfl, rfl⟩ := trodAll_nil r1
  obtain rfl : args = #[v0, v1] := by cases args; simp_all
  obtain ⟨rfl, rfl⟩ := trodVars_none hV
  obtain ⟨a0, rfl, rfl, rfl, w0⟩ := open_string Tryd.underlying9 (hval 0 9 v0 rfl rfl) h0
  obtain ⟨a1, rfl, rfl, rfl, w1⟩ := open_string Tryd.underlying9 (hval 1 9 v1 rfl rfl) h1
  clear hA0 hval0
  simp only [List.append_nil] at hW'
  refine (walk a0 a1 w0 w1 W (Lib.hid (begun W hL hsh))).mono fun e W' ⟨he, bel⟩ => ?_
  subst he
  exact ⟨_, rfl, _, _, _, [], _, [], hW', trodAll_mk1 (shut_bool Tryd.underlying4 _), (trodAll_cons_mk (shut_string Tryd.underlying9 w0) (trodAll_cons_mk (shut_string Tryd.underlying9 w1) trodAll_mk0)), rfl, bel.frame _, fun h => by cases h⟩

theorem over : Rows.addrPrefixRow.holds Tryd.pinned (OpenSpec.ofChange Rows.addrPrefixSpec) :=
  OpenClaim.holds_of_wide 5 Tryd.f5 rfl rfl rfl rfl rfl rfl rfl ⟨rfl, rfl, rfl, rfl, rfl⟩ rfl rfl rfl rfl rfl (by kernel_rfl) Tryd.func5 (by kernel_rfl)
    (of_decide_eq_true (by kernel_rfl)) (by unfold Func.isWrapper; first | (rw [if_pos (by decide +kernel)]; kernel_rfl) | (rw [if_neg (by decide +kernel)]; exact ⟨rfl, rfl⟩))
    (fun os started H enc _ => lifted os started H enc)

theorem proved : Rows.AddrPrefixCardSaid :=
  Claim7.holds_tied_plain_at .later [] Rows.addrPrefixCard.laidKinds true Rows.addrPrefixCard.stood.harness Rows.addrPrefixCard.stood.looks over (fun _ h => by cases h) (by kernel_rfl) (fun _ h => by cases h) addrPrefix_row_tie rfl ⟨rfl, rfl⟩ (by kernel_rfl) rfl
    (fun f fn hf hfn => by
      obtain rfl : f = 5 := Option.some.inj ((show Tryd.prog.funcNamed "concierge/conciergelaw3.AddrPrefix" = some 5 by kernel_rfl).symm.trans hf) |>.symm
      obtain rfl : fn = Tryd.f5 := (Option.some.inj (Tryd.func5.symm.trans hfn)).symm
      exact ⟨by kernel_rfl, fun j t ht => by
        rw [Tryd.params5] at ht
        have hm : t ∈ [9, 9] := by simpa using Array.mem_of_getElem? ht
        have hall : ([9, 9].all fun u => !Tryd.prog.wantsStandIn u) = true := by kernel_rfl
        exact (show Tryd.prog.wantsStandIn t = false by simpa using List.all_eq_true.1 hall t hm)⟩)
    (by kernel_rfl)
end Go.Proofs.YtieiiffieccceaaDoor.addrPrefix
