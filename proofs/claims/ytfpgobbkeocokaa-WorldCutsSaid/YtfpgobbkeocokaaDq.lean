/- The walk of WorldCuts. -/
import Derived.Test.YtfpgobbkeocokaaDp
import Derived.Deep.RegionHeld3
namespace Go.Proofs.Ytfpgobbkeocokaa
open Go.RowKit Go.Mp Go.Rb Go.Lib
theorem keepC {W w1 w2 : World} (h : Below W.heap.size W w1) (h2 : Below w1.heap.size w1 w2) : Below W.heap.size W w2 := h.trans (h2.mono h.size)
set_option maxHeartbeats 1000000 in
set_option maxRecDepth 100000 in
theorem cuts_out (n s t : Int) (W : World) (h : t < 0 ∨ (¬ t < 0 ∧ 40 < t) ∨ (¬ t < 0 ∧ ¬ 40 < t ∧ s < 0) ∨ (¬ t < 0 ∧ ¬ 40 < t ∧ ¬ s < 0 ∧ t < s)) :
    Calls Try.prog 4 #[.int .i64 n, .int .i64 s, .int .i64 t] W fun e w' => e = .returned (.bool true) ∧ Below W.heap.size W w' := by
  rcases h with h1 | ⟨h1, h2⟩ | ⟨h1, h2, h3⟩ | ⟨h1, h2, h3, h4⟩
  all_goals
    go_enter Try.func4, Try.ntmps4
    go_wp2_with (go_at_call 5; refine (begun1 _).mono ?_; rintro e w2 ⟨rfl, hb⟩)
    go_ret
    exact ⟨rfl, hb⟩
set_option maxHeartbeats 4000000 in
set_option maxRecDepth 100000 in
theorem cuts_in (n : Int) (hn : -9223372036854775808 ≤ n ∧ n ≤ 9223372036854775807) (S T : Nat) (hT : T ≤ 40) (hS : S ≤ T) (W : World) :
    Calls Try.prog 4 #[.int .i64 n, .int .i64 (S : Int), .int .i64 (T : Int)] W fun e w' => e = .returned (.bool true) ∧ Below W.heap.size W w' := by
  have h1 : ¬ (T : Int) < 0 := by omega
  have h2 : ¬ (40 : Int) < (T : Int) := by omega
  have h3 : ¬ (S : Int) < 0 := by omega
  have h4 : ¬ (T : Int) < (S : Int) := by omega
  go_enter Try.func4, Try.ntmps4
  go_wp2_with (first | (go_at_call 5; refine (begun1 _).mono ?_; rintro e w2 ⟨rfl, hb⟩; have HB := Lib.hid hb; clear hb) | (go_at_call 6; refine (new_any _).mono ?_; rintro e w3 ⟨rfl, hw3⟩; have HW3 := Lib.hid hw3; clear hw3))
  obtain ⟨b, hb⟩ : ∃ b, w2.heap.size = b := ⟨_, rfl⟩
  have HSt : Hid (CutSt W w3 b 0 0) := Lib.hid (by
    rw [HW3.out, ← hb]
    refine ⟨DKS.fresh w2 W.heap.size HB.out.size, Nat.le_refl _, (HB.out.alloc HB.out.size _)⟩)
  rw [hb]
  clear hb HW3
  clear h1 h2 h3 h4
  go_loopw [9] (fun iv wr => ∃ i : Nat, i ≤ T ∧ iv = .int .i64 i ∧ CutSt W wr b (if S < i then S else 0) i) (fun iv _ => T - (intOf iv).toNat)
  case atStart => exact ⟨0, Nat.zero_le _, rfl, HSt.out⟩
  case round =>
    obtain ⟨i, hi, rfl, hI⟩ := hrel
    by_cases hlt : i < T
    · have hbu : IntKind.u8.wrap (i : Int) = (i : Int) := by simp [IntKind.wrap, IntKind.bits, IntKind.signed]; omega
      have hi1 : (if S < i + 1 then S else 0) = if i = S then i else if S < i then S else 0 := by
        by_cases c1 : i = S
        · rw [if_pos c1, if_pos (by omega), c1]
        · rw [if_neg c1]
          by_cases c2 : S < i
          · rw [if_pos c2, if_pos (by omega)]
          · rw [if_neg c2, if_neg (by omega)]
      have HI1 := Lib.hid hi1
      clear hi1
      by_cases hs : i = S
      · subst hs
        have HSy := Lib.hid (hI.sync (by omega))
        clear hI
        go_wp2_with (first | (go_at_call 23; refine HSy.out.mono ?_; rintro e w4 ⟨rfl, h4⟩; have HA := Lib.hid (h4.append (by omega)); clear h4) | (go_at_call 21; refine HA.out.mono ?_; rintro e w5 ⟨rfl, h5⟩; have H5 := Lib.hid h5; clear h5))
        go_roundw
        case rel => exact ⟨i + 1, hlt, by go_num, by rw [HI1.out]; first | (rw [if_pos rfl]; exact H5.out) | (rw [if_pos trivial]; exact H5.out)⟩
        case measure => simp [intOf]; omega
      · have HA := Lib.hid (hI.append (by omega))
        clear hI
        go_wp2_with (first | (go_at_call 21; refine HA.out.mono ?_; rintro e w5 ⟨rfl, h5⟩; have H5 := Lib.hid h5; clear h5))
        go_roundw
        case rel => exact ⟨i + 1, hlt, by go_num, by rw [HI1.out]; first | (rw [if_neg hs]; exact H5.out) | (rw [if_neg (fun h => h)]; exact H5.out)⟩
        case measure => simp [intOf]; omega
    · obtain rfl : i = T := by omega
      clear hlt hi
      have HI := Lib.hid hI
      clear hI
      have hfin : ∃ N : Nat, N ≤ i ∧ min (max n (S : Int)) (i : Int) = (N : Int) ∧ ((n < S ∧ N = S) ∨ (¬ n < S ∧ (i : Int) < n ∧ N = i) ∨ (¬ n < S ∧ ¬ (i : Int) < n ∧ n = N)) := by
        by_cases c1 : n < S
        · exact ⟨S, hS, by omega, .inl ⟨c1, rfl⟩⟩
        · by_cases c2 : (i : Int) < n
          · exact ⟨i, Nat.le_refl _, by omega, .inr (.inl ⟨c1, c2, rfl⟩)⟩
          · exact ⟨n.toNat, by omega, by omega, .inr (.inr ⟨c1, c2, by omega⟩)⟩
      obtain ⟨N, hNi, hmin, hway⟩ := hfin
      have HMin := Lib.hid hmin
      clear hmin
      have HEnd : Hid (∀ w6 bn, CutSt W w6 b S i → DKS w6 bn wr.heap.size i c0D N (FFc N) [] → True) := Lib.hid (fun _ _ _ _ => trivial)
      clear HEnd
      have hse : (if S < i then S else 0) = S ∨ ((if S < i then S else 0) = 0 ∧ i = S) := by
        by_cases c : S < i
        · rw [if_pos c]; exact .inl rfl
        · rw [if_neg c]; exact .inr ⟨rfl, by omega⟩
      by_cases hs : S = i
      · obtain rfl : i = S := hs.symm
        have HSy := Lib.hid (HI.out.sync (by omega))
        have hle : (i : Int) ≤ i := by omega
        clear HI hse
        rcases hway with ⟨c1, hN⟩ | ⟨c1, c2, hN⟩ | ⟨c1, c2, hN⟩
        · obtain rfl : N = i := hN
          go_upto_region 21 with (first | (go_at_call 23; refine HSy.out.mono ?_; rintro e w4 ⟨rfl, h4⟩; have H4 := Lib.hid h4; have HC := Lib.hid (h4.cut hT _ hn _ HMin.out); clear h4) | (go_at_call 24; refine HC.out.mono ?_; rintro e w5 ⟨bn, rfl, h5, hb5⟩; have H5 := Lib.hid h5; have H6 := Lib.hid (H4.out.below hb5); clear h5 hb5))
          have HR0 : Hid (∀ V, Below w5.heap.size w5 V → ∀ q (R : Nat), ((q = bn ∧ R = N) ∨ (q = b ∧ R = N)) → Calls Try.prog 27 #[.pointer (some ⟨q, 0, none⟩)] V fun e w' => e = .returned (.int .i64 (R : Int)) ∧ Below V.heap.size V w') := Lib.hid (fun V hV q R hq => by
            rcases hq with ⟨rfl, rfl⟩ | ⟨rfl, rfl⟩
            · exact raw_is (H5.out.below hV) (by omega) (by simp) _ (by simp)
            · exact raw_is (H6.out.below hV).ks (by omega) (by rw [ULc_len]; omega) _ (by rw [ULc_len]; omega))
          have HL0 : Hid (∀ V, Below w5.heap.size w5 V → Calls Try.prog 28 #[.pointer (some ⟨bn, 0, none⟩), .string ⟨#[100]⟩] V fun e w' => ∃ p c', e = .returned (.slice p N c') ∧ Below V.heap.size V w') := Lib.hid (fun V hV => load_is (H5.out.below hV) (by omega))
          have HB5 := Lib.hid (Below.refl w5.heap.size w5)
          go_upto_region 23 with (first | (go_at_call 27; refine (HR0.out _ (by first | exact HB5.out | exact HBn.out) _ _ (by first | exact .inl ⟨rfl, rfl⟩ | exact .inr ⟨rfl, rfl⟩)).mono ?_; rintro e w' ⟨rfl, hbn⟩; have HBn : Hid (Below w5.heap.size w5 w') := Lib.hid (by first | exact keepC HBn.out hbn | exact keepC HB5.out hbn); clear hbn) | (go_at_call 28; refine (HL0.out _ (by first | exact HBn.out | exact HB5.out)).mono ?_; rintro e w' ⟨p', c', rfl, hbn⟩; have HBn : Hid (Below w5.heap.size w5 w') := Lib.hid (by first | exact keepC HBn.out hbn | exact keepC HB5.out hbn); clear hbn))
          have HC2 := Lib.hid (cut_again (H5.out.below HBn.out) (by omega) (by omega))
          have HD2 : Hid (∀ w6 w7 b2 B2 K2, DKS w6 b2 B2 K2 c0D N (FFc N) [] → Below w6.heap.size w6 w7 → (Calls Try.prog 27 #[.pointer (some ⟨b2, 0, none⟩)] w7 fun e w' => e = .returned (.int .i64 (N : Int)) ∧ Below w7.heap.size w7 w') ∧ Calls Try.prog 28 #[.pointer (some ⟨b2, 0, none⟩), .string ⟨#[100]⟩] w7 fun e w' => ∃ p c', e = .returned (.slice p N c') ∧ Below w7.heap.size w7 w') := Lib.hid (fun w6 w7 b2 B2 K2 h hb => ⟨raw_is (h.below hb) (by omega) (by simp) _ (by simp), load_is (h.below hb) (by omega)⟩)
          have HW := Lib.hid (keepC H6.out.bel (by have := HBn.out; exact this))
          go_wp2_with (first | (go_at_call 24; refine HC2.out.mono ?_; rintro e w8 ⟨b2, rfl, h8, hb8⟩; have H8 := Lib.hid h8; have HB8 := Lib.hid hb8; have HBr := Lib.hid (Below.refl w8.heap.size w8); clear h8 hb8) | (go_at_call 27; refine (HD2.out _ _ _ _ _ H8.out HBr.out).1.mono ?_; rintro e w9 ⟨rfl, hbn⟩; have HB9 := Lib.hid hbn; clear hbn) | (go_at_call 28; refine (HD2.out _ _ _ _ _ H8.out HB9.out).2.mono ?_; rintro e w10 ⟨p2, c2, rfl, hbn⟩; have HB10 := Lib.hid hbn; clear hbn))
          go_ret
          exact ⟨rfl, keepC (keepC (keepC HW.out HB8.out) HB9.out) HB10.out⟩
        · obtain rfl : N = i := hN
          go_upto_region 21 with (first | (go_at_call 23; refine HSy.out.mono ?_; rintro e w4 ⟨rfl, h4⟩; have H4 := Lib.hid h4; have HC := Lib.hid (h4.cut hT _ hn _ HMin.out); clear h4) | (go_at_call 24; refine HC.out.mono ?_; rintro e w5 ⟨bn, rfl, h5, hb5⟩; have H5 := Lib.hid h5; have H6 := Lib.hid (H4.out.below hb5); clear h5 hb5))
          have HR0 : Hid (∀ V, Below w5.heap.size w5 V → ∀ q (R : Nat), ((q = bn ∧ R = N) ∨ (q = b ∧ R = N)) → Calls Try.prog 27 #[.pointer (some ⟨q, 0, none⟩)] V fun e w' => e = .returned (.int .i64 (R : Int)) ∧ Below V.heap.size V w') := Lib.hid (fun V hV q R hq => by
            rcases hq with ⟨rfl, rfl⟩ | ⟨rfl, rfl⟩
            · exact raw_is (H5.out.below hV) (by omega) (by simp) _ (by simp)
            · exact raw_is (H6.out.below hV).ks (by omega) (by rw [ULc_len]; omega) _ (by rw [ULc_len]; omega))
          have HL0 : Hid (∀ V, Below w5.heap.size w5 V → Calls Try.prog 28 #[.pointer (some ⟨bn, 0, none⟩), .string ⟨#[100]⟩] V fun e w' => ∃ p c', e = .returned (.slice p N c') ∧ Below V.heap.size V w') := Lib.hid (fun V hV => load_is (H5.out.below hV) (by omega))
          have HB5 := Lib.hid (Below.refl w5.heap.size w5)
          go_upto_region 23 with (first | (go_at_call 27; refine (HR0.out _ (by first | exact HB5.out | exact HBn.out) _ _ (by first | exact .inl ⟨rfl, rfl⟩ | exact .inr ⟨rfl, rfl⟩)).mono ?_; rintro e w' ⟨rfl, hbn⟩; have HBn : Hid (Below w5.heap.size w5 w') := Lib.hid (by first | exact keepC HBn.out hbn | exact keepC HB5.out hbn); clear hbn) | (go_at_call 28; refine (HL0.out _ (by first | exact HBn.out | exact HB5.out)).mono ?_; rintro e w' ⟨p', c', rfl, hbn⟩; have HBn : Hid (Below w5.heap.size w5 w') := Lib.hid (by first | exact keepC HBn.out hbn | exact keepC HB5.out hbn); clear hbn))
          have HC2 := Lib.hid (cut_again (H5.out.below HBn.out) (by omega) (by omega))
          have HD2 : Hid (∀ w6 w7 b2 B2 K2, DKS w6 b2 B2 K2 c0D N (FFc N) [] → Below w6.heap.size w6 w7 → (Calls Try.prog 27 #[.pointer (some ⟨b2, 0, none⟩)] w7 fun e w' => e = .returned (.int .i64 (N : Int)) ∧ Below w7.heap.size w7 w') ∧ Calls Try.prog 28 #[.pointer (some ⟨b2, 0, none⟩), .string ⟨#[100]⟩] w7 fun e w' => ∃ p c', e = .returned (.slice p N c') ∧ Below w7.heap.size w7 w') := Lib.hid (fun w6 w7 b2 B2 K2 h hb => ⟨raw_is (h.below hb) (by omega) (by simp) _ (by simp), load_is (h.below hb) (by omega)⟩)
          have HW := Lib.hid (keepC H6.out.bel (by have := HBn.out; exact this))
          go_wp2_with (first | (go_at_call 24; refine HC2.out.mono ?_; rintro e w8 ⟨b2, rfl, h8, hb8⟩; have H8 := Lib.hid h8; have HB8 := Lib.hid hb8; have HBr := Lib.hid (Below.refl w8.heap.size w8); clear h8 hb8) | (go_at_call 27; refine (HD2.out _ _ _ _ _ H8.out HBr.out).1.mono ?_; rintro e w9 ⟨rfl, hbn⟩; have HB9 := Lib.hid hbn; clear hbn) | (go_at_call 28; refine (HD2.out _ _ _ _ _ H8.out HB9.out).2.mono ?_; rintro e w10 ⟨p2, c2, rfl, hbn⟩; have HB10 := Lib.hid hbn; clear hbn))
          go_ret
          exact ⟨rfl, keepC (keepC (keepC HW.out HB8.out) HB9.out) HB10.out⟩
        · subst hN
          go_upto_region 21 with (first | (go_at_call 23; refine HSy.out.mono ?_; rintro e w4 ⟨rfl, h4⟩; have H4 := Lib.hid h4; have HC := Lib.hid (h4.cut hT _ hn _ HMin.out); clear h4) | (go_at_call 24; refine HC.out.mono ?_; rintro e w5 ⟨bn, rfl, h5, hb5⟩; have H5 := Lib.hid h5; have H6 := Lib.hid (H4.out.below hb5); clear h5 hb5))
          have HR0 : Hid (∀ V, Below w5.heap.size w5 V → ∀ q (R : Nat), ((q = bn ∧ R = N) ∨ (q = b ∧ R = i)) → Calls Try.prog 27 #[.pointer (some ⟨q, 0, none⟩)] V fun e w' => e = .returned (.int .i64 (R : Int)) ∧ Below V.heap.size V w') := Lib.hid (fun V hV q R hq => by
            rcases hq with ⟨rfl, rfl⟩ | ⟨rfl, rfl⟩
            · exact raw_is (H5.out.below hV) (by omega) (by simp) _ (by simp)
            · exact raw_is (H6.out.below hV).ks (by omega) (by rw [ULc_len]; omega) _ (by rw [ULc_len]; omega))
          have HL0 : Hid (∀ V, Below w5.heap.size w5 V → Calls Try.prog 28 #[.pointer (some ⟨bn, 0, none⟩), .string ⟨#[100]⟩] V fun e w' => ∃ p c', e = .returned (.slice p N c') ∧ Below V.heap.size V w') := Lib.hid (fun V hV => load_is (H5.out.below hV) (by omega))
          have HB5 := Lib.hid (Below.refl w5.heap.size w5)
          go_upto_region 23 with (first | (go_at_call 27; refine (HR0.out _ (by first | exact HB5.out | exact HBn.out) _ _ (by first | exact .inl ⟨rfl, rfl⟩ | exact .inr ⟨rfl, rfl⟩)).mono ?_; rintro e w' ⟨rfl, hbn⟩; have HBn : Hid (Below w5.heap.size w5 w') := Lib.hid (by first | exact keepC HBn.out hbn | exact keepC HB5.out hbn); clear hbn) | (go_at_call 28; refine (HL0.out _ (by first | exact HBn.out | exact HB5.out)).mono ?_; rintro e w' ⟨p', c', rfl, hbn⟩; have HBn : Hid (Below w5.heap.size w5 w') := Lib.hid (by first | exact keepC HBn.out hbn | exact keepC HB5.out hbn); clear hbn))
          have HC2 := Lib.hid (cut_again (H5.out.below HBn.out) (by omega) (by omega))
          have HD2 : Hid (∀ w6 w7 b2 B2 K2, DKS w6 b2 B2 K2 c0D N (FFc N) [] → Below w6.heap.size w6 w7 → (Calls Try.prog 27 #[.pointer (some ⟨b2, 0, none⟩)] w7 fun e w' => e = .returned (.int .i64 (N : Int)) ∧ Below w7.heap.size w7 w') ∧ Calls Try.prog 28 #[.pointer (some ⟨b2, 0, none⟩), .string ⟨#[100]⟩] w7 fun e w' => ∃ p c', e = .returned (.slice p N c') ∧ Below w7.heap.size w7 w') := Lib.hid (fun w6 w7 b2 B2 K2 h hb => ⟨raw_is (h.below hb) (by omega) (by simp) _ (by simp), load_is (h.below hb) (by omega)⟩)
          have HW := Lib.hid (keepC H6.out.bel (by have := HBn.out; exact this))
          go_wp2_with (first | (go_at_call 24; refine HC2.out.mono ?_; rintro e w8 ⟨b2, rfl, h8, hb8⟩; have H8 := Lib.hid h8; have HB8 := Lib.hid hb8; have HBr := Lib.hid (Below.refl w8.heap.size w8); clear h8 hb8) | (go_at_call 27; refine (HD2.out _ _ _ _ _ H8.out HBr.out).1.mono ?_; rintro e w9 ⟨rfl, hbn⟩; have HB9 := Lib.hid hbn; clear hbn) | (go_at_call 28; refine (HD2.out _ _ _ _ _ H8.out HB9.out).2.mono ?_; rintro e w10 ⟨p2, c2, rfl, hbn⟩; have HB10 := Lib.hid hbn; clear hbn))
          go_ret
          exact ⟨rfl, keepC (keepC (keepC HW.out HB8.out) HB9.out) HB10.out⟩
      · have H4 : Hid (CutSt W wr b S i) := Lib.hid (by have := HI.out; rw [if_pos (by omega)] at this; exact this)
        have HC := Lib.hid (H4.out.cut hT n hn N HMin.out)
        have hne : ¬ (S : Int) = (i : Int) := by omega
        have hlt : (S : Int) < (i : Int) := by omega
        clear HI hse
        rcases hway with ⟨c1, hN⟩ | ⟨c1, c2, hN⟩ | ⟨c1, c2, hN⟩
        · obtain rfl : N = S := hN
          go_upto_region 21 with (first | (go_at_call 24; refine HC.out.mono ?_; rintro e w5 ⟨bn, rfl, h5, hb5⟩; have H5 := Lib.hid h5; have H6 := Lib.hid (H4.out.below hb5); clear h5 hb5))
          have HR0 : Hid (∀ V, Below w5.heap.size w5 V → ∀ q (R : Nat), ((q = bn ∧ R = N) ∨ (q = b ∧ R = i)) → Calls Try.prog 27 #[.pointer (some ⟨q, 0, none⟩)] V fun e w' => e = .returned (.int .i64 (R : Int)) ∧ Below V.heap.size V w') := Lib.hid (fun V hV q R hq => by
            rcases hq with ⟨rfl, rfl⟩ | ⟨rfl, rfl⟩
            · exact raw_is (H5.out.below hV) (by omega) (by simp) _ (by simp)
            · exact raw_is (H6.out.below hV).ks (by omega) (by rw [ULc_len]; omega) _ (by rw [ULc_len]; omega))
          have HL0 : Hid (∀ V, Below w5.heap.size w5 V → Calls Try.prog 28 #[.pointer (some ⟨bn, 0, none⟩), .string ⟨#[100]⟩] V fun e w' => ∃ p c', e = .returned (.slice p N c') ∧ Below V.heap.size V w') := Lib.hid (fun V hV => load_is (H5.out.below hV) (by omega))
          have HB5 := Lib.hid (Below.refl w5.heap.size w5)
          go_upto_region 23 with (first | (go_at_call 27; refine (HR0.out _ (by first | exact HB5.out | exact HBn.out) _ _ (by first | exact .inl ⟨rfl, rfl⟩ | exact .inr ⟨rfl, rfl⟩)).mono ?_; rintro e w' ⟨rfl, hbn⟩; have HBn : Hid (Below w5.heap.size w5 w') := Lib.hid (by first | exact keepC HBn.out hbn | exact keepC HB5.out hbn); clear hbn) | (go_at_call 28; refine (HL0.out _ (by first | exact HBn.out | exact HB5.out)).mono ?_; rintro e w' ⟨p', c', rfl, hbn⟩; have HBn : Hid (Below w5.heap.size w5 w') := Lib.hid (by first | exact keepC HBn.out hbn | exact keepC HB5.out hbn); clear hbn))
          have HC2 := Lib.hid (cut_again (H5.out.below HBn.out) (by omega) (by omega))
          have HD2 : Hid (∀ w6 w7 b2 B2 K2, DKS w6 b2 B2 K2 c0D N (FFc N) [] → Below w6.heap.size w6 w7 → (Calls Try.prog 27 #[.pointer (some ⟨b2, 0, none⟩)] w7 fun e w' => e = .returned (.int .i64 (N : Int)) ∧ Below w7.heap.size w7 w') ∧ Calls Try.prog 28 #[.pointer (some ⟨b2, 0, none⟩), .string ⟨#[100]⟩] w7 fun e w' => ∃ p c', e = .returned (.slice p N c') ∧ Below w7.heap.size w7 w') := Lib.hid (fun w6 w7 b2 B2 K2 h hb => ⟨raw_is (h.below hb) (by omega) (by simp) _ (by simp), load_is (h.below hb) (by omega)⟩)
          have HW := Lib.hid (keepC H6.out.bel (by have := HBn.out; exact this))
          go_wp2_with (first | (go_at_call 24; refine HC2.out.mono ?_; rintro e w8 ⟨b2, rfl, h8, hb8⟩; have H8 := Lib.hid h8; have HB8 := Lib.hid hb8; have HBr := Lib.hid (Below.refl w8.heap.size w8); clear h8 hb8) | (go_at_call 27; refine (HD2.out _ _ _ _ _ H8.out HBr.out).1.mono ?_; rintro e w9 ⟨rfl, hbn⟩; have HB9 := Lib.hid hbn; clear hbn) | (go_at_call 28; refine (HD2.out _ _ _ _ _ H8.out HB9.out).2.mono ?_; rintro e w10 ⟨p2, c2, rfl, hbn⟩; have HB10 := Lib.hid hbn; clear hbn))
          go_ret
          exact ⟨rfl, keepC (keepC (keepC HW.out HB8.out) HB9.out) HB10.out⟩
        · obtain rfl : N = i := hN
          go_upto_region 21 with (first | (go_at_call 24; refine HC.out.mono ?_; rintro e w5 ⟨bn, rfl, h5, hb5⟩; have H5 := Lib.hid h5; have H6 := Lib.hid (H4.out.below hb5); clear h5 hb5))
          have HR0 : Hid (∀ V, Below w5.heap.size w5 V → ∀ q (R : Nat), ((q = bn ∧ R = N) ∨ (q = b ∧ R = N)) → Calls Try.prog 27 #[.pointer (some ⟨q, 0, none⟩)] V fun e w' => e = .returned (.int .i64 (R : Int)) ∧ Below V.heap.size V w') := Lib.hid (fun V hV q R hq => by
            rcases hq with ⟨rfl, rfl⟩ | ⟨rfl, rfl⟩
            · exact raw_is (H5.out.below hV) (by omega) (by simp) _ (by simp)
            · exact raw_is (H6.out.below hV).ks (by omega) (by rw [ULc_len]; omega) _ (by rw [ULc_len]; omega))
          have HL0 : Hid (∀ V, Below w5.heap.size w5 V → Calls Try.prog 28 #[.pointer (some ⟨bn, 0, none⟩), .string ⟨#[100]⟩] V fun e w' => ∃ p c', e = .returned (.slice p N c') ∧ Below V.heap.size V w') := Lib.hid (fun V hV => load_is (H5.out.below hV) (by omega))
          have HB5 := Lib.hid (Below.refl w5.heap.size w5)
          go_upto_region 23 with (first | (go_at_call 27; refine (HR0.out _ (by first | exact HB5.out | exact HBn.out) _ _ (by first | exact .inl ⟨rfl, rfl⟩ | exact .inr ⟨rfl, rfl⟩)).mono ?_; rintro e w' ⟨rfl, hbn⟩; have HBn : Hid (Below w5.heap.size w5 w') := Lib.hid (by first | exact keepC HBn.out hbn | exact keepC HB5.out hbn); clear hbn) | (go_at_call 28; refine (HL0.out _ (by first | exact HBn.out | exact HB5.out)).mono ?_; rintro e w' ⟨p', c', rfl, hbn⟩; have HBn : Hid (Below w5.heap.size w5 w') := Lib.hid (by first | exact keepC HBn.out hbn | exact keepC HB5.out hbn); clear hbn))
          have HC2 := Lib.hid (cut_again (H5.out.below HBn.out) (by omega) (by omega))
          have HD2 : Hid (∀ w6 w7 b2 B2 K2, DKS w6 b2 B2 K2 c0D N (FFc N) [] → Below w6.heap.size w6 w7 → (Calls Try.prog 27 #[.pointer (some ⟨b2, 0, none⟩)] w7 fun e w' => e = .returned (.int .i64 (N : Int)) ∧ Below w7.heap.size w7 w') ∧ Calls Try.prog 28 #[.pointer (some ⟨b2, 0, none⟩), .string ⟨#[100]⟩] w7 fun e w' => ∃ p c', e = .returned (.slice p N c') ∧ Below w7.heap.size w7 w') := Lib.hid (fun w6 w7 b2 B2 K2 h hb => ⟨raw_is (h.below hb) (by omega) (by simp) _ (by simp), load_is (h.below hb) (by omega)⟩)
          have HW := Lib.hid (keepC H6.out.bel (by have := HBn.out; exact this))
          go_wp2_with (first | (go_at_call 24; refine HC2.out.mono ?_; rintro e w8 ⟨b2, rfl, h8, hb8⟩; have H8 := Lib.hid h8; have HB8 := Lib.hid hb8; have HBr := Lib.hid (Below.refl w8.heap.size w8); clear h8 hb8) | (go_at_call 27; refine (HD2.out _ _ _ _ _ H8.out HBr.out).1.mono ?_; rintro e w9 ⟨rfl, hbn⟩; have HB9 := Lib.hid hbn; clear hbn) | (go_at_call 28; refine (HD2.out _ _ _ _ _ H8.out HB9.out).2.mono ?_; rintro e w10 ⟨p2, c2, rfl, hbn⟩; have HB10 := Lib.hid hbn; clear hbn))
          go_ret
          exact ⟨rfl, keepC (keepC (keepC HW.out HB8.out) HB9.out) HB10.out⟩
        · subst hN
          go_upto_region 21 with (first | (go_at_call 24; refine HC.out.mono ?_; rintro e w5 ⟨bn, rfl, h5, hb5⟩; have H5 := Lib.hid h5; have H6 := Lib.hid (H4.out.below hb5); clear h5 hb5))
          have HR0 : Hid (∀ V, Below w5.heap.size w5 V → ∀ q (R : Nat), ((q = bn ∧ R = N) ∨ (q = b ∧ R = i)) → Calls Try.prog 27 #[.pointer (some ⟨q, 0, none⟩)] V fun e w' => e = .returned (.int .i64 (R : Int)) ∧ Below V.heap.size V w') := Lib.hid (fun V hV q R hq => by
            rcases hq with ⟨rfl, rfl⟩ | ⟨rfl, rfl⟩
            · exact raw_is (H5.out.below hV) (by omega) (by simp) _ (by simp)
            · exact raw_is (H6.out.below hV).ks (by omega) (by rw [ULc_len]; omega) _ (by rw [ULc_len]; omega))
          have HL0 : Hid (∀ V, Below w5.heap.size w5 V → Calls Try.prog 28 #[.pointer (some ⟨bn, 0, none⟩), .string ⟨#[100]⟩] V fun e w' => ∃ p c', e = .returned (.slice p N c') ∧ Below V.heap.size V w') := Lib.hid (fun V hV => load_is (H5.out.below hV) (by omega))
          have HB5 := Lib.hid (Below.refl w5.heap.size w5)
          go_upto_region 23 with (first | (go_at_call 27; refine (HR0.out _ (by first | exact HB5.out | exact HBn.out) _ _ (by first | exact .inl ⟨rfl, rfl⟩ | exact .inr ⟨rfl, rfl⟩)).mono ?_; rintro e w' ⟨rfl, hbn⟩; have HBn : Hid (Below w5.heap.size w5 w') := Lib.hid (by first | exact keepC HBn.out hbn | exact keepC HB5.out hbn); clear hbn) | (go_at_call 28; refine (HL0.out _ (by first | exact HBn.out | exact HB5.out)).mono ?_; rintro e w' ⟨p', c', rfl, hbn⟩; have HBn : Hid (Below w5.heap.size w5 w') := Lib.hid (by first | exact keepC HBn.out hbn | exact keepC HB5.out hbn); clear hbn))
          have HC2 := Lib.hid (cut_again (H5.out.below HBn.out) (by omega) (by omega))
          have HD2 : Hid (∀ w6 w7 b2 B2 K2, DKS w6 b2 B2 K2 c0D N (FFc N) [] → Below w6.heap.size w6 w7 → (Calls Try.prog 27 #[.pointer (some ⟨b2, 0, none⟩)] w7 fun e w' => e = .returned (.int .i64 (N : Int)) ∧ Below w7.heap.size w7 w') ∧ Calls Try.prog 28 #[.pointer (some ⟨b2, 0, none⟩), .string ⟨#[100]⟩] w7 fun e w' => ∃ p c', e = .returned (.slice p N c') ∧ Below w7.heap.size w7 w') := Lib.hid (fun w6 w7 b2 B2 K2 h hb => ⟨raw_is (h.below hb) (by omega) (by simp) _ (by simp), load_is (h.below hb) (by omega)⟩)
          have HW := Lib.hid (keepC H6.out.bel (by have := HBn.out; exact this))
          go_wp2_with (first | (go_at_call 24; refine HC2.out.mono ?_; rintro e w8 ⟨b2, rfl, h8, hb8⟩; have H8 := Lib.hid h8; have HB8 := Lib.hid hb8; have HBr := Lib.hid (Below.refl w8.heap.size w8); clear h8 hb8) | (go_at_call 27; refine (HD2.out _ _ _ _ _ H8.out HBr.out).1.mono ?_; rintro e w9 ⟨rfl, hbn⟩; have HB9 := Lib.hid hbn; clear hbn) | (go_at_call 28; refine (HD2.out _ _ _ _ _ H8.out HB9.out).2.mono ?_; rintro e w10 ⟨p2, c2, rfl, hbn⟩; have HB10 := Lib.hid hbn; clear hbn))
          go_ret
          exact ⟨rfl, keepC (keepC (keepC HW.out HB8.out) HB9.out) HB10.out⟩
theorem worldCuts_walk (a0 a1 a2 : Int) (W : World) (w0 : (Lit.int .i64 a0).wf = true) (w1 : (Lit.int .i64 a1).wf = true) (w2 : (Lit.int .i64 a2).wf = true) :
    Calls Try.prog 4 #[.int .i64 a0, .int .i64 a1, .int .i64 a2] W fun e w' => e = .returned (.bool true) ∧ Below W.heap.size W w' := by
  have h0 : -9223372036854775808 ≤ a0 ∧ a0 ≤ 9223372036854775807 := by simpa [Lit.wf, IntKind.wrap, IntKind.bits, IntKind.signed, IntKind.min, IntKind.max] using w0
  by_cases h : 0 ≤ a2 ∧ a2 ≤ 40 ∧ 0 ≤ a1 ∧ a1 ≤ a2
  · obtain ⟨S, rfl⟩ : ∃ S : Nat, a1 = S := ⟨a1.toNat, by omega⟩
    obtain ⟨T, rfl⟩ : ∃ T : Nat, a2 = T := ⟨a2.toNat, by omega⟩
    exact cuts_in a0 h0 S T (by omega) (by omega) W
  · exact cuts_out a0 a1 a2 W (by omega)
end Go.Proofs.Ytfpgobbkeocokaa
