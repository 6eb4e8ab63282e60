/- Contracts of the document's Service and Proto. -/
import Derived.Test.YtmnahgeledddhaaVa
import Derived.Test.YtmnahgeledddhaaDa
namespace Go.Proofs.Ytmnahgeledddhaa
open Go.RowKit Go.Lib Go.Tx
theorem byte_all (p : UInt8 → Bool) (h : ∀ n : Fin 256, p (UInt8.ofNat n.1) = true) (b : UInt8) : p b = true := by
  have := h ⟨b.toNat, b.toNat_lt⟩
  simpa using this
theorem sign_letters (b : UInt8) : svcSign b.toNat = (alnum b.toNat || [45, 95, 46].any fun m => b == m) := by
  have := byte_all (fun b => svcSign b.toNat == (alnum b.toNat || [45, 95, 46].any fun m => b == m)) (by decide +kernel) b
  exact beq_iff_eq.1 this
theorem letters_svc (l : List UInt8) : svcB l = (decide (l.length ≤ 32) && lettersB [45, 95, 46] l) := by
  unfold svcB lettersB
  have : (l.all fun b => svcSign b.toNat) = l.all fun b => alnum b.toNat || [45, 95, 46].any fun m => b == m := by
    congr 1; funext b; exact sign_letters b
  rw [this]
  cases decide (l.length ≤ 32) <;> cases (l.all fun b => alnum b.toNat || [45, 95, 46].any fun m => b == m) <;> cases decide (l ≠ []) <;> rfl
theorem rsvc_any (s : ByteArray) (w : World) (hs : s.size ≤ 1000000) : Calls Try.prog 23 #[.string s] w fun e w' => e = .returned (.bool (svcB s.data.toList)) ∧ w' = w := by
  have hl : s.data.toList.length = s.size := rfl
  have HL := Lib.hid (letters_any s ⟨#[45, 95, 46]⟩ w hs (by decide))
  have e1 : (ByteArray.data ⟨#[45, 95, 46]⟩).toList = [45, 95, 46] := rfl
  rw [e1] at HL
  by_cases h : s.size ≤ 32
  · have HS : Hid (svcB s.data.toList = lettersB [45, 95, 46] s.data.toList) := Lib.hid (by rw [letters_svc, decide_eq_true (by omega)]; rfl)
    rw [HS.out]
    have h' : (s.size : Int) ≤ 32 := by omega
    have h'' : decide ((s.size : Int) ≤ 32) = true := decide_eq_true h'
    clear h hl HS
    generalize lettersB [45, 95, 46] s.data.toList = X at *
    go_enter Try.func23, Try.ntmps23
    go_wp2_with (go_at_call 38; refine HL.out.mono ?_; rintro e w2 ⟨rfl, rfl⟩)
    all_goals (go_ret; exact ⟨by simp [h''], rfl⟩)
  · have HS : Hid (svcB s.data.toList = false) := Lib.hid (by rw [letters_svc, decide_eq_false (by omega)]; rfl)
    rw [HS.out]
    have h' : (32 : Int) < (s.size : Int) := by omega
    clear h hl HS HL
    go_enter Try.func23, Try.ntmps23
    go_wp2
    all_goals (go_ret; exact ⟨rfl, rfl⟩)
theorem proto_till (l : List UInt8) (k : Nat) (hk : l.length ≤ k) (h : ∀ j b, j < k → l[j]? = some b → letterN b.toNat = true) (h1 : 1 ≤ l.length) (h8 : l.length ≤ 8) : protoB l = true := by
  have hne : l ≠ [] := fun e => by rw [e] at h1; simp at h1
  unfold protoB
  rw [decide_eq_true hne, decide_eq_true h8]
  simp only [Bool.true_and]
  exact all_till l k hk h
set_option maxHeartbeats 1000000 in
set_option maxRecDepth 100000 in
theorem rproto_any (s : ByteArray) (w : World) (hs : s.size ≤ 1000000) : Calls Try.prog 25 #[.string s] w fun e w' => e = .returned (.bool (protoB s.data.toList)) ∧ w = w' := by
  have hl : s.data.toList.length = s.size := rfl
  by_cases h1 : s.size < 1
  · have HS : Hid (protoB s.data.toList = false) := Lib.hid (by
      have : s.data.toList = [] := List.eq_nil_of_length_eq_zero (by omega)
      rw [this]; rfl)
    rw [HS.out]
    have h1' : (s.size : Int) < 1 := by omega
    clear hl HS
    go_enter Try.func25, Try.ntmps25
    go_wp2
    all_goals (go_ret; exact ⟨rfl, rfl⟩)
  · by_cases h8 : 8 < s.size
    · have HS : Hid (protoB s.data.toList = false) := Lib.hid (by unfold protoB; rw [hl, decide_eq_false (by omega : ¬ s.size ≤ 8)]; simp)
      rw [HS.out]
      have h1' : ¬ (s.size : Int) < 1 := by omega
      have h8' : (8 : Int) < (s.size : Int) := by omega
      clear hl HS
      go_enter Try.func25, Try.ntmps25
      go_wp2
      all_goals (go_ret; exact ⟨rfl, rfl⟩)
    · have h1' : ¬ (s.size : Int) < 1 := by omega
      have h8' : ¬ (8 : Int) < (s.size : Int) := by omega
      have HL : Hid (s.data.toList.length = s.size) := Lib.hid hl
      clear hl
      go_enter Try.func25, Try.ntmps25
      go_wp2
      go_loop [3] (fun i => ∃ k : Nat, k ≤ s.size ∧ i = .int .i64 k ∧ Hid (∀ j b, j < k → s.data.toList[j]? = some b → letterN b.toNat = true)) (fun i => s.size - (intOf i).toNat)
      case atStart => exact ⟨0, Nat.zero_le _, rfl, Lib.hid (by omega)⟩
      case round =>
        obtain ⟨k, hk, rfl, hall⟩ := hrel
        by_cases hlt : k < s.size
        · have HK : Hid (s.data.toList[k]? = some s[k]) := Lib.hid (List.getElem?_eq_getElem hlt)
          have hs' : letterN s[k].toNat = decide ((97 ≤ s[k].toNat ∧ s[k].toNat ≤ 122) ∨ (65 ≤ s[k].toNat ∧ s[k].toNat ≤ 90)) := by simp only [letterN, Bool.decide_or, Bool.decide_and]
          cases hb : letterN s[k].toNat with
          | true =>
            have HB := Lib.hid hb
            rw [hs', decide_eq_true_eq] at hb
            have hc : (97 ≤ (s[k].toNat : Int) ∧ (s[k].toNat : Int) ≤ 122) ∨ (65 ≤ (s[k].toNat : Int) ∧ (s[k].toNat : Int) ≤ 90) := by omega
            clear hs' hb
            rcases hc with ⟨q1, q2⟩ | ⟨q1, q2⟩
            · go_wp2
              all_goals
                go_round
                case rel => exact ⟨k + 1, hlt, by go_num, Lib.hid (by
                  intro j d hj hd
                  by_cases e : j = k
                  · subst e
                    rw [HK.out] at hd
                    cases hd
                    exact HB.out
                  · exact hall.out j d (by omega) hd)⟩
                case measure => simp [intOf]; omega
            · have q3 : ¬ 97 ≤ (s[k].toNat : Int) := by omega
              go_wp2
              all_goals
                go_round
                case rel => exact ⟨k + 1, hlt, by go_num, Lib.hid (by
                  intro j d hj hd
                  by_cases e : j = k
                  · subst e
                    rw [HK.out] at hd
                    cases hd
                    exact HB.out
                  · exact hall.out j d (by omega) hd)⟩
                case measure => simp [intOf]; omega
          | false =>
            have HS : Hid (protoB s.data.toList = false) := Lib.hid (by unfold protoB; rw [all_not s.data.toList k s[k] HK.out hb]; simp)
            rw [hs', decide_eq_false_iff_not] at hb
            have hc : (s[k].toNat : Int) < 65 ∨ (90 < (s[k].toNat : Int) ∧ (s[k].toNat : Int) < 97) ∨ 122 < (s[k].toNat : Int) := by omega
            clear hs' hb hall
            rcases hc with q1 | ⟨q1, q2⟩ | q1
            · have q2 : ¬ 97 ≤ (s[k].toNat : Int) := by omega
              go_wp2
              all_goals (go_ret; exact ⟨by rw [HS.out]; rfl, rfl⟩)
            · have q3 : ¬ 97 ≤ (s[k].toNat : Int) := by omega
              have q4 : 65 ≤ (s[k].toNat : Int) := by omega
              have d1 : decide ((s[k].toNat : Int) ≤ 90) = false := decide_eq_false (by omega)
              go_wp2
              all_goals (go_ret; exact ⟨by rw [HS.out]; rfl, rfl⟩)
            · have q3 : 97 ≤ (s[k].toNat : Int) := by omega
              have q4 : 65 ≤ (s[k].toNat : Int) := by omega
              have q5 : 90 < (s[k].toNat : Int) := by omega
              have d1 : decide ((s[k].toNat : Int) ≤ 90) = false := decide_eq_false (by omega)
              have d2 : decide ((s[k].toNat : Int) ≤ 122) = false := decide_eq_false (by omega)
              go_wp2
              all_goals (go_ret; exact ⟨by rw [HS.out]; rfl, rfl⟩)
        · obtain rfl : k = s.size := by omega
          have HS : Hid (protoB s.data.toList = true) := Lib.hid (proto_till _ s.size (Nat.le_of_eq HL.out) hall.out (by rw [HL.out]; omega) (by rw [HL.out]; omega))
          clear hall
          go_wp2
          go_ret
          exact ⟨by rw [HS.out]; rfl, rfl⟩
end Go.Proofs.Ytmnahgeledddhaa
