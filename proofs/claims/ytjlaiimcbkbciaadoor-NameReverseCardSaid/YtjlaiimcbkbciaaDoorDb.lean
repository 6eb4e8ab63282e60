/- Contracts of the document's side of names: Clean. -/
import Derived.Test.YtjlaiimcbkbciaaDoorDa
import Derived.Test.YtjlaiimcbkbciaaDoorSs
import Derived.Test.YtjlaiimcbkbciaaDoorTf
import Derived.Test.YtjlaiimcbkbciaaDoorCb
import Derived.OwnWalk
namespace Go.Proofs.YtjlaiimcbkbciaaDoor
open Go.RowKit Go.Lib Go.Tx
theorem labelB_letters (l : List UInt8) : labelB l = (decide (l.length ≤ 63) && lettersB [45, 95] l) := by
  unfold labelB lettersB
  have : (l.all fun b => sign b.toNat) = l.all fun b => alnum b.toNat || [45, 95].any fun m => b == m := by
    congr 1
    funext b
    unfold sign alnum
    have e1 : (b == 45) = decide (b.toNat = 45) := by
      by_cases h : b = 45
      · subst h; rfl
      · rw [beq_eq_false_iff_ne.2 h, decide_eq_false (fun e => h (UInt8.toNat_inj.1 (by rw [e]; rfl)))]
    have e2 : (b == 95) = decide (b.toNat = 95) := by
      by_cases h : b = 95
      · subst h; rfl
      · rw [beq_eq_false_iff_ne.2 h, decide_eq_false (fun e => h (UInt8.toNat_inj.1 (by rw [e]; rfl)))]
    simp only [List.any_cons, List.any_nil, Bool.or_false, e1, e2]
    rw [Bool.eq_iff_iff]
    simp
    omega
  rw [this]
  generalize (l.all fun b => alnum b.toNat || [45, 95].any fun m => b == m) = X
  cases X <;> by_cases h : l = [] <;> simp [h]
theorem suffix46 (s : ByteArray) (k : Nat) (hk : s.size = k + 1) (hlt : k < s.size) : hasSuffix s.data.toList [46] = decide (s[k] = 46) ∧ s.data.toList.take k = (s.extract 0 k).data.toList := by
  refine ⟨?_, (extract_from_zero s k).symm⟩
  have hl : s.data.toList.length = k + 1 := hk
  have e : s.data.toList = s.data.toList.take k ++ [s[k]] := by
    have hd : s.data.toList.drop k = [s[k]] := by
      rw [List.drop_eq_getElem_cons (by omega), List.drop_of_length_le (by omega)]
      rfl
    rw [← hd, List.take_append_drop]
  rw [e]
  generalize s[k] = b
  generalize s.data.toList.take k = t
  unfold hasSuffix
  by_cases h : b = 46
  · subst h
    simp
  · have : ¬ ([46] : List UInt8) <:+ t ++ [b] := by
      rintro ⟨u, hu⟩
      have := List.append_inj_right' hu rfl
      simp at this
      exact h this.symm
    rw [decide_eq_false h]
    cases hc : ([46] : List UInt8).isSuffixOf (t ++ [b]) with
    | false => rfl
    | true => exact absurd (List.isSuffixOf_iff_suffix.1 hc) this
theorem strC_at {B : Nat} {w : World} {v : Value} {ws : List (List UInt8)} (h : StrC B w v ws) (h1 : 1 ≤ ws.length) : ∃ g c, v = .slice (some ⟨g, 0, none⟩) ws.length c ∧ TextsAt w g c ws := by
  obtain ⟨p, c, rfl, hc, hm, hr⟩ := h.read
  obtain ⟨g, rfl, hg, _⟩ := hr 0 ws[0] (List.getElem?_eq_getElem (by omega))
  refine ⟨g, c, rfl, hg, hc, hm, fun i l hi => ?_⟩
  obtain ⟨g', e, _, h3⟩ := hr i l hi
  cases e
  exact h3
theorem all_tillL {p : List UInt8 → Bool} (l : List (List UInt8)) (k : Nat) (hk : l.length ≤ k) (h : ∀ j b, j < k → l[j]? = some b → p b = true) : l.all p = true := by
  rw [List.all_eq_true]
  intro b hb
  obtain ⟨j, hj, rfl⟩ := List.getElem_of_mem hb
  exact h j _ (by omega) (List.getElem?_eq_getElem hj)
theorem all_notL {p : List UInt8 → Bool} (l : List (List UInt8)) (k : Nat) (b : List UInt8) (hk : l[k]? = some b) (h : p b = false) : l.all p = false := by
  rw [List.all_eq_false]
  exact ⟨b, List.mem_of_getElem? hk, by simp [h]⟩
set_option maxHeartbeats 2000000 in
set_option maxRecDepth 100000 in
theorem rclean_any (s : ByteArray) (w : World) (hs : s.size ≤ 1000000) : Calls Tryd.prog 15 #[.string s] w fun e w' => e = .returned (cleanV s.data.toList) ∧ Below w.heap.size w w' := by
  by_cases h0 : 0 < s.size
  · obtain ⟨k, hk⟩ : ∃ k, s.size = k + 1 := ⟨s.size - 1, by omega⟩
    have hlt : k < s.size := by omega
    have hki : (s.size : Int) - 1 = (k : Int) := by omega
    have hkc : (s.size : Int) = (k : Int) + 1 := by omega
    obtain ⟨e1, e2⟩ := suffix46 s k hk hlt
    by_cases hd : s[k] = 46
    · have hroot : isRoot s.data.toList = true := by unfold isRoot; rw [e1, hd]; rfl
      have hbare : bare s.data.toList = (s.extract 0 k).data.toList := by
        unfold bare trimSuffix
        have : s.data.toList.length = k + 1 := hk
        rw [e1, hd, if_pos (by decide), ← e2, this]
        rfl
      have hNs : (s.extract 0 k).size = k := by simp [ByteArray.size_extract]; omega
      clear e1 e2
      obtain ⟨F, hF⟩ : ∃ F : ByteArray, ⟨((s.extract 0 k).data.toList.map low).toArray⟩ = F := ⟨_, rfl⟩
      have HV : Hid (cleanV s.data.toList = if nameB (s.extract 0 k).data.toList = true then .tuple #[.string F, .bool true, .bool true] else .tuple #[.string ⟨#[]⟩, .bool false, .bool false]) := Lib.hid (by unfold cleanV; rw [hbare, hroot, hF])
      have hnl : (s.extract 0 k).data.toList.length = (s.extract 0 k).size := rfl
      have HNB : Hid (∀ b, (s.extract 0 k).size ≤ 253 → (splitL 46 (s.extract 0 k).data.toList).all labelB = b → nameB (s.extract 0 k).data.toList = b) := Lib.hid (fun b h1 h2 => by unfold nameB; rw [h2, hnl, decide_eq_true h1, Bool.true_and])
      have HNL : Hid ((s.extract 0 k).size < 1 ∨ 253 < (s.extract 0 k).size → nameB (s.extract 0 k).data.toList = false) := Lib.hid (fun h => by
        rcases h with h | h
        · have : (s.extract 0 k).data.toList = [] := List.eq_nil_of_length_eq_zero (by omega)
          rw [this]; decide
        · unfold nameB; rw [hnl, decide_eq_false (by omega), Bool.false_and])
      have HSp : Hid (∀ w, Calls Tryd.prog 28 #[.string (s.extract 0 k), .int .u8 46] w (SplitR w (splitL 46 (s.extract 0 k).data.toList))) := Lib.hid (fun w => split_any (s.extract 0 k) 46 w (by omega))
      have HF : Hid (∀ w, Calls Tryd.prog 30 #[.string (s.extract 0 k)] w fun e w' => e = .returned (.string F) ∧ Below w.heap.size w w') := Lib.hid (fun w => by have := rfold_any (s.extract 0 k) w (by unfold maxLen; omega); rw [hF] at this; exact this)
      have HS1 := Lib.hid (splitG_len 46 (s.extract 0 k).data.toList [])
      have HS2 : Hid (∀ x, x ∈ splitL 46 (s.extract 0 k).data.toList → x.length ≤ 1000000) := Lib.hid (fun x hx => by have := splitG_mem 46 _ _ _ hx; simp only [List.length_nil] at this; omega)
      clear hbare hroot hnl hF
      have HT1 : Hid (1 ≤ (splitL 46 (s.extract 0 k).data.toList).length ∧ (splitL 46 (s.extract 0 k).data.toList).length ≤ (s.extract 0 k).data.toList.length + 1) := Lib.hid HS1.out
      clear HS1
      generalize HT0 : splitL 46 (s.extract 0 k).data.toList = T at *
      clear HT0
      go_enter Tryd.func15, Tryd.ntmps15
      go_wp2_with (go_at_call 28; refine (HSp.out _).mono ?_; rintro e w2 ⟨v, rfl, hstr, hb2⟩; obtain ⟨g, c, rfl, hta⟩ := strC_at hstr HT1.out.1; have HTA := Lib.hid hta; have hcap := hta.fits; have hmax := hta.max; have HL := Lib.hid HT1.out.2; clear hta hstr)
      all_goals first
        | (go_ret3; exact ⟨by rw [HV.out, if_neg (by rw [HNL.out (by omega)]; decide)]; rfl, Below.refl _ _⟩)
        | skip
      go_loopw [8] (fun i wr => ∃ k : Nat, k ≤ T.length ∧ i = .int .i64 k ∧ Below w2.heap.size w2 wr ∧ Hid (∀ j b, j < k → T[j]? = some b → labelB b = true)) (fun i _ => T.length - (intOf i).toNat)
      case atStart => exact ⟨0, Nat.zero_le _, rfl, Below.refl _ _, Lib.hid (by omega)⟩
      case round =>
        obtain ⟨q, hq, rfl, hbel, hall⟩ := hrel
        by_cases hql : q < T.length
        · have hcell := (HTA.out.below hbel).cell q T[q] (List.getElem?_eq_getElem hql)
          have HK := Lib.hid (List.getElem?_eq_getElem hql)
          have htl := HS2.out T[q] (List.getElem_mem hql)
          generalize T[q] = t at hcell HK htl
          have hts : (ByteArray.mk t.toArray).size = t.length := by show t.toArray.size = _; simp
          have HLT := Lib.hid (fun w => letters_any ⟨t.toArray⟩ ⟨#[45, 95]⟩ w (by omega) (by decide))
          have HLB := Lib.hid (labelB_letters t)
          by_cases h63 : 63 < t.length
          · have hb : labelB t = false := by rw [HLB.out, decide_eq_false (by omega), Bool.false_and]
            have HNo := Lib.hid (all_notL T q t HK.out hb)
            clear hb
            go_wp2
            go_ret3
            exact ⟨by rw [HV.out, if_neg (by rw [HNB.out false (by omega) HNo.out]; decide)]; rfl, hb2.trans (hbel.mono hb2.size)⟩
          · have hb : labelB t = lettersB [45, 95] t := by rw [HLB.out, decide_eq_true (by omega), Bool.true_and]
            have HEq := Lib.hid hb
            clear hb
            cases hlb : labelB t with
            | false =>
              have HNo := Lib.hid (all_notL T q t HK.out hlb)
              have HLF : Hid (lettersB [45, 95] t = false) := Lib.hid (by rw [← HEq.out, hlb])
              clear hlb
              go_wp2_with (go_at_call 29; refine (HLT.out _).mono ?_; rw [show lettersB (ByteArray.data ⟨#[45, 95]⟩).toList (ByteArray.data ⟨t.toArray⟩).toList = false from HLF.out]; rintro e w3 ⟨rfl, rfl⟩)
              go_ret3
              exact ⟨by rw [HV.out, if_neg (by rw [HNB.out false (by omega) HNo.out]; decide)]; rfl, hb2.trans (hbel.mono hb2.size)⟩
            | true =>
              have HB := Lib.hid hlb
              have HLF : Hid (lettersB [45, 95] t = true) := Lib.hid (by rw [← HEq.out, hlb])
              clear hlb
              go_wp2_with (go_at_call 29; refine (HLT.out _).mono ?_; rw [show lettersB (ByteArray.data ⟨#[45, 95]⟩).toList (ByteArray.data ⟨t.toArray⟩).toList = true from HLF.out]; rintro e w3 ⟨rfl, rfl⟩)
              go_roundw
              case rel => exact ⟨q + 1, hql, by go_num, hbel, Lib.hid (by
                intro j d hj hd
                by_cases e : j = q
                · subst e
                  have := HK.out
                  rw [this] at hd
                  cases hd
                  exact HB.out
                · exact hall.out j d (by omega) hd)⟩
              case measure => simp [intOf]; omega
        · have HYes := Lib.hid (all_tillL T q (by omega) hall.out)
          go_wp2_with (go_at_call 30; refine (HF.out _).mono ?_; rintro e w3 ⟨rfl, hb3⟩)
          go_ret3
          have hb4 := hb2.trans (hbel.mono hb2.size)
          exact ⟨by rw [HV.out, if_pos (HNB.out true (by omega) HYes.out)]; rfl, hb4.trans (hb3.mono hb4.size)⟩
    · have hroot : isRoot s.data.toList = false := by unfold isRoot; rw [e1]; exact decide_eq_false hd
      have hbare : bare s.data.toList = s.data.toList := by
        unfold bare trimSuffix
        rw [e1, if_neg (by simpa using hd)]
      have hne : ¬ (s[k].toNat : Int) = 46 := fun e => hd (UInt8.toNat_inj.1 (by show s[k].toNat = 46; omega))
      clear e1 e2 hd
      obtain ⟨F, hF⟩ : ∃ F : ByteArray, ⟨((s).data.toList.map low).toArray⟩ = F := ⟨_, rfl⟩
      have HV : Hid (cleanV s.data.toList = if nameB (s).data.toList = true then .tuple #[.string F, .bool false, .bool true] else .tuple #[.string ⟨#[]⟩, .bool false, .bool false]) := Lib.hid (by unfold cleanV; rw [hbare, hroot, hF])
      have hnl : (s).data.toList.length = (s).size := rfl
      have HNB : Hid (∀ b, (s).size ≤ 253 → (splitL 46 (s).data.toList).all labelB = b → nameB (s).data.toList = b) := Lib.hid (fun b h1 h2 => by unfold nameB; rw [h2, hnl, decide_eq_true h1, Bool.true_and])
      have HNL : Hid ((s).size < 1 ∨ 253 < (s).size → nameB (s).data.toList = false) := Lib.hid (fun h => by
        rcases h with h | h
        · have : (s).data.toList = [] := List.eq_nil_of_length_eq_zero (by omega)
          rw [this]; decide
        · unfold nameB; rw [hnl, decide_eq_false (by omega), Bool.false_and])
      have HSp : Hid (∀ w, Calls Tryd.prog 28 #[.string (s), .int .u8 46] w (SplitR w (splitL 46 (s).data.toList))) := Lib.hid (fun w => split_any (s) 46 w (by omega))
      have HF : Hid (∀ w, Calls Tryd.prog 30 #[.string (s)] w fun e w' => e = .returned (.string F) ∧ Below w.heap.size w w') := Lib.hid (fun w => by have := rfold_any (s) w (by unfold maxLen; omega); rw [hF] at this; exact this)
      have HS1 := Lib.hid (splitG_len 46 (s).data.toList [])
      have HS2 : Hid (∀ x, x ∈ splitL 46 (s).data.toList → x.length ≤ 1000000) := Lib.hid (fun x hx => by have := splitG_mem 46 _ _ _ hx; simp only [List.length_nil] at this; omega)
      clear hbare hroot hnl hF
      have HT1 : Hid (1 ≤ (splitL 46 (s).data.toList).length ∧ (splitL 46 (s).data.toList).length ≤ (s).data.toList.length + 1) := Lib.hid HS1.out
      clear HS1
      generalize HT0 : splitL 46 (s).data.toList = T at *
      clear HT0
      go_enter Tryd.func15, Tryd.ntmps15
      go_wp2_with (go_at_call 28; refine (HSp.out _).mono ?_; rintro e w2 ⟨v, rfl, hstr, hb2⟩; obtain ⟨g, c, rfl, hta⟩ := strC_at hstr HT1.out.1; have HTA := Lib.hid hta; have hcap := hta.fits; have hmax := hta.max; have HL := Lib.hid HT1.out.2; clear hta hstr)
      all_goals first
        | (go_ret3; exact ⟨by rw [HV.out, if_neg (by rw [HNL.out (by omega)]; decide)]; rfl, Below.refl _ _⟩)
        | skip
      go_loopw [8] (fun i wr => ∃ k : Nat, k ≤ T.length ∧ i = .int .i64 k ∧ Below w2.heap.size w2 wr ∧ Hid (∀ j b, j < k → T[j]? = some b → labelB b = true)) (fun i _ => T.length - (intOf i).toNat)
      case atStart => exact ⟨0, Nat.zero_le _, rfl, Below.refl _ _, Lib.hid (by omega)⟩
      case round =>
        obtain ⟨q, hq, rfl, hbel, hall⟩ := hrel
        by_cases hql : q < T.length
        · have hcell := (HTA.out.below hbel).cell q T[q] (List.getElem?_eq_getElem hql)
          have HK := Lib.hid (List.getElem?_eq_getElem hql)
          have htl := HS2.out T[q] (List.getElem_mem hql)
          generalize T[q] = t at hcell HK htl
          have hts : (ByteArray.mk t.toArray).size = t.length := by show t.toArray.size = _; simp
          have HLT := Lib.hid (fun w => letters_any ⟨t.toArray⟩ ⟨#[45, 95]⟩ w (by omega) (by decide))
          have HLB := Lib.hid (labelB_letters t)
          by_cases h63 : 63 < t.length
          · have hb : labelB t = false := by rw [HLB.out, decide_eq_false (by omega), Bool.false_and]
            have HNo := Lib.hid (all_notL T q t HK.out hb)
            clear hb
            go_wp2
            go_ret3
            exact ⟨by rw [HV.out, if_neg (by rw [HNB.out false (by omega) HNo.out]; decide)]; rfl, hb2.trans (hbel.mono hb2.size)⟩
          · have hb : labelB t = lettersB [45, 95] t := by rw [HLB.out, decide_eq_true (by omega), Bool.true_and]
            have HEq := Lib.hid hb
            clear hb
            cases hlb : labelB t with
            | false =>
              have HNo := Lib.hid (all_notL T q t HK.out hlb)
              have HLF : Hid (lettersB [45, 95] t = false) := Lib.hid (by rw [← HEq.out, hlb])
              clear hlb
              go_wp2_with (go_at_call 29; refine (HLT.out _).mono ?_; rw [show lettersB (ByteArray.data ⟨#[45, 95]⟩).toList (ByteArray.data ⟨t.toArray⟩).toList = false from HLF.out]; rintro e w3 ⟨rfl, rfl⟩)
              go_ret3
              exact ⟨by rw [HV.out, if_neg (by rw [HNB.out false (by omega) HNo.out]; decide)]; rfl, hb2.trans (hbel.mono hb2.size)⟩
            | true =>
              have HB := Lib.hid hlb
              have HLF : Hid (lettersB [45, 95] t = true) := Lib.hid (by rw [← HEq.out, hlb])
              clear hlb
              go_wp2_with (go_at_call 29; refine (HLT.out _).mono ?_; rw [show lettersB (ByteArray.data ⟨#[45, 95]⟩).toList (ByteArray.data ⟨t.toArray⟩).toList = true from HLF.out]; rintro e w3 ⟨rfl, rfl⟩)
              go_roundw
              case rel => exact ⟨q + 1, hql, by go_num, hbel, Lib.hid (by
                intro j d hj hd
                by_cases e : j = q
                · subst e
                  have := HK.out
                  rw [this] at hd
                  cases hd
                  exact HB.out
                · exact hall.out j d (by omega) hd)⟩
              case measure => simp [intOf]; omega
        · have HYes := Lib.hid (all_tillL T q (by omega) hall.out)
          go_wp2_with (go_at_call 30; refine (HF.out _).mono ?_; rintro e w3 ⟨rfl, hb3⟩)
          go_ret3
          have hb4 := hb2.trans (hbel.mono hb2.size)
          exact ⟨by rw [HV.out, if_pos (HNB.out true (by omega) HYes.out)]; rfl, hb4.trans (hb3.mono hb4.size)⟩
  · have h1 : s = ⟨#[]⟩ := by
      have : s.data.toList = [] := List.eq_nil_of_length_eq_zero (by show s.size = 0; omega)
      cases s; simp at this; simp [this]
    subst h1
    have HV : cleanV ([] : List UInt8) = .tuple #[.string ⟨#[]⟩, .bool false, .bool false] := by unfold cleanV; rw [if_neg (by decide)]
    have HV := Lib.hid HV
    go_enter Tryd.func15, Tryd.ntmps15
    go_wp2
    all_goals (go_ret3; exact ⟨by first | (rw [HV.out]; rfl) | exact congrArg Ending.returned HV.out.symm, Below.refl _ _⟩)
end Go.Proofs.YtjlaiimcbkbciaaDoor
