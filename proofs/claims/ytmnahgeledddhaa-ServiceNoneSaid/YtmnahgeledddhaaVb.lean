/- Contracts: what services' names and protocols are made of; a text cut at the sign /. -/
import Derived.Test.YtmnahgeledddhaaShelf
import Derived.Test.YtmnahgeledddhaaChecked
import Derived.Test.YtmnahgeledddhaaVa
import Derived.Test.YtmnahgeledddhaaNm
import Derived.Test.YtmnahgeledddhaaLb
import Derived.WalkKit
import Derived.LoopTactic
namespace Go.Proofs.Ytmnahgeledddhaa
open Go.RowKit Go.Lib Go.Tx
theorem noLetter_any (x : Nat) (hx : x ≤ 1114111) (w : World) : Calls Try.prog 47 #[.int .i32 (x : Int)] w fun e w' => e = .returned (.bool (!letterN x)) ∧ w' = w := by
  have key : ∀ b, letterN x = b → Calls Try.prog 47 #[.int .i32 (x : Int)] w (fun e w' => e = .returned (.bool (!b)) ∧ w' = w) → Calls Try.prog 47 #[.int .i32 (x : Int)] w fun e w' => e = .returned (.bool (!letterN x)) ∧ w' = w := fun b h k => by rw [h]; exact k
  have hs : letterN x = decide ((97 ≤ x ∧ x ≤ 122) ∨ (65 ≤ x ∧ x ≤ 90)) := by simp only [letterN, Bool.decide_or, Bool.decide_and]
  have hc : x < 65 ∨ (65 ≤ x ∧ x ≤ 90) ∨ (91 ≤ x ∧ x ≤ 96) ∨ (97 ≤ x ∧ x ≤ 122) ∨ 122 < x := by omega
  rcases hc with h | ⟨h, h'⟩ | ⟨h, h'⟩ | ⟨h, h'⟩ | h
  · refine key false (by rw [hs]; exact decide_eq_false (by omega)) ?_
    clear hs key hx
    have a1 : (x : Int) < 65 := by omega
    go_enter Try.func47, Try.ntmps47
    go_wp2
    all_goals (go_ret; first | exact ⟨rfl, rfl⟩ | exact ⟨by simp <;> omega, rfl⟩)
  · refine key true (by rw [hs]; exact decide_eq_true (by omega)) ?_
    clear hs key hx
    have a1 : (65:Int) ≤ (x : Int) := by omega
    have a2 : (x : Int) ≤ 90 := by omega
    go_enter Try.func47, Try.ntmps47
    go_wp2
    all_goals (go_ret; first | exact ⟨rfl, rfl⟩ | exact ⟨by simp <;> omega, rfl⟩)
  · refine key false (by rw [hs]; exact decide_eq_false (by omega)) ?_
    clear hs key hx
    have a1 : (91:Int) ≤ (x : Int) := by omega
    have a2 : (x : Int) ≤ 96 := by omega
    go_enter Try.func47, Try.ntmps47
    go_wp2
    all_goals (go_ret; first | exact ⟨rfl, rfl⟩ | exact ⟨by simp <;> omega, rfl⟩)
  · refine key true (by rw [hs]; exact decide_eq_true (by omega)) ?_
    clear hs key hx
    have a1 : (97:Int) ≤ (x : Int) := by omega
    have a2 : (x : Int) ≤ 122 := by omega
    go_enter Try.func47, Try.ntmps47
    go_wp2
    all_goals (go_ret; first | exact ⟨rfl, rfl⟩ | exact ⟨by simp <;> omega, rfl⟩)
  · refine key false (by rw [hs]; exact decide_eq_false (by omega)) ?_
    clear hs key hx
    have a1 : (122:Int) < (x : Int) := by omega
    go_enter Try.func47, Try.ntmps47
    go_wp2
    all_goals (go_ret; first | exact ⟨rfl, rfl⟩ | exact ⟨by simp <;> omega, rfl⟩)
theorem foreignS_any (x : Nat) (hx : x ≤ 1114111) (w : World) : Calls Try.prog 45 #[.int .i32 (x : Int)] w fun e w' => e = .returned (.bool (!svcSign x)) ∧ w' = w := by
  have key : ∀ b, svcSign x = b → Calls Try.prog 45 #[.int .i32 (x : Int)] w (fun e w' => e = .returned (.bool (!b)) ∧ w' = w) → Calls Try.prog 45 #[.int .i32 (x : Int)] w fun e w' => e = .returned (.bool (!svcSign x)) ∧ w' = w := fun b h k => by rw [h]; exact k
  have HN := Lib.hid (noLetter_any x hx w)
  have hs : svcSign x = decide ((97 ≤ x ∧ x ≤ 122) ∨ (65 ≤ x ∧ x ≤ 90) ∨ (48 ≤ x ∧ x ≤ 57) ∨ x = 45 ∨ x = 95 ∨ x = 46) := by
    simp only [svcSign, letterN, Bool.decide_or, Bool.decide_and, Bool.or_assoc]
  have hl : letterN x = decide ((97 ≤ x ∧ x ≤ 122) ∨ (65 ≤ x ∧ x ≤ 90)) := by simp only [letterN, Bool.decide_or, Bool.decide_and]
  by_cases hL : letterN x = true
  · refine key true (by rw [hl, decide_eq_true_eq] at hL; rw [hs]; exact decide_eq_true (by omega)) ?_
    rw [hL] at HN
    clear hs hl hL key hx
    go_enter Try.func45, Try.ntmps45
    go_wp2_with (go_at_call 47; refine HN.out.mono ?_; rintro e w' ⟨rfl, rfl⟩)
    all_goals (go_ret; first | exact ⟨rfl, rfl⟩ | exact ⟨by simp <;> omega, rfl⟩)
  · have hL2 : letterN x = false := by simpa using hL
    rw [hl, decide_eq_true_eq] at hL
    rw [hL2] at HN
    have hc : x < 45 ∨ x = 45 ∨ x = 46 ∨ x = 47 ∨ (48 ≤ x ∧ x ≤ 57) ∨ (58 ≤ x ∧ x ≤ 94) ∨ x = 95 ∨ 95 < x := by omega
    rcases hc with h | h | h | h | ⟨h, h'⟩ | ⟨h, h'⟩ | h | h
    · refine key false (by rw [hs]; exact decide_eq_false (by omega)) ?_
      have a1 : (x : Int) < 45 := by omega
      clear hs hl hL key hx
      go_enter Try.func45, Try.ntmps45
      go_wp2_with (go_at_call 47; refine HN.out.mono ?_; rintro e w' ⟨rfl, rfl⟩)
      all_goals (go_ret; first | exact ⟨rfl, rfl⟩ | exact ⟨by simp <;> omega, rfl⟩)
    · refine key true (by rw [hs]; exact decide_eq_true (by omega)) ?_
      subst h
      clear hs hl hL key hx hL2
      go_enter Try.func45, Try.ntmps45
      go_wp2_with (go_at_call 47; refine HN.out.mono ?_; rintro e w' ⟨rfl, rfl⟩)
      all_goals (go_ret; first | exact ⟨rfl, rfl⟩ | exact ⟨by simp <;> omega, rfl⟩)
    · refine key true (by rw [hs]; exact decide_eq_true (by omega)) ?_
      subst h
      clear hs hl hL key hx hL2
      go_enter Try.func45, Try.ntmps45
      go_wp2_with (go_at_call 47; refine HN.out.mono ?_; rintro e w' ⟨rfl, rfl⟩)
      all_goals (go_ret; first | exact ⟨rfl, rfl⟩ | exact ⟨by simp <;> omega, rfl⟩)
    · refine key false (by rw [hs]; exact decide_eq_false (by omega)) ?_
      subst h
      clear hs hl hL key hx hL2
      go_enter Try.func45, Try.ntmps45
      go_wp2_with (go_at_call 47; refine HN.out.mono ?_; rintro e w' ⟨rfl, rfl⟩)
      all_goals (go_ret; first | exact ⟨rfl, rfl⟩ | exact ⟨by simp <;> omega, rfl⟩)
    · refine key true (by rw [hs]; exact decide_eq_true (by omega)) ?_
      have a1 : (48:Int) ≤ (x : Int) := by omega
      have a2 : (x : Int) ≤ 57 := by omega
      clear hs hl hL key hx
      go_enter Try.func45, Try.ntmps45
      go_wp2_with (go_at_call 47; refine HN.out.mono ?_; rintro e w' ⟨rfl, rfl⟩)
      all_goals (go_ret; first | exact ⟨rfl, rfl⟩ | exact ⟨by simp <;> omega, rfl⟩)
    · refine key false (by rw [hs]; exact decide_eq_false (by omega)) ?_
      have a1 : (58:Int) ≤ (x : Int) := by omega
      have a2 : (x : Int) ≤ 94 := by omega
      clear hs hl hL key hx
      go_enter Try.func45, Try.ntmps45
      go_wp2_with (go_at_call 47; refine HN.out.mono ?_; rintro e w' ⟨rfl, rfl⟩)
      all_goals (go_ret; first | exact ⟨rfl, rfl⟩ | exact ⟨by simp <;> omega, rfl⟩)
    · refine key true (by rw [hs]; exact decide_eq_true (by omega)) ?_
      subst h
      clear hs hl hL key hx hL2
      go_enter Try.func45, Try.ntmps45
      go_wp2_with (go_at_call 47; refine HN.out.mono ?_; rintro e w' ⟨rfl, rfl⟩)
      all_goals (go_ret; first | exact ⟨rfl, rfl⟩ | exact ⟨by simp <;> omega, rfl⟩)
    · refine key false (by rw [hs]; exact decide_eq_false (by omega)) ?_
      have a1 : (95:Int) < (x : Int) := by omega
      clear hs hl hL key hx
      go_enter Try.func45, Try.ntmps45
      go_wp2_with (go_at_call 47; refine HN.out.mono ?_; rintro e w' ⟨rfl, rfl⟩)
      all_goals (go_ret; first | exact ⟨rfl, rfl⟩ | exact ⟨by simp <;> omega, rfl⟩)
set_option maxRecDepth 100000 in
theorem hasForeignS (s : ByteArray) (w : World) : Calls Try.prog 44 #[.string s, .func (.func 45) #[] #[]] w fun e w' => e = .returned (.bool (s.data.toList.any fun b => !svcSign b.toNat)) ∧ Below w.heap.size w w' := by
  refine (Try.strings_ContainsFunc_runes 45 #[] (fun args w => by rfl) (fun x => !svcSign x) s w (fun W x hx _ => (foreignS_any x hx W).mono fun _ _ ⟨h1, h2⟩ => ⟨h1, 0, h2⟩)).mono fun e w' ⟨h1, h2⟩ => ⟨?_, h2⟩
  rw [h1, idx_anyR (fun x => !svcSign x) (fun x hx => by simp [svcSign_high x hx])]
set_option maxRecDepth 100000 in
theorem hasNoLetter (s : ByteArray) (w : World) : Calls Try.prog 44 #[.string s, .func (.func 47) #[] #[]] w fun e w' => e = .returned (.bool (s.data.toList.any fun b => !letterN b.toNat)) ∧ Below w.heap.size w w' := by
  refine (Try.strings_ContainsFunc_runes 47 #[] (fun args w => by rfl) (fun x => !letterN x) s w (fun W x hx _ => (noLetter_any x hx W).mono fun _ _ ⟨h1, h2⟩ => ⟨h1, 0, h2⟩)).mono fun e w' ⟨h1, h2⟩ => ⟨?_, h2⟩
  rw [h1, idx_anyR (fun x => !letterN x) (fun x hx => by simp [letter_high x hx])]
theorem not_any (p : UInt8 → Bool) (l : List UInt8) : (!(l.any fun b => !p b)) = l.all p := by simp [List.any_eq_not_all_not]
theorem nil_or (s : ByteArray) (h : ¬ s = ⟨#[]⟩) : s.data.toList ≠ [] ∧ s.toList.isEmpty = false := by
  have h0 : s.data.toList ≠ [] := fun e => h (by cases s; simp at e; simp [e])
  refine ⟨h0, ?_⟩
  rw [Go.Lib.toList_data]
  cases hh : s.data.toList with
  | nil => exact absurd hh h0
  | cons x y => rfl
theorem svcName_any (s : ByteArray) (w : World) : Calls Try.prog 32 #[.string s] w fun e w' => e = .returned (.bool (svcB s.data.toList)) ∧ Below w.heap.size w w' := by
  have HF := Lib.hid (fun w => hasForeignS s w)
  have hl : s.data.toList.length = s.size := rfl
  by_cases h0 : s = ⟨#[]⟩
  · subst h0
    go_enter Try.func32, Try.ntmps32
    go_wp2
    all_goals (go_ret; exact ⟨rfl, Below.refl _ _⟩)
  · obtain ⟨h0', e2⟩ := nil_or s h0
    by_cases h1 : 32 < s.size
    · have h1' : (32 : Int) < (s.size : Int) := by omega
      have hb : svcB s.data.toList = false := by unfold svcB; simp [hl]; omega
      rw [hb]
      clear HF
      go_enter Try.func32, Try.ntmps32
      go_wp2
      all_goals (go_ret; exact ⟨rfl, Below.refl _ _⟩)
    · have h1' : (s.size : Int) ≤ 32 := by omega
      have HB : Hid (svcB s.data.toList = !(s.data.toList.any fun b => !svcSign b.toNat)) := Lib.hid (by
        unfold svcB
        rw [not_any (fun b => svcSign b.toNat), decide_eq_true h0', decide_eq_true (by rw [hl]; omega)]
        rfl)
      rw [HB.out]
      have e3 : decide ((s.size : Int) ≤ 32) = true := decide_eq_true (by omega)
      clear h0 h0' h1 hl HB
      have HF' : ∀ w, Calls Try.prog 44 #[.string s, .func (.func 45) #[] #[]] w fun e w' => e = .returned (.bool (s.data.toList.any fun b => !svcSign b.toNat)) ∧ Below w.heap.size w w' := HF.out
      clear HF
      generalize (s.data.toList.any fun b => !svcSign b.toNat) = X at HF' ⊢
      have HF := Lib.hid HF'
      clear HF'
      go_enter Try.func32, Try.ntmps32
      go_wp2_with (go_at_call 44; refine (HF.out _).mono ?_; rintro e w2 ⟨rfl, hb⟩)
      all_goals (go_ret; exact ⟨by simp only [e3, Bool.true_and]; rfl, hb⟩)
theorem proto_any (s : ByteArray) (w : World) : Calls Try.prog 35 #[.string s] w fun e w' => e = .returned (.bool (protoB s.data.toList)) ∧ Below w.heap.size w w' := by
  have HF := Lib.hid (fun w => hasNoLetter s w)
  have hl : s.data.toList.length = s.size := rfl
  by_cases h0 : s = ⟨#[]⟩
  · subst h0
    go_enter Try.func35, Try.ntmps35
    go_wp2
    all_goals (go_ret; exact ⟨rfl, Below.refl _ _⟩)
  · obtain ⟨h0', e2⟩ := nil_or s h0
    by_cases h1 : 8 < s.size
    · have h1' : (8 : Int) < (s.size : Int) := by omega
      have hb : protoB s.data.toList = false := by unfold protoB; simp [hl]; omega
      rw [hb]
      clear HF
      go_enter Try.func35, Try.ntmps35
      go_wp2
      all_goals (go_ret; exact ⟨rfl, Below.refl _ _⟩)
    · have h1' : (s.size : Int) ≤ 8 := by omega
      have HB : Hid (protoB s.data.toList = !(s.data.toList.any fun b => !letterN b.toNat)) := Lib.hid (by
        unfold protoB
        rw [not_any (fun b => letterN b.toNat), decide_eq_true h0', decide_eq_true (by rw [hl]; omega)]
        rfl)
      rw [HB.out]
      have e3 : decide ((s.size : Int) ≤ 8) = true := decide_eq_true (by omega)
      clear h0 h0' h1 hl HB
      have HF' : ∀ w, Calls Try.prog 44 #[.string s, .func (.func 47) #[] #[]] w fun e w' => e = .returned (.bool (s.data.toList.any fun b => !letterN b.toNat)) ∧ Below w.heap.size w w' := HF.out
      clear HF
      generalize (s.data.toList.any fun b => !letterN b.toNat) = X at HF' ⊢
      have HF := Lib.hid HF'
      clear HF'
      go_enter Try.func35, Try.ntmps35
      go_wp2_with (go_at_call 44; refine (HF.out _).mono ?_; rintro e w2 ⟨rfl, hb⟩)
      all_goals (go_ret; exact ⟨by simp only [e3, Bool.true_and]; rfl, hb⟩)
/-! ### Cut at the sign / -/
theorem slcutS_no (s : ByteArray) (w : World) (hs : s.size ≤ 4294967296) (hi : Lib.indexByte s.data.toList 47 < 0) :
    Calls Try.prog 46 #[.string s, .string ⟨#[47]⟩] w fun e w' => e = .returned (.tuple #[.string s, .string ⟨#[]⟩, .bool false]) ∧ w' = w := by
  go_enter Try.func46, Try.ntmps46
  go_wp2_with (go_at_call 56; refine (Try.stringslite_Index_one s 47 _).mono ?_; rintro e w' ⟨rfl, rfl⟩)
  go_ret3
  exact ⟨rfl, rfl⟩
theorem slcutS_yes (s : ByteArray) (i : Nat) (w : World) (hs : s.size ≤ 4294967296) (hi : Lib.indexByte s.data.toList 47 = i) (hlt : i < s.size) :
    Calls Try.prog 46 #[.string s, .string ⟨#[47]⟩] w fun e w' => e = .returned (.tuple #[.string (s.extract 0 i), .string (s.extract (i + 1) s.size), .bool true]) ∧ ∃ q, w' = w.drewN q := by
  go_enter Try.func46, Try.ntmps46
  go_wp2_with (go_at_call 56; refine (Try.stringslite_Index_one s 47 _).mono ?_; rintro e w' ⟨rfl, rfl⟩)
  go_quiet (fail)
  go_wp2
  go_ret3
  exact ⟨rfl, _, rfl⟩
theorem scutS_no (s : ByteArray) (w : World) (hs : s.size ≤ 4294967296) (hi : Lib.indexByte s.data.toList 47 < 0) :
    Calls Try.prog 33 #[.string s, .string ⟨#[47]⟩] w fun e w' => e = .returned (.tuple #[.string s, .string ⟨#[]⟩, .bool false]) ∧ w' = w := by
  have HC := Lib.hid (slcutS_no s w hs hi)
  go_enter Try.func33, Try.ntmps33
  go_wp2_with (go_at_call 46; refine HC.out.mono ?_; rintro e w' ⟨rfl, rfl⟩)
  go_ret3
  exact ⟨rfl, rfl⟩
theorem scutS_yes (l : List UInt8) (i : Nat) (w : World) (hs : l.length ≤ 4294967296) (hi : Lib.indexByte l 47 = i) :
    Calls Try.prog 33 #[.string ⟨l.toArray⟩, .string ⟨#[47]⟩] w fun e w' => e = .returned (.tuple #[.string ⟨(l.take i).toArray⟩, .string ⟨(l.drop (i + 1)).toArray⟩, .bool true]) ∧ ∃ q, w' = w.drewN q := by
  have hlt : i < l.length := by
    rcases indexByte_lt l 47 with h | h
    · omega
    · rw [h] at hi; simp [Lib.indexByte] at hi
  have HC := Lib.hid (slcutS_yes ⟨l.toArray⟩ i w (by show l.toArray.size ≤ _; simpa using hs) (by simpa using hi) (by show i < l.toArray.size; simpa using hlt))
  have e1 : (⟨l.toArray⟩ : ByteArray).extract 0 i = ⟨(l.take i).toArray⟩ := by
    have := ext_list ⟨l.toArray⟩ 0 i
    rw [List.drop_zero] at this
    rw [← this]
  have e2 : (⟨l.toArray⟩ : ByteArray).extract (i + 1) (⟨l.toArray⟩ : ByteArray).size = ⟨(l.drop (i + 1)).toArray⟩ := by
    have := ext_list ⟨l.toArray⟩ (i + 1) (⟨l.toArray⟩ : ByteArray).size
    have e3 : (⟨l.toArray⟩ : ByteArray).size = l.length := by show l.toArray.size = _; simp
    rw [show (⟨l.toArray⟩ : ByteArray).data.toList = l from rfl, List.take_of_length_le (by omega)] at this
    rw [← this]
  rw [e1, e2] at HC
  clear e1 e2
  go_enter Try.func33, Try.ntmps33
  go_wp2_with (go_at_call 46; refine HC.out.mono ?_; rintro e w' ⟨rfl, q, rfl⟩)
  go_ret3
  exact ⟨rfl, q, rfl⟩
end Go.Proofs.Ytmnahgeledddhaa
