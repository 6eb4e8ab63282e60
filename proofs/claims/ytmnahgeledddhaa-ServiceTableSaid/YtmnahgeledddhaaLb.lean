/- Contracts: the part of a line ahead of its sign, the first foreign byte. -/
import Derived.Test.YtmnahgeledddhaaShelf
import Derived.Test.YtmnahgeledddhaaTt
namespace Go.Proofs.Ytmnahgeledddhaa
open Go.RowKit Go.Lib Go.Tx Go.Proofs
theorem slcut_no (s : ByteArray) (w : World) (hs : s.size ≤ 4294967296) (hi : Lib.indexByte s.data.toList 35 < 0) :
    Calls Try.prog 46 #[.string s, .string ⟨#[35]⟩] w fun e w' => e = .returned (.tuple #[.string s, .string ⟨#[]⟩, .bool false]) ∧ w' = w := by
  go_enter Try.func46, Try.ntmps46
  go_wp2_with (go_at_call 56; refine (Try.stringslite_Index_one s 35 _).mono ?_; rintro e w' ⟨rfl, rfl⟩)
  go_ret3
  exact ⟨rfl, rfl⟩
theorem slcut_yes (s : ByteArray) (i : Nat) (w : World) (hs : s.size ≤ 4294967296) (hi : Lib.indexByte s.data.toList 35 = i) (hlt : i < s.size) :
    Calls Try.prog 46 #[.string s, .string ⟨#[35]⟩] w fun e w' => e = .returned (.tuple #[.string (s.extract 0 i), .string (s.extract (i + 1) s.size), .bool true]) ∧ ∃ q, w' = w.drewN q := by
  go_enter Try.func46, Try.ntmps46
  go_wp2_with (go_at_call 56; refine (Try.stringslite_Index_one s 35 _).mono ?_; rintro e w' ⟨rfl, rfl⟩)
  go_quiet (fail)
  go_wp2
  go_ret3
  exact ⟨rfl, _, rfl⟩
def CutR (s : ByteArray) (w : World) (e : Ending) (w' : World) : Prop := ∃ x y, e = .returned (.tuple #[.string ⟨(hashCut s.data.toList).toArray⟩, x, y]) ∧ ∃ q, w' = w.drewN q
theorem ret_cut {s t : ByteArray} {x y : Value} (h : s = t) : Ending.returned (.tuple #[.string s, x, y]) = .returned (.tuple #[.string t, x, y]) := by rw [h]
theorem indexByte_lt (l : List UInt8) (c : UInt8) : Lib.indexByte l c < l.length ∨ l = [] := by
  induction l with
  | nil => exact .inr rfl
  | cons d l ih =>
    left
    unfold Lib.indexByte
    have hge := Lib.indexByte_ge l c
    split
    · simp
    · split
      · simp; omega
      · rcases ih with h | h
        · simp; omega
        · subst h; simp [Lib.indexByte] at *
theorem slcut_any (s : ByteArray) (w : World) (hs : s.size ≤ 4294967296) : Calls Try.prog 46 #[.string s, .string ⟨#[35]⟩] w (CutR s w) := by
  have hl : s.data.toList.length = s.size := rfl
  by_cases hi : Lib.indexByte s.data.toList 35 < 0
  · refine (slcut_no s w hs hi).mono ?_
    rintro e w' ⟨rfl, rfl⟩
    refine ⟨_, _, ret_cut ?_, 0, rfl⟩
    rw [hashCut_eq, if_neg (by omega)]
  · have hlt := indexByte_lt s.data.toList 35
    have hlt : (Lib.indexByte s.data.toList 35).toNat < s.size := by
      rcases hlt with h | h
      · omega
      · rw [h] at hi; simp [Lib.indexByte] at hi
    refine (slcut_yes s (Lib.indexByte s.data.toList 35).toNat w hs (by omega) hlt).mono ?_
    rintro e w' ⟨rfl, q, rfl⟩
    refine ⟨_, _, ret_cut ?_, q, rfl⟩
    rw [hashCut_eq, if_pos (by omega)]
    have : s.extract 0 (Lib.indexByte s.data.toList 35).toNat = ⟨(s.data.toList.take (Lib.indexByte s.data.toList 35).toNat).toArray⟩ := by
      have := ext_list s 0 (Lib.indexByte s.data.toList 35).toNat
      rw [List.drop_zero] at this
      rw [← this]
    rw [this]
theorem scut_any (s : ByteArray) (w : World) (hs : s.size ≤ 4294967296) : Calls Try.prog 33 #[.string s, .string ⟨#[35]⟩] w (CutR s w) := by
  go_enter Try.func33, Try.ntmps33
  go_wp2_with (go_at_call 46; refine (slcut_any s _ hs).mono ?_; rintro e w' ⟨x, y, rfl, q, rfl⟩)
  go_ret3
  exact ⟨_, _, rfl, q, rfl⟩
def IdxR (l : List UInt8) (w : World) (e : Ending) (w' : World) : Prop := ∃ r : Int, e = .returned (.int .i64 r) ∧ (decide (0 ≤ r) = l.any forB) ∧ w' = w
theorem any_no (l : List UInt8) (k : Nat) (hk : l.length ≤ k) (h : ∀ j b, j < k → l[j]? = some b → forB b = false) : l.any forB = false := by
  rw [List.any_eq_false]
  intro b hb
  obtain ⟨j, hj, rfl⟩ := List.getElem_of_mem hb
  rw [h j _ (by omega) (List.getElem?_eq_getElem hj)]
  simp
theorem any_yes (l : List UInt8) (k : Nat) (b : UInt8) (hk : l[k]? = some b) (h : forB b = true) : l.any forB = true := by
  rw [List.any_eq_true]
  exact ⟨b, List.mem_of_getElem? hk, h⟩
set_option maxHeartbeats 1000000 in
set_option maxRecDepth 100000 in
theorem idx_any (a : Option Addr) (n c : Nat) (l : List UInt8) (w : World) (h : BA w a n c l) :
    Calls Try.prog 54 #[.slice a n c, .func (.func 41) #[] #[]] w (IdxR l w) := by
  have hcap := h.cap
  have hmax := h.max
  have hlen := h.len
  go_enter Try.func54, Try.ntmps54
  go_wp2
  go_loop [8] (fun i => ∃ k : Nat, k ≤ n ∧ i = .int .i64 k ∧ Hid (∀ j b, j < k → l[j]? = some b → forB b = false)) (fun i => n - (intOf i).toNat)
  case atStart => exact ⟨0, Nat.zero_le _, rfl, Lib.hid (by omega)⟩
  case round =>
    obtain ⟨k, hk, rfl, hall⟩ := hrel
    by_cases hlt : k < n
    · have hkl : k < l.length := by omega
      obtain ⟨x, rfl⟩ : ∃ x, a = some x := by
        cases a with
        | none => have := h.none rfl; omega
        | some x => exact ⟨x, rfl⟩
      have hcell := h.cell x rfl k l[k] (List.getElem?_eq_getElem hkl)
      have HK := Lib.hid (List.getElem?_eq_getElem hkl)
      clear hlen
      generalize l[k] = b at hcell HK
      cases hb : forB b with
      | true =>
        have HB := Lib.hid hb
        clear hb
        go_wp2_with (go_at_call 41; refine (isForeign_any b _).mono ?_; rw [HB.out]; rintro e w' ⟨rfl, rfl⟩)
        go_ret
        exact ⟨k, rfl, by rw [any_yes l k b HK.out HB.out]; simp, rfl⟩
      | false =>
        have HB := Lib.hid hb
        clear hb
        go_wp2_with (go_at_call 41; refine (isForeign_any b _).mono ?_; rw [HB.out]; rintro e w' ⟨rfl, rfl⟩)
        go_round
        case rel => exact ⟨k + 1, hlt, by go_num, Lib.hid (by
          intro j d hj hd
          by_cases e : j = k
          · subst e
            have := HK.out
            rw [this] at hd
            cases hd
            exact HB.out
          · exact hall.out j d (by omega) hd)⟩
        case measure => simp [intOf]; omega
    · go_wp2
      go_ret
      exact ⟨-1, rfl, by rw [any_no l k (by omega) hall.out]; rfl, rfl⟩
end Go.Proofs.Ytmnahgeledddhaa
