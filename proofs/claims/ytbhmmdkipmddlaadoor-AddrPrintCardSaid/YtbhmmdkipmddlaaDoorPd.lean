/- The document's Parse: texts with '::'. -/
import Derived.Test.YtbhmmdkipmddlaaDoorPb
namespace Go.Proofs.YtbhmmdkipmddlaaDoor
open Go.RowKit Go.Lib Go.Tx Go.Rb Go.Ev
theorem cc_yes {s : ByteArray} {k : Nat} (hlt : k + 1 < s.size) (h : ccAt s.data.toList k = true) : ((s[k].toNat : Int) != 58) = false ∧ ((s[k + 1].toNat : Int) != 58) = false := by
  have hc1 : s.data.toList[k]? = some s[k] := List.getElem?_eq_getElem (by show k < s.size; omega)
  have hc2 : s.data.toList[k + 1]? = some s[k + 1] := List.getElem?_eq_getElem hlt
  unfold ccAt at h
  rw [hc1, hc2] at h
  simp only [Option.some.injEq, Bool.and_eq_true, decide_eq_true_eq] at h
  rw [h.1, h.2]
  exact ⟨rfl, rfl⟩
/-- Where bytes lie. -/
theorem RB.cells {B : Nat} {w : World} {p : Option Addr} {n c : Nat} {l : List UInt8} (h : RB B w (.slice p n c) l) (h0 : 0 < l.length) : ∃ ad, p = some ad ∧ ad.block < w.heap.size ∧ ∀ j v, (vbytes l)[j]? = some v → w.cell? (ad.add j) = some v := by
  rcases h with ⟨h1, rfl⟩ | ⟨b, cap, h1, _, h3, hr⟩
  · simp at h0
  · cases h1
    refine ⟨⟨b, 0, none⟩, rfl, ?_, fun j v hj => ?_⟩
    · obtain ⟨arr, lo, hi, e, _⟩ := hr
      exact (Array.getElem?_eq_some_iff.1 e).1
    · have ha : (⟨b, 0, none⟩ : Addr).add j = ⟨b, j, none⟩ := by unfold Addr.add; split <;> simp_all
      rw [ha]
      unfold vbytes at hj
      rw [List.getElem?_map] at hj
      obtain ⟨x, hx, rfl⟩ := Option.map_eq_some_iff.1 hj
      exact hr.cell hx
theorem groupsP_len {t : Bool} {l a : List UInt8} (h : groupsP t l = some a) : a.length ≤ 4 * (l.length + 1) := by
  unfold groupsP at h
  split at h
  · cases h; simp
  · have h1 := accG_len h
    have h2 := (splitG_len 58 l []).2
    unfold splitL at h1
    omega
set_option maxHeartbeats 1000000 in
set_option maxRecDepth 100000 in
theorem dbl_nn (s : ByteArray) (w : World) (q : Nat) (hn : s.size ≤ 100000) (hf : fourP (splitL 46 s.data.toList) = none) (hq : q + 1 < s.size) (hno : ∀ j, j < q → ccAt s.data.toList j = false) (hyes : ccAt s.data.toList q = true) (hA : groupsP false (s.data.toList.take q) = none) (hB : groupsP true (s.data.toList.drop (q + 2)) = none) :
    Calls Tryd.prog 8 #[.string s] w (FourR w none) := by
  have HF := Lib.hid hf
  have HC := Lib.hid hno
  obtain ⟨y1, y2⟩ := cc_yes hq hyes
  have hga : ∀ W, Calls Tryd.prog 17 #[.string (s.extract 0 q), .bool false] W (GroupsR W (groupsP false (s.data.toList.take q))) := fun W => by
    have := groups_any false (s.extract 0 q) W (by rw [ByteArray.size_extract]; omega)
    rwa [ext_take] at this
  have hgb : ∀ W, Calls Tryd.prog 17 #[.string (s.extract (q + 2) s.size), .bool true] W (GroupsR W (groupsP true (s.data.toList.drop (q + 2)))) := fun W => by
    have := groups_any true (s.extract (q + 2) s.size) W (by rw [ByteArray.size_extract]; omega)
    rwa [ext_from] at this
  have HRA := Lib.hid hA
  have HRB := Lib.hid hB
  have HGA := Lib.hid hga
  have HGB := Lib.hid hgb
  clear hga hgb hf hno hyes
  go_enter Tryd.func8, Tryd.ntmps8
  go_wp2_with (go_at_call 16; refine (four_any s _ (by omega)).mono ?_; rw [HF.out]; rintro e w3 ⟨rfl, hb3⟩; simp only [Option.getD_none, Option.isSome_none])
  have HB := Lib.hid hb3
  clear hb3
  go_loopw [6] (fun i wr => ∃ k : Nat, k ≤ q ∧ i = .int .i64 k ∧ wr = w3) (fun i _ => s.size - (intOf i).toNat)
  case atStart => exact ⟨0, Nat.zero_le _, rfl, rfl⟩
  case round =>
    obtain ⟨k, hk, rfl, rfl⟩ := hrel
    have hlt : k + 1 < s.size := by omega
    by_cases hkq : k < q
    · rcases cc_bytes hlt (HC.out k hkq) with e1 | ⟨e1, e2⟩
      · clear y1 y2
        go_wp2
        go_roundw
        case rel => exact ⟨k + 1, by omega, by go_num, trivial⟩
        case measure => simp [intOf]; omega
      · clear y1 y2
        go_wp2
        go_roundw
        case rel => exact ⟨k + 1, by omega, by go_num, trivial⟩
        case measure => simp [intOf]; omega
    · obtain rfl : k = q := by omega
      go_wp2_with (go_at_call 17; first | (with_reducible refine (HGA.out _).mono ?_; intro e w4 h4; obtain ⟨rfl, hb4⟩ := groupsR_none HRA.out h4; clear h4) | (with_reducible refine (HGB.out _).mono ?_; intro e w5 h5; obtain ⟨rfl, hb5⟩ := groupsR_none HRB.out h5; clear h5))
      go_ret2
      exact ⟨rfl, (HB.out.trans (hb4.mono HB.out.size)).trans (hb5.mono (Nat.le_trans HB.out.size hb4.size))⟩
set_option maxHeartbeats 1000000 in
set_option maxRecDepth 100000 in
theorem dbl_ns (s : ByteArray) (w : World) (q : Nat) (hn : s.size ≤ 100000) (hf : fourP (splitL 46 s.data.toList) = none) (hq : q + 1 < s.size) (hno : ∀ j, j < q → ccAt s.data.toList j = false) (hyes : ccAt s.data.toList q = true) (b : List UInt8) (hA : groupsP false (s.data.toList.take q) = none) (hB : groupsP true (s.data.toList.drop (q + 2)) = some b) :
    Calls Tryd.prog 8 #[.string s] w (FourR w none) := by
  have HF := Lib.hid hf
  have HC := Lib.hid hno
  obtain ⟨y1, y2⟩ := cc_yes hq hyes
  have hga : ∀ W, Calls Tryd.prog 17 #[.string (s.extract 0 q), .bool false] W (GroupsR W (groupsP false (s.data.toList.take q))) := fun W => by
    have := groups_any false (s.extract 0 q) W (by rw [ByteArray.size_extract]; omega)
    rwa [ext_take] at this
  have hgb : ∀ W, Calls Tryd.prog 17 #[.string (s.extract (q + 2) s.size), .bool true] W (GroupsR W (groupsP true (s.data.toList.drop (q + 2)))) := fun W => by
    have := groups_any true (s.extract (q + 2) s.size) W (by rw [ByteArray.size_extract]; omega)
    rwa [ext_from] at this
  have HRA := Lib.hid hA
  have HRB := Lib.hid hB
  have HGA := Lib.hid hga
  have HGB := Lib.hid hgb
  clear hga hgb hf hno hyes
  go_enter Tryd.func8, Tryd.ntmps8
  go_wp2_with (go_at_call 16; refine (four_any s _ (by omega)).mono ?_; rw [HF.out]; rintro e w3 ⟨rfl, hb3⟩; simp only [Option.getD_none, Option.isSome_none])
  have HB := Lib.hid hb3
  clear hb3
  go_loopw [6] (fun i wr => ∃ k : Nat, k ≤ q ∧ i = .int .i64 k ∧ wr = w3) (fun i _ => s.size - (intOf i).toNat)
  case atStart => exact ⟨0, Nat.zero_le _, rfl, rfl⟩
  case round =>
    obtain ⟨k, hk, rfl, rfl⟩ := hrel
    have hlt : k + 1 < s.size := by omega
    by_cases hkq : k < q
    · rcases cc_bytes hlt (HC.out k hkq) with e1 | ⟨e1, e2⟩
      · clear y1 y2
        go_wp2
        go_roundw
        case rel => exact ⟨k + 1, by omega, by go_num, trivial⟩
        case measure => simp [intOf]; omega
      · clear y1 y2
        go_wp2
        go_roundw
        case rel => exact ⟨k + 1, by omega, by go_num, trivial⟩
        case measure => simp [intOf]; omega
    · obtain rfl : k = q := by omega
      go_wp2_with (go_at_call 17; first | (with_reducible refine (HGA.out _).mono ?_; intro e w4 h4; obtain ⟨rfl, hb4⟩ := groupsR_none HRA.out h4; clear h4) | (with_reducible refine (HGB.out _).mono ?_; intro e w5 h5; obtain ⟨v5, rfl, hr5, hb5⟩ := groupsR_some HRB.out h5; clear h5; obtain ⟨p5, c5, rfl, hc5, hm5⟩ := hr5.shape; have HR5 := Lib.hid hr5; clear hr5))
      go_ret2
      exact ⟨rfl, (HB.out.trans (hb4.mono HB.out.size)).trans (hb5.mono (Nat.le_trans HB.out.size hb4.size))⟩
set_option maxHeartbeats 1000000 in
set_option maxRecDepth 100000 in
theorem dbl_sn (s : ByteArray) (w : World) (q : Nat) (hn : s.size ≤ 100000) (hf : fourP (splitL 46 s.data.toList) = none) (hq : q + 1 < s.size) (hno : ∀ j, j < q → ccAt s.data.toList j = false) (hyes : ccAt s.data.toList q = true) (a : List UInt8) (hA : groupsP false (s.data.toList.take q) = some a) (hB : groupsP true (s.data.toList.drop (q + 2)) = none) :
    Calls Tryd.prog 8 #[.string s] w (FourR w none) := by
  have HF := Lib.hid hf
  have HC := Lib.hid hno
  obtain ⟨y1, y2⟩ := cc_yes hq hyes
  have hga : ∀ W, Calls Tryd.prog 17 #[.string (s.extract 0 q), .bool false] W (GroupsR W (groupsP false (s.data.toList.take q))) := fun W => by
    have := groups_any false (s.extract 0 q) W (by rw [ByteArray.size_extract]; omega)
    rwa [ext_take] at this
  have hgb : ∀ W, Calls Tryd.prog 17 #[.string (s.extract (q + 2) s.size), .bool true] W (GroupsR W (groupsP true (s.data.toList.drop (q + 2)))) := fun W => by
    have := groups_any true (s.extract (q + 2) s.size) W (by rw [ByteArray.size_extract]; omega)
    rwa [ext_from] at this
  have HRA := Lib.hid hA
  have HRB := Lib.hid hB
  have HGA := Lib.hid hga
  have HGB := Lib.hid hgb
  clear hga hgb hf hno hyes
  go_enter Tryd.func8, Tryd.ntmps8
  go_wp2_with (go_at_call 16; refine (four_any s _ (by omega)).mono ?_; rw [HF.out]; rintro e w3 ⟨rfl, hb3⟩; simp only [Option.getD_none, Option.isSome_none])
  have HB := Lib.hid hb3
  clear hb3
  go_loopw [6] (fun i wr => ∃ k : Nat, k ≤ q ∧ i = .int .i64 k ∧ wr = w3) (fun i _ => s.size - (intOf i).toNat)
  case atStart => exact ⟨0, Nat.zero_le _, rfl, rfl⟩
  case round =>
    obtain ⟨k, hk, rfl, rfl⟩ := hrel
    have hlt : k + 1 < s.size := by omega
    by_cases hkq : k < q
    · rcases cc_bytes hlt (HC.out k hkq) with e1 | ⟨e1, e2⟩
      · clear y1 y2
        go_wp2
        go_roundw
        case rel => exact ⟨k + 1, by omega, by go_num, trivial⟩
        case measure => simp [intOf]; omega
      · clear y1 y2
        go_wp2
        go_roundw
        case rel => exact ⟨k + 1, by omega, by go_num, trivial⟩
        case measure => simp [intOf]; omega
    · obtain rfl : k = q := by omega
      go_wp2_with (go_at_call 17; first | (with_reducible refine (HGA.out _).mono ?_; intro e w4 h4; obtain ⟨v4, rfl, hr4, hb4⟩ := groupsR_some HRA.out h4; clear h4; obtain ⟨p4, c4, rfl, hc4, hm4⟩ := hr4.shape; have HR4 := Lib.hid hr4; clear hr4) | (with_reducible refine (HGB.out _).mono ?_; intro e w5 h5; obtain ⟨rfl, hb5⟩ := groupsR_none HRB.out h5; clear h5))
      go_ret2
      exact ⟨rfl, (HB.out.trans (hb4.mono HB.out.size)).trans (hb5.mono (Nat.le_trans HB.out.size hb4.size))⟩
set_option maxHeartbeats 1000000 in
set_option maxRecDepth 100000 in
theorem dbl_long (s : ByteArray) (w : World) (q : Nat) (hn : s.size ≤ 100000) (hf : fourP (splitL 46 s.data.toList) = none) (hq : q + 1 < s.size) (hno : ∀ j, j < q → ccAt s.data.toList j = false) (hyes : ccAt s.data.toList q = true) (a b : List UInt8) (hA : groupsP false (s.data.toList.take q) = some a) (hB : groupsP true (s.data.toList.drop (q + 2)) = some b) (h14 : 14 < a.length + b.length) :
    Calls Tryd.prog 8 #[.string s] w (FourR w none) := by
  have HF := Lib.hid hf
  have HC := Lib.hid hno
  obtain ⟨y1, y2⟩ := cc_yes hq hyes
  have hga : ∀ W, Calls Tryd.prog 17 #[.string (s.extract 0 q), .bool false] W (GroupsR W (groupsP false (s.data.toList.take q))) := fun W => by
    have := groups_any false (s.extract 0 q) W (by rw [ByteArray.size_extract]; omega)
    rwa [ext_take] at this
  have hgb : ∀ W, Calls Tryd.prog 17 #[.string (s.extract (q + 2) s.size), .bool true] W (GroupsR W (groupsP true (s.data.toList.drop (q + 2)))) := fun W => by
    have := groups_any true (s.extract (q + 2) s.size) W (by rw [ByteArray.size_extract]; omega)
    rwa [ext_from] at this
  have HRA := Lib.hid hA
  have HRB := Lib.hid hB
  have hla : a.length ≤ 1000000 := by have := groupsP_len hA; have h2 : s.data.toList.length = s.size := rfl; rw [List.length_take] at this; omega
  have hlb : b.length ≤ 1000000 := by have := groupsP_len hB; have h2 : s.data.toList.length = s.size := rfl; rw [List.length_drop] at this; omega
  have hi14 : (14 : Int) < (a.length : Int) + (b.length : Int) := by omega
  have HGA := Lib.hid hga
  have HGB := Lib.hid hgb
  clear hga hgb hf hno hyes
  go_enter Tryd.func8, Tryd.ntmps8
  go_wp2_with (go_at_call 16; refine (four_any s _ (by omega)).mono ?_; rw [HF.out]; rintro e w3 ⟨rfl, hb3⟩; simp only [Option.getD_none, Option.isSome_none])
  have HB := Lib.hid hb3
  clear hb3
  go_loopw [6] (fun i wr => ∃ k : Nat, k ≤ q ∧ i = .int .i64 k ∧ wr = w3) (fun i _ => s.size - (intOf i).toNat)
  case atStart => exact ⟨0, Nat.zero_le _, rfl, rfl⟩
  case round =>
    obtain ⟨k, hk, rfl, rfl⟩ := hrel
    have hlt : k + 1 < s.size := by omega
    by_cases hkq : k < q
    · rcases cc_bytes hlt (HC.out k hkq) with e1 | ⟨e1, e2⟩
      · clear y1 y2
        go_wp2
        go_roundw
        case rel => exact ⟨k + 1, by omega, by go_num, trivial⟩
        case measure => simp [intOf]; omega
      · clear y1 y2
        go_wp2
        go_roundw
        case rel => exact ⟨k + 1, by omega, by go_num, trivial⟩
        case measure => simp [intOf]; omega
    · obtain rfl : k = q := by omega
      go_wp2_with (go_at_call 17; first | (with_reducible refine (HGA.out _).mono ?_; intro e w4 h4; obtain ⟨v4, rfl, hr4, hb4⟩ := groupsR_some HRA.out h4; clear h4; obtain ⟨p4, c4, rfl, hc4, hm4⟩ := hr4.shape; have HR4 := Lib.hid hr4; clear hr4) | (with_reducible refine (HGB.out _).mono ?_; intro e w5 h5; obtain ⟨v5, rfl, hr5, hb5⟩ := groupsR_some HRB.out h5; clear h5; obtain ⟨p5, c5, rfl, hc5, hm5⟩ := hr5.shape; have HR5 := Lib.hid hr5; clear hr5))
      go_ret2
      exact ⟨rfl, (HB.out.trans (hb4.mono HB.out.size)).trans (hb5.mono (Nat.le_trans HB.out.size hb4.size))⟩
end Go.Proofs.YtbhmmdkipmddlaaDoor
