/- The document's Parse: texts without '::'. -/
import Derived.Test.YtbhmmdkipmddlaaDoorPa
namespace Go.Proofs.YtbhmmdkipmddlaaDoor
open Go.RowKit Go.Lib Go.Tx Go.Rb Go.Ev
def fullP (r : Option (List UInt8)) : Option (List UInt8) := match r with
  | some b => if b.length = 16 then some b else none
  | none => none
def plainP (l : List UInt8) : Option (List UInt8) := fullP (groupsP true l)
/-- The head of Parse's scan: no '::' at k, the next round. -/
theorem cc_bytes {s : ByteArray} {k : Nat} (hlt : k + 1 < s.size) (h : ccAt s.data.toList k = false) : ((s[k].toNat : Int) != 58) = true ∨ (((s[k].toNat : Int) != 58) = false ∧ ((s[k + 1].toNat : Int) != 58) = true) := by
  have hc1 : s.data.toList[k]? = some s[k] := List.getElem?_eq_getElem (by show k < s.size; omega)
  have hc2 : s.data.toList[k + 1]? = some s[k + 1] := List.getElem?_eq_getElem hlt
  unfold ccAt at h
  rw [hc1, hc2] at h
  simp only [Option.some.injEq, Bool.and_eq_false_iff, decide_eq_false_iff_not] at h
  by_cases h1 : s[k] = 58
  · right
    refine ⟨by rw [h1]; rfl, ?_⟩
    rw [bne_iff_ne]
    intro h2
    rcases h with h | h
    · exact h h1
    · exact h (UInt8.toNat_inj.1 (by show _ = 58; omega))
  · left
    rw [bne_iff_ne]
    intro h2
    exact h1 (UInt8.toNat_inj.1 (by show _ = 58; omega))
set_option maxHeartbeats 2000000 in
set_option maxRecDepth 100000 in
theorem parse_plain (s : ByteArray) (w : World) (hn : s.size ≤ 100000) (hf : fourP (splitL 46 s.data.toList) = none) (hcc : ∀ j, j + 1 < s.size → ccAt s.data.toList j = false) :
    Calls Tryd.prog 8 #[.string s] w (FourR w (plainP s.data.toList)) := by
  have HF := Lib.hid hf
  have HC := Lib.hid hcc
  clear hf hcc
  have hg : ∀ W, Calls Tryd.prog 17 #[.string s, .bool true] W (GroupsR W (groupsP true s.data.toList)) := fun W => groups_any true s W hn
  have HGA := Lib.hid hg
  clear hg
  obtain ⟨r, hr⟩ : ∃ r, groupsP true s.data.toList = r := ⟨_, rfl⟩
  have HR := Lib.hid hr
  have HX : Hid (plainP s.data.toList = fullP r) := Lib.hid (by unfold plainP; rw [hr])
  clear hr
  go_enter Tryd.func8, Tryd.ntmps8
  go_wp2_with (go_at_call 16; refine (four_any s _ (by omega)).mono ?_; rw [HF.out]; rintro e w3 ⟨rfl, hb3⟩; simp only [Option.getD_none, Option.isSome_none])
  have HB := Lib.hid hb3
  clear hb3
  go_loopw [6] (fun i wr => ∃ k : Nat, k ≤ s.size ∧ i = .int .i64 k ∧ wr = w3) (fun i _ => s.size - (intOf i).toNat)
  case atStart => exact ⟨0, Nat.zero_le _, rfl, rfl⟩
  case round =>
    obtain ⟨k, hk, rfl, rfl⟩ := hrel
    by_cases hlt : k + 1 < s.size
    · rcases cc_bytes hlt (HC.out k hlt) with e1 | ⟨e1, e2⟩
      · go_wp2
        go_roundw
        case rel => exact ⟨k + 1, by omega, by go_num, trivial⟩
        case measure => simp [intOf]; omega
      · go_wp2
        go_roundw
        case rel => exact ⟨k + 1, by omega, by go_num, trivial⟩
        case measure => simp [intOf]; omega
    · cases r with
      | none =>
        go_wp2_with (go_at_call 17; refine (HGA.out _).mono ?_; intro e w4 h4; obtain ⟨rfl, hb4⟩ := groupsR_none HR.out h4; clear h4)
        go_ret2
        exact ⟨by rw [HX.out]; rfl, HB.out.trans (hb4.mono HB.out.size)⟩
      | some b =>
        by_cases h16 : b.length = 16
        · have e16 : ((b.length : Int) != 16) = false := by simp; omega
          have H16 := Lib.hid h16
          clear h16
          go_wp2_with (go_at_call 17; refine (HGA.out _).mono ?_; intro e w4 h4; obtain ⟨v4, rfl, hr4, hb4⟩ := groupsR_some HR.out h4; clear h4; have hstr := hr4.str (src := 31) (dst := 9) Tryd.underlying31 Tryd.underlying5 Tryd.underlying9; obtain ⟨p4, c4, rfl, hc4, hc5⟩ := hr4.shape)
          go_ret2
          exact ⟨by rw [HX.out]; simp only [fullP, if_pos H16.out]; rfl, HB.out.trans (hb4.mono HB.out.size)⟩
        · have e16 : ((b.length : Int) != 16) = true := by simp; omega
          have H16 := Lib.hid h16
          clear h16
          go_wp2_with (go_at_call 17; refine (HGA.out _).mono ?_; intro e w4 h4; obtain ⟨v4, rfl, hr4, hb4⟩ := groupsR_some HR.out h4; clear h4; obtain ⟨p4, c4, rfl, hc4, hc5⟩ := hr4.shape)
          go_ret2
          exact ⟨by rw [HX.out]; simp only [fullP, if_neg H16.out]; rfl, HB.out.trans (hb4.mono HB.out.size)⟩
end Go.Proofs.YtbhmmdkipmddlaaDoor
