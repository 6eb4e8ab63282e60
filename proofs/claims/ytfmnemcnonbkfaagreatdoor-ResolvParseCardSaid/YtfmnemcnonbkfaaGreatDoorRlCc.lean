/- Contracts and plain facts that the law leans on. -/
import Derived.Test.YtfmnemcnonbkfaaGreatDoorRlCb
import Derived.Test.YtfmnemcnonbkfaaGreatDoorRlCa
import Derived.Great.BuildSlice
namespace Go.Proofs.YtfmnemcnonbkfaaGreatDoor
open Go.RowKit Go.Lib Go.Tx Go.Rb Go.Ev
theorem below_drewN (w : World) : ∀ n, Below w.heap.size w (w.drewN n)
  | 0 => Below.refl _ _
  | n + 1 => (below_drewN w n).drew
theorem idx_mem (l : List UInt8) (c : UInt8) : decide (0 ≤ Lib.indexByte l c) = decide (c ∈ l) := by
  have h := Lib.indexByte_ge l c
  by_cases h1 : Lib.indexByte l c = -1
  · have := Lib.indexByte_none h1
    have hn : ¬ c ∈ l := fun hm => by
      obtain ⟨k, hk, e⟩ := List.getElem_of_mem hm
      exact this k (by rw [List.getElem?_eq_getElem hk, e])
    rw [h1]; simp [hn]
  · obtain ⟨o, ho⟩ : ∃ o : Nat, Lib.indexByte l c = o := ⟨(Lib.indexByte l c).toNat, by omega⟩
    have := (Lib.indexByte_some ho).1
    have hm := List.mem_of_getElem? this
    rw [ho]; simp [hm]
theorem contains_is (s : ByteArray) (c : UInt8) (b : Bool) (w : World) (h : decide (c ∈ s.data.toList) = b) : Calls Tryz.prog 37 #[.string s, .string ⟨#[c]⟩] w fun e w' => e = .returned (.bool b) ∧ w = w' := by
  refine (Tryz.strings_Contains_one s c w).mono ?_
  rintro e w' ⟨rfl, rfl⟩
  exact ⟨by rw [idx_mem, h], rfl⟩
theorem cut_is (s : ByteArray) (w : World) (hs : s.size ≤ 100000) (hg : GloAt w) (A B : List UInt8) (b : Bool) (h : Lib.cut s.data.toList [58, 58] = (A, B, b)) :
    Calls Tryz.prog 23 #[.string s, .string ⟨#[58, 58]⟩] w fun e w' => e = .returned (.tuple #[.string ⟨A.toArray⟩, .string ⟨B.toArray⟩, .bool b]) ∧ Below w.heap.size w w' := by
  obtain ⟨m, hm⟩ := hg.len
  refine (Tryz.strings_Cut s ⟨#[58, 58]⟩ m w (by omega) hm).mono ?_
  rintro e w' ⟨rfl, n, rfl⟩
  have h' : Lib.cut s.data.toList (ByteArray.data ⟨#[58, 58]⟩).toList = (A, B, b) := h
  rw [h']
  exact ⟨rfl, below_drewN w n⟩
theorem cut_len (l sep : List UInt8) : (Lib.cut l sep).1.length ≤ l.length ∧ (Lib.cut l sep).2.1.length ≤ l.length := by
  unfold Lib.cut
  split
  · simp; omega
  · simp
theorem pgP_len {s a : List UInt8} (h : pgP s = some a) : a.length ≤ 22 := by
  unfold pgP at h
  have hl := cutN_len 58 9 s (by omega)
  split at h
  · cases h; simp
  · split at h
    · rename_i f hf
      have := fourP_len hf
      cases hx : hexAll (cutN 58 9 s).dropLast with
      | none => rw [hx] at h; cases h
      | some x =>
        rw [hx] at h
        cases h
        have h2 := hexAll_len hx
        rw [List.length_dropLast] at h2
        simp
        omega
    · have := hexAll_len h
      omega
theorem pg_call (l : List UInt8) (w : World) (hl : l.length ≤ 100000) (hg : GloAt w) (r : Option (List UInt8)) (hr : pgP l = r) : Calls Tryz.prog 54 #[.string ⟨l.toArray⟩] w (FourR w r) := by
  have := pgroups_any ⟨l.toArray⟩ w (by show l.toArray.size ≤ _; simpa using hl) hg
  rw [← hr]
  exact this
theorem strings_zero (z : Nat) (w : World) (hz : z ≤ 16) : Calls Tryz.prog 55 #[.string ⟨#[0]⟩, .int .i64 z] w fun e w' => e = .returned (.string ⟨(List.replicate z (0 : UInt8)).toArray⟩) ∧ Below w.heap.size w w' := by
  refine (Tryz.strings_Repeat ⟨#[0]⟩ z w (by omega) (by show 1 * z ≤ _; omega)).mono ?_
  rintro e w' ⟨rfl, hb⟩
  refine ⟨?_, hb⟩
  have h1 : repeatL (ByteArray.data ⟨#[0]⟩).toList z = List.replicate z (0 : UInt8) := by
    have h2 := repeatL_replicate (0 : UInt8) 1 z
    rw [Nat.mul_one] at h2
    exact h2
  rw [h1]
/-- No ::. -/
theorem plong_plain (s : ByteArray) (w : World) (hs : s.size ≤ 100000) (hg : GloAt w) (A B : List UInt8) (hc : Lib.cut s.data.toList [58, 58] = (A, B, false)) :
    Calls Tryz.prog 38 #[.string s] w (FourR w (longP s.data.toList)) := by
  obtain ⟨r, hr⟩ : ∃ r, pgP s.data.toList = r := ⟨_, rfl⟩
  have HX : Hid (longP s.data.toList = full16 r) := Lib.hid (by unfold longP; rw [hc, hr]; rfl)
  have HC := Lib.hid (cut_is s w hs hg A B false hc)
  have HG := Lib.hid hg
  have HP : Hid (∀ W, GloAt W → Calls Tryz.prog 54 #[.string s] W (FourR W r)) := Lib.hid (fun W h => by have := pgroups_any s W hs h; rw [hr] at this; exact this)
  clear hc hr hg
  cases r with
  | none =>
    go_enter Tryz.func38, Tryz.ntmps38
    go_wp2_with (first | (go_at_call 23; refine HC.out.mono ?_; rintro e w2 ⟨rfl, hb2⟩; have HB2 := Lib.hid hb2; clear hb2) | (go_at_call 54; refine (HP.out _ (HG.out.below HB2.out)).mono ?_; rintro e w3 ⟨rfl, hb3⟩; simp only [Option.getD_none, Option.isSome_none]))
    go_ret2
    exact ⟨by rw [HX.out]; rfl, HB2.out.trans (hb3.mono HB2.out.size)⟩
  | some b =>
    by_cases h16 : b.length = 16
    · have e16 : ((b.length : Int) != 16) = false := by simp; omega
      have H16 := Lib.hid h16
      clear h16
      go_enter Tryz.func38, Tryz.ntmps38
      go_wp2_with (first | (go_at_call 23; refine HC.out.mono ?_; rintro e w2 ⟨rfl, hb2⟩; have HB2 := Lib.hid hb2; clear hb2) | (go_at_call 54; refine (HP.out _ (HG.out.below HB2.out)).mono ?_; rintro e w3 ⟨rfl, hb3⟩; simp only [Option.getD_some, Option.isSome_some]))
      go_ret2
      exact ⟨by rw [HX.out]; simp only [full16, if_pos H16.out]; rfl, HB2.out.trans (hb3.mono HB2.out.size)⟩
    · have e16 : ((b.length : Int) != 16) = true := by simp; omega
      have H16 := Lib.hid h16
      clear h16
      go_enter Tryz.func38, Tryz.ntmps38
      go_wp2_with (first | (go_at_call 23; refine HC.out.mono ?_; rintro e w2 ⟨rfl, hb2⟩; have HB2 := Lib.hid hb2; clear hb2) | (go_at_call 54; refine (HP.out _ (HG.out.below HB2.out)).mono ?_; rintro e w3 ⟨rfl, hb3⟩; simp only [Option.getD_some, Option.isSome_some]))
      go_ret2
      exact ⟨by rw [HX.out]; simp only [full16, if_neg H16.out]; rfl, HB2.out.trans (hb3.mono HB2.out.size)⟩
set_option maxHeartbeats 2000000 in
theorem plong_cut (s : ByteArray) (w : World) (hs : s.size ≤ 100000) (hg : GloAt w) (A B : List UInt8) (hc : Lib.cut s.data.toList [58, 58] = (A, B, true)) :
    Calls Tryz.prog 38 #[.string s] w (FourR w (longP s.data.toList)) := by
  have HC := Lib.hid (cut_is s w hs hg A B true hc)
  have hln := cut_len s.data.toList [58, 58]
  rw [hc] at hln
  have hsz : s.data.toList.length = s.size := rfl
  simp only [hsz] at hln
  have HA : Hid (A.length ≤ 100000) := Lib.hid (by omega)
  have HB : Hid (B.length ≤ 100000) := Lib.hid (by omega)
  have HG := Lib.hid hg
  obtain ⟨qa, hqa⟩ : ∃ q : ByteArray, (⟨A.toArray⟩ : ByteArray) = q := ⟨_, rfl⟩
  obtain ⟨qb, hqb⟩ : ∃ q : ByteArray, (⟨B.toArray⟩ : ByteArray) = q := ⟨_, rfl⟩
  rw [hqa, hqb] at HC
  by_cases hd : 46 ∈ A
  · have HX : Hid (longP s.data.toList = none) := Lib.hid (by unfold longP; rw [hc, if_pos rfl, if_pos hd])
    have HD : Hid (decide (46 ∈ (⟨A.toArray⟩ : ByteArray).data.toList) = true) := Lib.hid (by simpa using hd)
    rw [hqa] at HD
    clear hc hg hd hln hsz
    go_enter Tryz.func38, Tryz.ntmps38
    go_wp2_with (first | (go_at_call 23; refine HC.out.mono ?_; rintro e w2 ⟨rfl, hb2⟩; have HB2 := Lib.hid hb2; clear hb2) | (go_at_call 37; refine (contains_is _ _ _ _ HD.out).mono ?_; rintro e w3 ⟨rfl, rfl⟩))
    go_ret2
    exact ⟨by rw [HX.out]; rfl, HB2.out⟩
  · have HD : Hid (decide (46 ∈ (⟨A.toArray⟩ : ByteArray).data.toList) = false) := Lib.hid (by simpa using hd)
    obtain ⟨r1, h1⟩ : ∃ r, pgP A = r := ⟨_, rfl⟩
    obtain ⟨r2, h2⟩ : ∃ r, pgP B = r := ⟨_, rfl⟩
    have HX : Hid (longP s.data.toList = bothP r1 r2) := Lib.hid (by unfold longP; rw [hc, if_pos rfl, if_neg hd, h1, h2])
    obtain ⟨x1, hx1⟩ : ∃ q : ByteArray, (⟨(r1.getD []).toArray⟩ : ByteArray) = q := ⟨_, rfl⟩
    obtain ⟨x2, hx2⟩ : ∃ q : ByteArray, (⟨(r2.getD []).toArray⟩ : ByteArray) = q := ⟨_, rfl⟩
    obtain ⟨b1, hb1⟩ : ∃ b, r1.isSome = b := ⟨_, rfl⟩
    obtain ⟨b2, hb2⟩ : ∃ b, r2.isSome = b := ⟨_, rfl⟩
    have HP : Hid (∀ W q, GloAt W → ∀ x b, ((q = qa ∧ x = x1 ∧ b = b1) ∨ (q = qb ∧ x = x2 ∧ b = b2)) → Calls Tryz.prog 54 #[.string q] W fun e w' => e = .returned (.tuple #[.string x, .bool b]) ∧ Below W.heap.size W w') := Lib.hid (fun W q h x b hh => by
      rcases hh with ⟨rfl, rfl, rfl⟩ | ⟨rfl, rfl, rfl⟩
      · rw [← hx1, ← hb1, ← hqa]; exact pg_call A W HA.out h r1 h1
      · rw [← hx2, ← hb2, ← hqb]; exact pg_call B W HB.out h r2 h2)
    have hs1 : x1.size ≤ 22 := by
      rw [← hx1]
      cases r1 with
      | none => exact Nat.zero_le _
      | some a => have := pgP_len h1; show a.toArray.size ≤ _; simpa using this
    have hs2 : x2.size ≤ 22 := by
      rw [← hx2]
      cases r2 with
      | none => exact Nat.zero_le _
      | some a => have := pgP_len h2; show a.toArray.size ≤ _; simpa using this
    rw [hqa] at HD
    cases b1 with
    | false =>
      have HF : Hid (bothP r1 r2 = none) := Lib.hid (by cases r1 with
        | none => cases r2 <;> rfl
        | some a => cases hb1)
      clear hc hg hd hln hsz h1 h2 hqa hqb hx1 hx2 hb1 hb2
      go_enter Tryz.func38, Tryz.ntmps38
      go_wp2_with (first | (go_at_call 23; refine HC.out.mono ?_; rintro e w2 ⟨rfl, hb2⟩; have HB2 := Lib.hid hb2; clear hb2) | (go_at_call 37; refine (contains_is _ _ _ _ HD.out).mono ?_; rintro e w3 ⟨rfl, rfl⟩) | (go_at_call 54; refine (HP.out _ _ (HG.out.below HB2.out) _ _ (by first | exact .inl ⟨rfl, rfl, rfl⟩ | exact .inr ⟨rfl, rfl, rfl⟩)).mono ?_; rintro e w3 ⟨rfl, hb3⟩; have HB2 := Lib.hid (HB2.out.trans (hb3.mono HB2.out.size)); clear hb3))
      go_ret2
      exact ⟨by rw [HX.out, HF.out]; rfl, HB2.out⟩
    | true =>
      cases b2 with
      | false =>
        have HF : Hid (bothP r1 r2 = none) := Lib.hid (by cases r2 with
          | none => cases r1 <;> rfl
          | some a => cases hb2)
        clear hc hg hd hln hsz h1 h2 hqa hqb hx1 hx2 hb1 hb2
        go_enter Tryz.func38, Tryz.ntmps38
        go_wp2_with (first | (go_at_call 23; refine HC.out.mono ?_; rintro e w2 ⟨rfl, hb2⟩; have HB2 := Lib.hid hb2; clear hb2) | (go_at_call 37; refine (contains_is _ _ _ _ HD.out).mono ?_; rintro e w3 ⟨rfl, rfl⟩) | (go_at_call 54; refine (HP.out _ _ (HG.out.below HB2.out) _ _ (by first | exact .inl ⟨rfl, rfl, rfl⟩ | exact .inr ⟨rfl, rfl, rfl⟩)).mono ?_; rintro e w3 ⟨rfl, hb3⟩; have HB2 := Lib.hid (HB2.out.trans (hb3.mono HB2.out.size)); clear hb3))
        go_ret2
        exact ⟨by rw [HX.out, HF.out]; rfl, HB2.out⟩
      | true =>
        obtain ⟨a, rfl⟩ : ∃ a, r1 = some a := Option.isSome_iff_exists.1 hb1
        obtain ⟨b, rfl⟩ : ∃ a, r2 = some a := Option.isSome_iff_exists.1 hb2
        have hl1 : x1.size = a.length := by rw [← hx1]; show a.toArray.size = _; simp
        have hl2 : x2.size = b.length := by rw [← hx2]; show b.toArray.size = _; simp
        by_cases h14 : 14 < x1.size + x2.size
        · have HF : Hid (bothP (some a) (some b) = none) := Lib.hid (by unfold bothP; simp only; rw [if_pos (by omega)])
          clear hc hg hd hln hsz h1 h2 hqa hqb hx1 hx2 hb1 hb2 hl1 hl2
          go_enter Tryz.func38, Tryz.ntmps38
          go_wp2_with (first | (go_at_call 23; refine HC.out.mono ?_; rintro e w2 ⟨rfl, hb2⟩; have HB2 := Lib.hid hb2; clear hb2) | (go_at_call 37; refine (contains_is _ _ _ _ HD.out).mono ?_; rintro e w3 ⟨rfl, rfl⟩) | (go_at_call 54; refine (HP.out _ _ (HG.out.below HB2.out) _ _ (by first | exact .inl ⟨rfl, rfl, rfl⟩ | exact .inr ⟨rfl, rfl, rfl⟩)).mono ?_; rintro e w3 ⟨rfl, hb3⟩; have HB2 := Lib.hid (HB2.out.trans (hb3.mono HB2.out.size)); clear hb3))
          go_ret2
          exact ⟨by rw [HX.out, HF.out]; rfl, HB2.out⟩
        · obtain ⟨z, hz⟩ : ∃ z, 16 - x1.size - x2.size = z := ⟨_, rfl⟩
          have HF : Hid (bothP (some a) (some b) = some (a ++ List.replicate z 0 ++ b)) := Lib.hid (by unfold bothP; simp only; rw [if_neg (by omega), ← hl1, ← hl2, hz])
          have HX1 := Lib.hid hx1
          have HX2 := Lib.hid hx2
          have hzi : (16 : Int) - x1.size - x2.size = z := by omega
          have hz2 : 2 ≤ z := by omega
          have hz16 : z ≤ 16 := by omega
          obtain ⟨x3, hx3⟩ : ∃ q : ByteArray, (⟨(List.replicate z (0 : UInt8)).toArray⟩ : ByteArray) = q := ⟨_, rfl⟩
          have HX3 := Lib.hid hx3
          have hs3 : x3.size ≤ 22 := by rw [← hx3]; show (List.replicate z (0 : UInt8)).toArray.size ≤ _; simp; omega
          have HZ : Hid (∀ W, Calls Tryz.prog 55 #[.string ⟨#[0]⟩, .int .i64 z] W fun e w' => e = .returned (.string x3) ∧ Below W.heap.size W w') := Lib.hid (fun W => by rw [← hx3]; exact strings_zero z W hz16)
          clear hc hg hd hln hsz h1 h2 hqa hqb hx1 hx2 hb1 hb2 hl1 hl2 hz h14 hx3
          go_enter Tryz.func38, Tryz.ntmps38
          go_wp2_with (first | (go_at_call 23; refine HC.out.mono ?_; rintro e w2 ⟨rfl, hb2⟩; have HB2 := Lib.hid hb2; clear hb2) | (go_at_call 37; refine (contains_is _ _ _ _ HD.out).mono ?_; rintro e w3 ⟨rfl, rfl⟩) | (go_at_call 54; refine (HP.out _ _ (HG.out.below HB2.out) _ _ (by first | exact .inl ⟨rfl, rfl, rfl⟩ | exact .inr ⟨rfl, rfl, rfl⟩)).mono ?_; rintro e w3 ⟨rfl, hb3⟩; have HB2 := Lib.hid (HB2.out.trans (hb3.mono HB2.out.size)); clear hb3) | (go_at_call 55; refine (HZ.out _).mono ?_; rintro e w5 ⟨rfl, hb5⟩))
          go_ret2
          exact ⟨by rw [HX.out, HF.out, ← HX1.out, ← HX2.out, ← HX3.out]; simp only [Option.getD_some, Option.isSome_some, ← join_str]; rfl, HB2.out.trans (hb5.mono HB2.out.size)⟩
theorem paddr_any (s : ByteArray) (w : World) (hs : s.size ≤ 100000) (hg : GloAt w) :
    Calls Tryz.prog 21 #[.string s] w (FourR w (parseP s.data.toList)) := by
  rw [← addrP_parse]
  by_cases h : 58 ∈ s.data.toList
  · have HX : Hid (addrP s.data.toList = longP s.data.toList) := Lib.hid (by unfold addrP; rw [if_pos h])
    have HD : Hid (decide (58 ∈ s.data.toList) = true) := Lib.hid (by simpa using h)
    have HL : Hid (Calls Tryz.prog 38 #[.string s] w (FourR w (longP s.data.toList))) := Lib.hid (by
      obtain ⟨A, B, b, hc⟩ : ∃ A B b, Lib.cut s.data.toList [58, 58] = (A, B, b) := ⟨_, _, _, rfl⟩
      cases b with
      | false => exact plong_plain s w hs hg A B hc
      | true => exact plong_cut s w hs hg A B hc)
    rw [HX.out]
    generalize longP s.data.toList = R at *
    clear h hg
    go_enter Tryz.func21, Tryz.ntmps21
    go_wp2_with (first | (go_at_call 37; refine (contains_is _ _ _ _ HD.out).mono ?_; rintro e w3 ⟨rfl, rfl⟩) | (go_at_call 38; refine HL.out.mono ?_; rintro e w3 ⟨rfl, hb3⟩))
    go_ret2
    exact ⟨rfl, hb3⟩
  · have HX : Hid (addrP s.data.toList = fourP (splitL 46 s.data.toList)) := Lib.hid (by unfold addrP; rw [if_neg h])
    have HD : Hid (decide (58 ∈ s.data.toList) = false) := Lib.hid (by simpa using h)
    have HL := Lib.hid (pshort_any s w hs hg)
    rw [HX.out]
    generalize fourP (splitL 46 s.data.toList) = R at *
    clear h hg
    go_enter Tryz.func21, Tryz.ntmps21
    go_wp2_with (first | (go_at_call 37; refine (contains_is _ _ _ _ HD.out).mono ?_; rintro e w3 ⟨rfl, rfl⟩) | (go_at_call 39; refine HL.out.mono ?_; rintro e w3 ⟨rfl, hb3⟩))
    go_ret2
    exact ⟨rfl, hb3⟩
end Go.Proofs.YtfmnemcnonbkfaaGreatDoor

namespace Go.Proofs.YtfmnemcnonbkfaaGreatDoor
open Go.RowKit Go.Lib Go.Tx
theorem one_textsE (w : World) (x : ByteArray) : TextsIn (w.alloc (.cells #[.string x] 9)) (.slice (some ⟨w.heap.size, 0, none⟩) 1 1) [x.data.toList] := by
  refine .inr ⟨_, 1, rfl, fun i l hi => ?_⟩
  have ha : (⟨w.heap.size, 0, none⟩ : Addr).add i = ⟨w.heap.size, i, none⟩ := by unfold Addr.add; split <;> simp_all
  rw [ha, World.cell?_alloc_new]
  match i, hi with
  | 0, hi => cases hi; rfl
theorem SetAt.keepS {a w : World} {B b : Nat} {v1 v2 : Value} {S : SetL} (h : SetAt a B b v1 v2 S w) : SetAt a B b v1 v2 S (w.setCell ⟨b, 0, none⟩ v1) :=
  ⟨setE_eq h.blk, strc_set h.srv h.low, strc_set h.sea h.low, h.two, h.low, by rw [setE_size]; exact h.top, h.kp.set 0 _⟩
/-- Names of the caller's own new row in the place of those ahead. -/
theorem SetAt.putN {a w : World} {B b m : Nat} {v1 v2 v : Value} {S : SetL} {ws : List (List UInt8)} (h : SetAt a B b v1 v2 S w) (hv : StrC m w v ws) (hm : ∀ g, v1.ownBlock = some g → g < m) (hB : B ≤ m) :
    SetAt a B b v1 v ⟨S.servers, ws, S.dots, S.tmo, S.att, S.rot⟩ (w.setCell ⟨b, 1, none⟩ v) :=
  ⟨setE_eq h.blk, strc_set h.srv h.low, strc_set (strc_less hv hB) h.low, fun g h1 h2 => by
    have h3 := hm g h1
    have h4 := (World.ownsRow.lt hv g h2).1
    omega, h.low, by rw [setE_size]; exact h.top, h.kp.set 1 _⟩
/-- What withServer answers: to be put into the settings. -/
def ServR (a : World) (B b : Nat) (v2 : Value) (S : SetL) (e : Ending) (w' : World) : Prop :=
  ∃ p n c, e = .returned (.slice p n c) ∧ SetAt a B b (.slice p n c) v2 S (w'.setCell ⟨b, 0, none⟩ (.slice p n c)) ∧ w'.frozen? ⟨b, 0, none⟩ = false ∧ ∃ x, w'.cell? ⟨b, 0, none⟩ = some x

set_option maxHeartbeats 2000000 in
set_option maxRecDepth 100000 in
theorem withServer_any (a : World) (B b q i c : Nat) (v1 v2 : Value) (S : SetL) (r : List (List UInt8)) (w : World) (h : SetAt a B b v1 v2 S w) (hg : GloAt w) (hfew : S.servers.length ≤ 3) (hr : r.length ≤ c ∧ c ≤ 9223372036854775807) (hw : ∀ x ∈ r, x.length ≤ 512)
    (hat : ∀ (j : Nat) l, r[j]? = some l → w.cell? ⟨q, i + j, none⟩ = some (.string ⟨l.toArray⟩)) :
    Calls Tryz.prog 12 #[v1, .slice (some ⟨q, i, none⟩) r.length c] w (ServR a B b v2 (srvS S r)) := by
  obtain ⟨i8, si, sz0, sz1, sz2⟩ := info_parts info_sE
  obtain ⟨s1, d1, rfl⟩ := h.srv.shape
  obtain ⟨_, _, e, hd1, hd2, _⟩ := h.srv.read
  cases e
  have HS := Lib.hid h
  obtain ⟨⟨p0, p1, p2, p3, p4, p5⟩, ⟨f0, f1, f2, f3, f4, f5⟩⟩ := h.cells
  obtain ⟨hr1, hr2⟩ := hr
  have HSame : Hid (ServR a B b v2 S (.returned (.slice s1 S.servers.length d1)) w) := Lib.hid ⟨_, _, _, rfl, h.keepS, f0, _, p0⟩
  clear h p1 p2 p3 p4 p5 f1 f2 f3 f4 f5
  by_cases hl : S.servers.length < 3
  · have hl2 : ((S.servers.length : Int) == 3) = false := by simp; omega
    cases r with
    | nil =>
      have e : srvS S [] = S := rfl
      rw [e]
      simp only [List.length_nil]
      go_enter Tryz.func12, Tryz.ntmps12
      go_wp2
      go_ret
      exact HSame.out
    | cons y r =>
      have hy1 := hat 0 y rfl
      have hy2 := hw y (by simp)
      rw [Nat.add_zero] at hy1
      have hln : (y :: r).length = r.length + 1 := rfl
      rw [hln] at hr1 ⊢
      have HP := Lib.hid (paddr_any ⟨y.toArray⟩ w (by show y.length ≤ 100000; omega) hg)
      have hne : (((r.length + 1 : Nat) : Int) == 0) = false := by simp; omega
      clear hw hat hln
      unfold FourR at HP
      cases hp : parseP y with
      | none =>
        rw [hp] at HP
        have e : srvS S (y :: r) = S := by
          unfold srvS
          simp only
          rw [if_pos hl, hp]
        rw [e]
        clear hp hl e
        go_enter Tryz.func12, Tryz.ntmps12
        go_wp2_with (go_at_call 21; refine HP.out.mono ?_; rintro e w3 ⟨rfl, hb⟩; have HS3 := Lib.hid (HS.out.below hb); obtain ⟨⟨n0, n1, n2, n3, n4, n5⟩, ⟨g0, g1, g2, g3, g4, g5⟩⟩ := HS3.out.cells; clear hb)
        go_ret
        exact ⟨_, _, _, rfl, HS3.out.keepS, g0, _, n0⟩
      | some z =>
        rw [hp] at HP
        have e : srvS S (y :: r) = ⟨S.servers ++ [z], S.search, S.dots, S.tmo, S.att, S.rot⟩ := by
          unfold srvS
          simp only
          rw [if_pos hl, hp]
        rw [e]
        clear hp e
        go_enter Tryz.func12, Tryz.ntmps12
        go_wp2_with (first | (go_at_call 21; refine HP.out.mono ?_; rintro e w3 ⟨rfl, hb⟩; have HS3 := Lib.hid (HS.out.below hb); clear hb) | (at_builtin; refine wpList_append_lies _ (by rfl) _ _ _ (by rfl) B 9 i8 (.string ⟨#[]⟩) 1 16 Tryz.underlying26 si sz0 sz1 sz2 rfl (by decide) (.slice s1 S.servers.length d1) S.servers.length (S.servers.map strV) (by rfl) ((HS3.out.al _).srv) ⟨w3.heap.size, 0, none⟩ 1 1 [.string ⟨z.toArray⟩] (by rfl) rfl (new_cE _ _ _) (by simp [Value.oneCell']) (by decide) (by unfold maxLen; omega) (by omega) ((HS3.out.al _).top) _ rfl ?_; intro g4 cap4 w4 ho hg hat hlt4; obtain ⟨m0, m1⟩ := (HS3.out.al _).grS hg; have HO := Lib.hid ho; have HG := Lib.hid hg; have HA := Lib.hid hat; clear ho hg hat))
        go_ret
        exact ⟨_, _, _, rfl, (HS3.out.al _).pushS HO.out HG.out HA.out, m1, _, m0⟩
  · have hl2 : ((S.servers.length : Int) == 3) = true := by simp; omega
    have e : srvS S r = S := by
      unfold srvS
      cases r with
      | nil => rfl
      | cons y r => simp only; rw [if_neg hl]
    rw [e]
    clear hl e hat hw
    go_enter Tryz.func12, Tryz.ntmps12
    go_wp2
    go_ret
    exact HSame.out

set_option maxHeartbeats 2000000 in
set_option maxRecDepth 100000 in
theorem searched_any (q i c : Nat) (r : List (List UInt8)) (w : World) (hm : MaxAt w) (hr : r.length ≤ c ∧ c ≤ 9223372036854775807) (hq : q < w.heap.size) (hw : ∀ x ∈ r, x.length ≤ 512)
    (hat : ∀ (j : Nat) l, r[j]? = some l → w.cell? ⟨q, i + j, none⟩ = some (.string ⟨l.toArray⟩)) :
    Calls Tryz.prog 13 #[.slice (some ⟨q, i, none⟩) r.length c] w fun e w' => ∃ v, e = .returned v ∧ StrC w.heap.size w' v (searchP r) ∧ Below w.heap.size w w' := by
  obtain ⟨hr1, hr2⟩ := hr
  have HM := Lib.hid hm
  have HWz := Lib.hid hw
  have HWd : Hid (∀ V, Below w.heap.size w V → ∀ (j : Nat) l, r[j]? = some l → V.cell? ⟨q, i + j, none⟩ = some (.string ⟨l.toArray⟩)) := Lib.hid (fun V hV j l hj => (hV.cell (p := ⟨q, i + j, none⟩) hq).trans (hat j l hj))
  clear hm hw hat hq
  go_enter Tryz.func13, Tryz.ntmps13
  go_wp2
  go_loopw [3, 11] (fun fv iv wr => ∃ j : Nat, j ≤ r.length ∧ iv = .int .i64 j ∧ StrC w.heap.size wr fv (searchP (r.take j)) ∧ Below w.heap.size w wr) (fun _ iv _ => r.length - (intOf iv).toNat)
  case atStart => exact ⟨0, Nat.zero_le _, rfl, World.ownsRow_nil _ _ _ _, Below.refl _ _⟩
  case round =>
    obtain ⟨j, hj, rfl, hst, hb⟩ := hrel
    have HB := Lib.hid hb
    have HSt := Lib.hid hst
    clear hb
    by_cases hjl : j < r.length
    · obtain ⟨y, hy⟩ : ∃ y, r[j]? = some y := ⟨_, List.getElem?_eq_getElem hjl⟩
      have hyc := HWd.out wr HB.out j y hy
      have hyl := HWz.out y (List.mem_of_getElem? hy)
      have HC : Hid (∀ V, MaxAt V → Calls Tryz.prog 22 #[.string ⟨y.toArray⟩] V fun e w' => e = .returned (cleanV y) ∧ Below V.heap.size V w') := Lib.hid (fun V hV => clean_any ⟨y.toArray⟩ V (by show y.length ≤ maxLen; unfold maxLen; omega) hV)
      have HSn : Hid (searchP (r.take (j + 1)) = if (searchP (r.take j)).length < 6 then searchP (r.take j) ++ (nmC y).toList else searchP (r.take j)) := Lib.hid (by rw [takeH hy, search_snoc])
      have hsf := search_few (r.take j)
      obtain ⟨s3, d3, rfl⟩ := hst.shape
      clear hst hy
      generalize searchP (r.take j) = L at *
      by_cases hnm : nameB (bare y) = true
      · have hnc : nmC y = some ((bare y).map low) := by unfold nmC; rw [if_pos hnm]
        have hcv : cleanV y = .tuple #[.string ⟨((bare y).map low).toArray⟩, .bool (isRoot y), .bool true] := by unfold cleanV; rw [if_pos hnm]
        rw [hcv] at HC
        rw [hnc] at HSn
        generalize (bare y).map low = z at *
        generalize isRoot y = rt at *
        clear hnc hcv hnm
        by_cases h6 : L.length < 6
        · have h6' : (L.length : Int) < 6 := by omega
          have HS4 : Hid (searchP (r.take (j + 1)) = L ++ [z]) := Lib.hid (by rw [HSn.out, if_pos h6]; rfl)
          clear HSn h6
          go_wp2_with (first | (go_at_call 22; refine (HC.out _ (HM.out.below HB.out)).mono ?_; rintro e w3 ⟨rfl, hb⟩; have H3 := Lib.hid (own_below HSt.out hb); have HB3 := Lib.hid (HB.out.trans (hb.mono HB.out.size)); clear hb) | (at_builtin; refine wpList_append_texts rfl _ _ rfl (B := w.heap.size) rfl rfl (World.ownsRow.alloc H3.out _) (one_textsE _ _) (by simp; omega) (by have := HB3.out.size; show w.heap.size ≤ (Array.push _ _).size; simp; omega) ?_; intro v' w5 hown5 hb5; have H5 := Lib.hid hown5; have HB5 := Lib.hid ((HB3.out.alloc HB3.out.size _).trans hb5); clear hown5 hb5))
          go_roundw
          case rel => exact ⟨j + 1, hjl, by go_num, by rw [HS4.out]; exact H5.out, HB5.out⟩
          case measure => simp [intOf]; omega
        · have h6' : ¬ (L.length : Int) < 6 := by omega
          have HS4 : Hid (searchP (r.take (j + 1)) = L) := Lib.hid (by rw [HSn.out, if_neg h6])
          clear HSn h6
          go_wp2_with (go_at_call 22; refine (HC.out _ (HM.out.below HB.out)).mono ?_; rintro e w3 ⟨rfl, hb⟩; have H3 := Lib.hid (own_below HSt.out hb); have HB3 := Lib.hid (HB.out.trans (hb.mono HB.out.size)); clear hb)
          go_roundw
          case rel => exact ⟨j + 1, hjl, by go_num, by rw [HS4.out]; exact H3.out, HB3.out⟩
          case measure => simp [intOf]; omega
      · have hnc : nmC y = none := by unfold nmC; rw [if_neg hnm]
        have hcv : cleanV y = .tuple #[.string ⟨#[]⟩, .bool false, .bool false] := by unfold cleanV; rw [if_neg hnm]
        rw [hcv] at HC
        have HS4 : Hid (searchP (r.take (j + 1)) = L) := Lib.hid (by rw [HSn.out, hnc]; split <;> simp)
        clear HSn hnc hcv hnm
        go_wp2_with (go_at_call 22; refine (HC.out _ (HM.out.below HB.out)).mono ?_; rintro e w3 ⟨rfl, hb⟩; have H3 := Lib.hid (own_below HSt.out hb); have HB3 := Lib.hid (HB.out.trans (hb.mono HB.out.size)); clear hb)
        go_roundw
        case rel => exact ⟨j + 1, hjl, by go_num, by rw [HS4.out]; exact H3.out, HB3.out⟩
        case measure => simp [intOf]; omega
    · obtain rfl : j = r.length := by omega
      have HS4 : Hid (searchP (r.take r.length) = searchP r) := Lib.hid (by rw [List.take_length])
      rw [HS4.out] at HSt
      obtain ⟨s3, d3, rfl⟩ := hst.shape
      clear hst
      go_wp2
      go_ret
      exact ⟨_, rfl, HSt.out, HB.out⟩
end Go.Proofs.YtfmnemcnonbkfaaGreatDoor

namespace Go.Proofs.YtfmnemcnonbkfaaGreatDoor
open Go.RowKit Go.Lib Go.Tx Go.Proofs
theorem lines_zero (a : Option Addr) (w : World) : Calls Tryz.prog 11 #[.slice a 0 0] w fun e w' => e = .returned (.slice none 0 0) ∧ w = w' := by
  go_enter Tryz.func11, Tryz.ntmps11
  go_wp2
  go_loop [0, 3] (fun b t => b = .slice a 0 0 ∧ t = .slice none 0 0) (fun _ _ => 0)
  case atStart => exact ⟨rfl, rfl⟩
  case round =>
    obtain ⟨rfl, rfl⟩ := hrel
    go_wp2
    go_ret
    exact ⟨rfl, rfl⟩
theorem one_zero (a : Option Addr) (w : World) : Calls Tryz.prog 25 #[.slice a 0 0] w fun e w' => e = .returned (.slice none 0 0) ∧ w = w' := by
  go_enter Tryz.func25, Tryz.ntmps25
  go_wp2
  go_loop [3, 4, 6] (fun l s i => l = .slice none 0 0 ∧ s = .string ⟨#[]⟩ ∧ i = .int .i64 0) (fun _ _ _ => 0)
  case atStart => exact ⟨rfl, rfl, rfl⟩
  case round =>
    obtain ⟨rfl, rfl, rfl⟩ := hrel
    go_wp2
    go_ret
    exact ⟨rfl, rfl⟩
theorem rlines_zero (a : Option Addr) (w : World) : Calls Tryz.prog 15 #[.slice a 0 0] w fun e w' => e = .returned (.slice none 0 0) ∧ w = w' := by
  go_enter Tryz.func15, Tryz.ntmps15
  go_wp2
  go_loop [3, 4, 5, 6] (fun l no fr i => l = .slice none 0 0 ∧ ((no = .int .i64 0 ∧ fr = .int .i64 0 ∧ i = .int .i64 0) ∨ i = .int .i64 1)) (fun _ _ _ i => 1 - (intOf i).toNat)
  case atStart => exact ⟨rfl, .inl ⟨rfl, rfl, rfl⟩⟩
  case round =>
    obtain ⟨rfl, ⟨rfl, rfl, rfl⟩ | rfl⟩ := hrel
    · go_wp2_with (go_at_call 25; refine (one_zero _ _).mono ?_; rintro e w' ⟨rfl, rfl⟩)
      go_round
      case rel => exact ⟨rfl, .inr rfl⟩
      case measure => simp [intOf]
    · go_wp2
      go_ret
      exact ⟨rfl, rfl⟩
end Go.Proofs.YtfmnemcnonbkfaaGreatDoor

namespace Go.Proofs.YtfmnemcnonbkfaaGreatDoor
open Go.RowKit Go.Lib Go.Tx
theorem mark_any {w : World} {b : Nat} {arr : Array Value} (h : w.heap[b]? = some (.cells arr 5 (0, 0))) (n c : Nat) :
    ∃ w' fr', (convert 22 22 (.slice (some ⟨b, 0, none⟩) n c)).run Tryz.prog w = .ok (.slice (some ⟨b, 0, none⟩) n c) w' ∧ w'.heap[b]? = some (.cells arr 5 fr') ∧ (∀ k, k ≠ b → w'.heap[k]? = w.heap[k]?) ∧ w'.heap.size = w.heap.size ∧ w'.os = w.os ∧ w'.tape = w.tape ∧ w'.output = w.output := by
  obtain ⟨w', fr', e1, e2, e3, e4, e5, e6, e7, e8⟩ := Go.Ev.freeze_at h ⟨fun i hi h => by simp only at h; omega, by simp⟩
  have hsh : w.shape? b = some (5, arr.size) := by unfold World.shape?; rw [h]
  refine ⟨w', fr', ?_, e3, e4, e5, e6, e7, e8⟩
  simp [convert, Go.Ev.run_und Tryz.underlying22, Go.Ev.run_und Tryz.underlying5, markStringish, hsh, e1]
theorem ba_lit {w : World} {b : Nat} {arr : Array Value} {fr : Nat × Nat} {l : List UInt8} (h : w.heap[b]? = some (.cells arr 5 fr)) (ha : arr = (l.map fun c => Value.int .u8 (c.toNat : Int)).toArray) (hl : l.length ≤ 9223372036854775807) : BA w (some ⟨b, 0, none⟩) l.length l.length l :=
  ⟨rfl, Nat.le_refl _, hl, (fun h => by cases h), fun x hx j c hj => by
    cases hx
    have e : (⟨b, 0, none⟩ : Addr).add j = ⟨b, j, none⟩ := by unfold Addr.add; split <;> simp_all
    rw [e]
    subst ha
    simp [World.cell?, h, hj]⟩
/-- Bytes written as a literal, marked: what a caller reads. -/
theorem lit_any (w : World) (arr : Array Value) (l : List UInt8) (ha : arr = (l.map fun c => Value.int .u8 (c.toNat : Int)).toArray) (hl : l.length ≤ 9223372036854775807) :
    ∃ w', (convert 22 22 (.slice (some ⟨w.heap.size, 0, none⟩) l.length l.length)).run Tryz.prog (w.alloc (.cells arr 5)) = .ok (.slice (some ⟨w.heap.size, 0, none⟩) l.length l.length) w' ∧ BA w' (some ⟨w.heap.size, 0, none⟩) l.length l.length l ∧ w.heap.size < w'.heap.size ∧ Below w.heap.size w w' := by
  obtain ⟨w', fr', h1, h2, h3, h4, h5, h6, h7⟩ := mark_any (heap_alloc_new w (.cells arr 5)) l.length l.length
  have hs : (w.alloc (.cells arr 5)).heap.size = w.heap.size + 1 := by show (w.heap.push _).size = _; simp
  refine ⟨w', h1, ba_lit h2 ha hl, by omega, h5, h6, h7, by omega, fun k hk => ?_⟩
  rw [h3 k (by omega)]
  show (w.heap.push _)[k]? = _
  rw [Array.getElem?_push, if_neg (by omega)]
/-- Bytes that came in. -/
theorem ba_ints {W : World} {a : Option Addr} {n0 n c : Nat} {zs : List Int} (h : Go.Sl.IsInts .u8 W a n0 c zs) (hn : n ≤ n0) : BA W a n c ((zs.take n).map fun z => UInt8.ofNat z.toNat) ∧ n0 ≤ c ∧ c ≤ maxLen ∧ (0 < c → ∀ x, a = some x → x.block < W.heap.size) := by
  rcases h with ⟨rfl, rfl, rfl, rfl⟩ | ⟨x, rfl, h1, h2, h3, h4, h5⟩
  · obtain rfl : n = 0 := by omega
    exact ⟨⟨rfl, Nat.le_refl _, by omega, fun _ => rfl, fun x hx => by cases hx⟩, Nat.le_refl _, by unfold maxLen; omega, fun h => by omega⟩
  · refine ⟨⟨by simp; omega, by omega, by unfold maxLen at h2; omega, (fun h => by cases h), fun y hy j b hj => ?_⟩, h1, h2, fun h0 y hy => ?_⟩
    · cases hy
      rw [List.getElem?_map] at hj
      obtain ⟨z, hz, rfl⟩ := Option.map_eq_some_iff.1 hj
      rw [List.getElem?_take] at hz
      split at hz
      · rename_i hjn
        have hjl := (List.getElem?_eq_some_iff.1 hz).1
        have hc := h4 j hjl
        rw [List.getD_eq_getElem?_getD, hz] at hc
        have hw := h5 z (List.mem_of_getElem? hz)
        have hw2 : 0 ≤ z ∧ z ≤ 255 := by simpa [Lit.wf, IntKind.wrap, IntKind.bits, IntKind.signed, IntKind.min, IntKind.max] using hw
        rw [hc]
        simp only [Option.getD_some]
        rw [UInt8.toNat_ofNat_of_lt' (by show z.toNat < 256; omega)]
        congr 2
        omega
      · cases hz
    · cases hy
      have hc := h4 0 (by omega)
      unfold World.cell? at hc
      have ha : (x.add 0).block = x.block := by unfold Addr.add; split <;> rfl
      split at hc
      · rename_i hh; rw [← ha]; exact (Array.getElem?_eq_some_iff.1 hh).1
      · cases hc

/-- Bytes that may be read, or none without room. -/
def InB (W : World) (a : Option Addr) (n c : Nat) (l : List UInt8) : Prop := (BA W a n c l ∧ (∀ x, a = some x → x.block < W.heap.size) ∧ n ≤ 100000) ∨ (n = 0 ∧ c = 0 ∧ l = [])
theorem InB.below {W W' : World} {a : Option Addr} {n c : Nat} {l : List UInt8} (h : InB W a n c l) (hb : Below W.heap.size W W') : InB W' a n c l := by
  rcases h with ⟨h1, h2, h3⟩ | h
  · exact .inl ⟨h1.below hb h2, fun x hx => Nat.lt_of_lt_of_le (h2 x hx) hb.size, h3⟩
  · exact .inr h
theorem toldE_nil : toldG 1 [] [] = [] := by decide
theorem rsetup_any (a : Option Addr) (n c : Nat) (l : List UInt8) (w : World) (h : InB w a n c l) :
    Calls Tryz.prog 9 #[.slice a n c] w (RSetR w (setupP (toldG 1 [] l))) := by
  rcases h with ⟨h, hold, hn⟩ | ⟨rfl, rfl, rfl⟩
  · have hl := h.len
    obtain ⟨h1, h2⟩ := toldG_fine l 1 []
    exact rsetup_core a n c _ w h1 (by omega) (fun W hb => rlines_any a n c l W (h.below hb hold) (fun x hx => Nat.lt_of_lt_of_le (hold x hx) hb.size) (by omega))
  · rw [toldE_nil]
    refine rsetup_core a 0 0 [] w (fun t ht => by (cases ht)) (by simp) (fun W _ => (rlines_zero a W).mono ?_)
    rintro e w' ⟨rfl, rfl⟩
    exact ⟨_, rfl, LinesC.nil _ _ _, Below.refl _ _⟩
/-- The program's Parse says what the document's Setup says. -/
def PsetOK (w : World) : Prop := ∀ (a : Option Addr) (n c : Nat) (l : List UInt8) (W : World), Below w.heap.size w W → InB W a n c l → Calls Tryz.prog 8 #[.slice a n c] W (RSetR W (setupP (toldG 1 [] l)))
theorem PsetOK.below {w w' : World} (h : PsetOK w) (hb : Below w.heap.size w w') : PsetOK w' := fun a n c l W hW => h a n c l W (hb.trans (hW.mono hb.size))

def bytes15 : List UInt8 := [110, 97, 109, 101, 115, 101, 114, 118, 101, 114, 32, 49, 46, 50, 46, 51, 46, 52, 10, 115, 101, 97, 114, 99, 104, 32, 97, 32, 98, 10, 111, 112, 116, 105, 111, 110, 115, 32, 116, 105, 109, 101, 111, 117, 116, 58, 51, 32, 114, 111, 116, 97, 116, 101, 10]
def ints15 : List Int := [110, 97, 109, 101, 115, 101, 114, 118, 101, 114, 32, 49, 46, 50, 46, 51, 46, 52, 10, 115, 101, 97, 114, 99, 104, 32, 97, 32, 98, 10, 111, 112, 116, 105, 111, 110, 115, 32, 116, 105, 109, 101, 111, 117, 116, 58, 51, 32, 114, 111, 116, 97, 116, 101, 10]
theorem plain15 : (setupP (toldG 1 [] bytes15)).servers.length = 1 ∧ (setupP (toldG 1 [] bytes15)).search.length = 2 ∧ (setupP (toldG 1 [] bytes15)).dots = 1 ∧ (setupP (toldG 1 [] bytes15)).tmo = 3 ∧ (setupP (toldG 1 [] bytes15)).att = 2 ∧ (setupP (toldG 1 [] bytes15)).rot = true := by decide +kernel
def bytes16 : List UInt8 := [110, 97, 109, 101, 115, 101, 114, 118, 101, 114, 32, 120, 10, 110, 97, 109, 101, 115, 101, 114, 118, 101, 114, 32, 49, 46, 49, 46, 49, 46, 49, 10, 110, 97, 109, 101, 115, 101, 114, 118, 101, 114, 32, 49, 46, 49, 46, 49, 46, 50, 32, 109, 111, 114, 101, 10, 110, 97, 109, 101, 115, 101, 114, 118, 101, 114, 32, 49, 46, 49, 46, 49, 46, 51, 10, 110, 97, 109, 101, 115, 101, 114, 118, 101, 114, 32, 49, 46, 49, 46, 49, 46, 52, 10, 115, 101, 97, 114, 99, 104, 32, 97, 32, 98, 10, 115, 101, 97, 114, 99, 104, 32, 99, 33, 32, 100, 32, 101, 32, 102, 32, 103, 32, 104, 32, 105, 32, 106, 10, 111, 112, 116, 105, 111, 110, 115, 32, 110, 100, 111, 116, 115, 58, 49, 53, 32, 110, 100, 111, 116, 115, 58, 49, 54, 32, 116, 105, 109, 101, 111, 117, 116, 58, 51, 48, 32, 116, 105, 109, 101, 111, 117, 116, 58, 51, 49, 32, 97, 116, 116, 101, 109, 112, 116, 115, 58, 53, 32, 97, 116, 116, 101, 109, 112, 116, 115, 58, 54, 32, 97, 116, 116, 101, 109, 112, 116, 115, 58, 48, 32, 116, 105, 109, 101, 111, 117, 116, 58, 48, 32, 110, 100, 111, 116, 115, 58, 48, 55, 10]
def ints16 : List Int := [110, 97, 109, 101, 115, 101, 114, 118, 101, 114, 32, 120, 10, 110, 97, 109, 101, 115, 101, 114, 118, 101, 114, 32, 49, 46, 49, 46, 49, 46, 49, 10, 110, 97, 109, 101, 115, 101, 114, 118, 101, 114, 32, 49, 46, 49, 46, 49, 46, 50, 32, 109, 111, 114, 101, 10, 110, 97, 109, 101, 115, 101, 114, 118, 101, 114, 32, 49, 46, 49, 46, 49, 46, 51, 10, 110, 97, 109, 101, 115, 101, 114, 118, 101, 114, 32, 49, 46, 49, 46, 49, 46, 52, 10, 115, 101, 97, 114, 99, 104, 32, 97, 32, 98, 10, 115, 101, 97, 114, 99, 104, 32, 99, 33, 32, 100, 32, 101, 32, 102, 32, 103, 32, 104, 32, 105, 32, 106, 10, 111, 112, 116, 105, 111, 110, 115, 32, 110, 100, 111, 116, 115, 58, 49, 53, 32, 110, 100, 111, 116, 115, 58, 49, 54, 32, 116, 105, 109, 101, 111, 117, 116, 58, 51, 48, 32, 116, 105, 109, 101, 111, 117, 116, 58, 51, 49, 32, 97, 116, 116, 101, 109, 112, 116, 115, 58, 53, 32, 97, 116, 116, 101, 109, 112, 116, 115, 58, 54, 32, 97, 116, 116, 101, 109, 112, 116, 115, 58, 48, 32, 116, 105, 109, 101, 111, 117, 116, 58, 48, 32, 110, 100, 111, 116, 115, 58, 48, 55, 10]
theorem plain16 : ((setupP (toldG 1 [] bytes16)).servers.length = 3 ∧ (setupP (toldG 1 [] bytes16)).servers[2]? = some [1, 1, 1, 3]) ∧ ((setupP (toldG 1 [] bytes16)).search.length = 6 ∧ (setupP (toldG 1 [] bytes16)).search[0]? = some [100] ∧ (setupP (toldG 1 [] bytes16)).search[5]? = some [105]) ∧ (setupP (toldG 1 [] bytes16)).dots = 15 ∧ (setupP (toldG 1 [] bytes16)).tmo = 30 ∧ (setupP (toldG 1 [] bytes16)).att = 5 ∧ (setupP (toldG 1 [] bytes16)).rot = false := by decide +kernel
set_option maxHeartbeats 4000000 in
set_option maxRecDepth 100000 in
theorem begun15_any (w : World) (HPs : PsetOK w) :
    Calls Tryz.prog 5 #[] w fun e w' => e = .returned (.bool true) ∧ Below w.heap.size w w' := by
  have hpl := plain15
  obtain ⟨cs, hcs⟩ : ∃ cs, (ints15.map (Value.int .u8)).toArray = cs := ⟨_, rfl⟩
  have ha : cs = (bytes15.map fun c => Value.int .u8 (c.toNat : Int)).toArray := by rw [← hcs]; kernel_rfl
  obtain ⟨w1, hc, hba, hlt, hb1⟩ := lit_any w cs bytes15 ha (by decide)
  have HP : Hid (Calls Tryz.prog 8 #[.slice (some ⟨w.heap.size, 0, none⟩) 55 55] w1 (RSetR w1 (setupP (toldG 1 [] bytes15)))) := Lib.hid (HPs _ _ _ _ w1 hb1 (.inl ⟨hba, fun x hx => by cases hx; exact hlt, by decide⟩))
  have hc2 : (convert 22 22 (.slice (some ⟨w.heap.size, 0, none⟩) 55 55)).run Tryz.prog (w.alloc (.cells cs 5)) = .ok (.slice (some ⟨w.heap.size, 0, none⟩) 55 55) w1 := hc
  have HPk := Lib.hid HPs
  have HB1 := Lib.hid hb1
  have HCs := Lib.hid hcs
  generalize setupP (toldG 1 [] bytes15) = S at *
  have HPl := Lib.hid hpl
  clear hc hba hlt HPs hb1 hpl ha hcs
  go_enter Tryz.func5, Tryz.ntmps5
  go_upto_region 2 with (first | (refine wpList_buildFlatAt (by rfl) 22 5 55 _ (by rfl) .u8 ints15 w.heap.size rfl (some 2) rfl Tryz.underlying22 (by kernel_rfl) (by kernel_rfl) (by kernel_rfl) (by decide) (by decide) (by kernel_rfl) ?_; rw [HCs.out]) | (go_at_call 8; refine HP.out.mono ?_; rintro e w2 ⟨v, rfl, ⟨v1, v2, rfl, hv1, hv2⟩, hb2⟩; obtain ⟨p1, c1, rfl, hd1, hd2, hr1⟩ := StrC.read hv1; obtain ⟨p2, c2, rfl, hd3, hd4, hr2⟩ := StrC.read hv2; have HB2 := Lib.hid (HB1.out.trans (hb2.mono HB1.out.size)); clear hb2))
  have HS1 := Lib.hid hv1
  have HS2 := Lib.hid hv2
  obtain ⟨W3, hW3⟩ : ∃ W3, w2.alloc (.cells #[.slice p1 S.servers.length c1, .slice p2 S.search.length c2, .int .i64 S.dots, .int .i64 S.tmo, .int .i64 S.att, .bool S.rot] 28) = W3 := ⟨_, rfl⟩
  have h3 : W3.heap[w2.heap.size]? = some (.cells #[.slice p1 S.servers.length c1, .slice p2 S.search.length c2, .int .i64 S.dots, .int .i64 S.tmo, .int .i64 S.att, .bool S.rot] 28 (0, 0)) := by rw [← hW3]; exact heap_alloc_new w2 _
  have HB3 : Hid (Below w.heap.size w W3) := Lib.hid (by rw [← hW3]; exact HB2.out.alloc HB2.out.size _)
  try rw [hW3]
  obtain ⟨e1, e2, e3, e4, e5, e6⟩ := HPl.out
  have k0 : W3.cell? ⟨w2.heap.size, 0, none⟩ = some (.slice p1 S.servers.length c1) := by simp [World.cell?, h3]
  have k1 : W3.cell? ⟨w2.heap.size, 1, none⟩ = some (.slice p2 S.search.length c2) := by simp [World.cell?, h3]
  have k2 : W3.cell? ⟨w2.heap.size, 2, none⟩ = some (.int .i64 S.dots) := by simp [World.cell?, h3]
  have k3 : W3.cell? ⟨w2.heap.size, 3, none⟩ = some (.int .i64 S.tmo) := by simp [World.cell?, h3]
  have k4 : W3.cell? ⟨w2.heap.size, 4, none⟩ = some (.int .i64 S.att) := by simp [World.cell?, h3]
  have k5 : W3.cell? ⟨w2.heap.size, 5, none⟩ = some (.bool S.rot) := by simp [World.cell?, h3]
  rw [e1] at k0
  rw [e2] at k1
  rw [e3] at k2
  rw [e4] at k3
  rw [e5] at k4
  rw [e6] at k5
  clear hW3 h3 hv1 hv2 hr1 hr2 hd1 hd2 hd3 hd4 e1 e2 e3 e4 e5 e6 hc2
  go_wp2
  go_ret
  exact ⟨rfl, HB3.out⟩
set_option maxHeartbeats 4000000 in
set_option maxRecDepth 100000 in
theorem resolvLimits_walk (w : World) (HPs : PsetOK w) :
    Calls Tryz.prog 4 #[] w fun e w' => e = .returned (.bool true) ∧ Below w.heap.size w w' := by
  have hpl := plain16
  obtain ⟨cs, hcs⟩ : ∃ cs, (ints16.map (Value.int .u8)).toArray = cs := ⟨_, rfl⟩
  have ha : cs = (bytes16.map fun c => Value.int .u8 (c.toNat : Int)).toArray := by rw [← hcs]; kernel_rfl
  obtain ⟨w1, hc, hba, hlt, hb1⟩ := lit_any w cs bytes16 ha (by decide)
  have HP : Hid (Calls Tryz.prog 8 #[.slice (some ⟨w.heap.size, 0, none⟩) 229 229] w1 (RSetR w1 (setupP (toldG 1 [] bytes16)))) := Lib.hid (HPs _ _ _ _ w1 hb1 (.inl ⟨hba, fun x hx => by cases hx; exact hlt, by decide⟩))
  have hc2 : (convert 22 22 (.slice (some ⟨w.heap.size, 0, none⟩) 229 229)).run Tryz.prog (w.alloc (.cells cs 5)) = .ok (.slice (some ⟨w.heap.size, 0, none⟩) 229 229) w1 := hc
  have HPk := Lib.hid HPs
  have HB1 := Lib.hid hb1
  have HCs := Lib.hid hcs
  generalize setupP (toldG 1 [] bytes16) = S at *
  have HPl := Lib.hid hpl
  clear hc hba hlt HPs hb1 hpl ha hcs
  go_enter Tryz.func4, Tryz.ntmps4
  go_upto_region 2 with (first | (refine wpList_buildFlatAt (by rfl) 22 5 229 _ (by rfl) .u8 ints16 w.heap.size rfl (some 2) rfl Tryz.underlying22 (by kernel_rfl) (by kernel_rfl) (by kernel_rfl) (by decide) (by decide) (by kernel_rfl) ?_; rw [HCs.out]) | (go_at_call 8; refine HP.out.mono ?_; rintro e w2 ⟨v, rfl, ⟨v1, v2, rfl, hv1, hv2⟩, hb2⟩; obtain ⟨p1, c1, rfl, hd1, hd2, hr1⟩ := StrC.read hv1; obtain ⟨p2, c2, rfl, hd3, hd4, hr2⟩ := StrC.read hv2; have HB2 := Lib.hid (HB1.out.trans (hb2.mono HB1.out.size)); clear hb2))
  have HS1 := Lib.hid hv1
  have HS2 := Lib.hid hv2
  obtain ⟨W3, hW3⟩ : ∃ W3, w2.alloc (.cells #[.slice p1 S.servers.length c1, .slice p2 S.search.length c2, .int .i64 S.dots, .int .i64 S.tmo, .int .i64 S.att, .bool S.rot] 28) = W3 := ⟨_, rfl⟩
  have h3 : W3.heap[w2.heap.size]? = some (.cells #[.slice p1 S.servers.length c1, .slice p2 S.search.length c2, .int .i64 S.dots, .int .i64 S.tmo, .int .i64 S.att, .bool S.rot] 28 (0, 0)) := by rw [← hW3]; exact heap_alloc_new w2 _
  have HB3 : Hid (Below w.heap.size w W3) := Lib.hid (by rw [← hW3]; exact HB2.out.alloc HB2.out.size _)
  try rw [hW3]
  obtain ⟨⟨e1, t2⟩, ⟨e2, t0, t5⟩, e3, e4, e5, e6⟩ := HPl.out
  have k0 : W3.cell? ⟨w2.heap.size, 0, none⟩ = some (.slice p1 S.servers.length c1) := by simp [World.cell?, h3]
  have k1 : W3.cell? ⟨w2.heap.size, 1, none⟩ = some (.slice p2 S.search.length c2) := by simp [World.cell?, h3]
  have k2 : W3.cell? ⟨w2.heap.size, 2, none⟩ = some (.int .i64 S.dots) := by simp [World.cell?, h3]
  have k3 : W3.cell? ⟨w2.heap.size, 3, none⟩ = some (.int .i64 S.tmo) := by simp [World.cell?, h3]
  have k4 : W3.cell? ⟨w2.heap.size, 4, none⟩ = some (.int .i64 S.att) := by simp [World.cell?, h3]
  have k5 : W3.cell? ⟨w2.heap.size, 5, none⟩ = some (.bool S.rot) := by simp [World.cell?, h3]
  rw [e1] at k0
  rw [e2] at k1
  rw [e3] at k2
  rw [e4] at k3
  rw [e5] at k4
  rw [e6] at k5
  obtain ⟨q1, rfl, hq1⟩ := hr1 2 _ t2
  obtain ⟨q2, rfl, hq2⟩ := hr2 0 _ t0
  obtain ⟨q3, e, hq3⟩ := hr2 5 _ t5
  cases e
  have hbW3 : Below w2.heap.size w2 W3 := by rw [← hW3]; exact (Below.refl _ _).alloc (Nat.le_refl _) _
  have HQ : Hid (∀ V, Below W3.heap.size W3 V → (V.cell? ⟨q1, 2, none⟩ = some (.string ⟨#[1, 1, 1, 3]⟩) ∧ V.cell? ⟨q2, 0, none⟩ = some (.string ⟨#[100]⟩) ∧ V.cell? ⟨q2, 5, none⟩ = some (.string ⟨#[105]⟩)) ∧ (V.cell? ⟨w2.heap.size, 0, none⟩ = W3.cell? ⟨w2.heap.size, 0, none⟩ ∧ V.cell? ⟨w2.heap.size, 1, none⟩ = W3.cell? ⟨w2.heap.size, 1, none⟩ ∧ V.cell? ⟨w2.heap.size, 2, none⟩ = W3.cell? ⟨w2.heap.size, 2, none⟩ ∧ V.cell? ⟨w2.heap.size, 3, none⟩ = W3.cell? ⟨w2.heap.size, 3, none⟩ ∧ V.cell? ⟨w2.heap.size, 4, none⟩ = W3.cell? ⟨w2.heap.size, 4, none⟩ ∧ V.cell? ⟨w2.heap.size, 5, none⟩ = W3.cell? ⟨w2.heap.size, 5, none⟩)) := Lib.hid (fun V hV => by
    have hl1 := (World.ownsRow.lt HS1.out q1 rfl).2
    have hl2 := (World.ownsRow.lt HS2.out q2 rfl).2
    have hs3 := hbW3.size
    have hl3 : w2.heap.size < W3.heap.size := (Array.getElem?_eq_some_iff.1 h3).1
    refine ⟨⟨?_, ?_, ?_⟩, hV.cell hl3, hV.cell hl3, hV.cell hl3, hV.cell hl3, hV.cell hl3, hV.cell hl3⟩
    · exact (hV.cell (p := ⟨q1, 2, none⟩) (by show q1 < _; omega)).trans ((hbW3.cell (p := ⟨q1, 2, none⟩) hl1).trans hq1.2)
    · exact (hV.cell (p := ⟨q2, 0, none⟩) (by show q2 < _; omega)).trans ((hbW3.cell (p := ⟨q2, 0, none⟩) hl2).trans hq2.2)
    · exact (hV.cell (p := ⟨q2, 5, none⟩) (by show q2 < _; omega)).trans ((hbW3.cell (p := ⟨q2, 5, none⟩) hl2).trans hq3.2))
  rw [e1] at hd1
  rw [e2] at hd3
  clear hW3 h3 hbW3 hq1 hq2 hq3 t2 t0 t5 hv1 hv2 hr1 hr2 e1 e2 e3 e4 e5 e6 hc2
  go_wp2_with (go_at_call 5; refine (begun15_any _ (HPk.out.below HB3.out)).mono ?_; rintro e w4 ⟨rfl, hb⟩; obtain ⟨⟨m0, m1, m2⟩, ⟨n0, n1, n2, n3, n4, n5⟩⟩ := HQ.out w4 hb; rw [k0] at n0; rw [k1] at n1; rw [k2] at n2; rw [k3] at n3; rw [k4] at n4; rw [k5] at n5; have HB4 := Lib.hid (HB3.out.trans (hb.mono HB3.out.size)); clear hb)
  go_ret
  exact ⟨rfl, HB4.out⟩
theorem shortE_any (a : Option Addr) (n c m : Nat) (hm2 : m ≤ 1000000) (hc : n ≤ c) (hm : c ≤ 9223372036854775807) : ∃ n', n' ≤ n ∧ n' ≤ m ∧ ∀ w : World, Calls Tryz.prog 6 #[.slice a n c, .int .i64 m] w fun e w' => e = .returned (.slice a n' c) ∧ w = w' := by
  by_cases h : n ≤ m
  · refine ⟨n, Nat.le_refl _, h, fun w => ?_⟩
    go_enter Tryz.func6, Tryz.ntmps6
    go_wp2
    go_ret
    exact ⟨rfl, rfl⟩
  · have h : m < n := by omega
    refine ⟨m, by omega, Nat.le_refl _, fun w => ?_⟩
    go_enter Tryz.func6, Tryz.ntmps6
    go_wp2
    go_ret
    exact ⟨rfl, rfl⟩
set_option maxHeartbeats 4000000 in
set_option maxRecDepth 100000 in
theorem resolvParse_walk (a : Option Addr) (n0 c : Nat) (w : World) (h : ∃ zs, Go.Sl.IsInts .u8 w a n0 c zs) (HPs : PsetOK w) :
    Calls Tryz.prog 3 #[.slice a n0 c] w fun e w' => e = .returned (.bool true) ∧ Below w.heap.size w w' := by
  obtain ⟨zs, hz⟩ := h
  obtain ⟨_, hnc, hcm, _⟩ := ba_ints hz (Nat.le_refl _)
  obtain ⟨n, hn1, hn2, hsh⟩ := shortE_any a n0 c 1500 (by omega) hnc (by unfold maxLen at hcm; omega)
  obtain ⟨hba, _, _, hol⟩ := ba_ints hz hn1
  generalize ((zs.take n).map fun z => UInt8.ofNat z.toNat) = l at *
  have HL : Hid (∀ W, Below w.heap.size w W → Calls Tryz.prog 8 #[.slice a n c] W (RSetR W (setupP (toldG 1 [] l))) ∧ Calls Tryz.prog 9 #[.slice a n c] W (RSetR W (setupP (toldG 1 [] l)))) := Lib.hid (fun W hW => by
    have hin : InB W a n c l := by
      by_cases h0 : 0 < c
      · exact InB.below (.inl ⟨hba, hol h0, by omega⟩) hW
      · have hlen := hba.len
        exact .inr ⟨by omega, by omega, List.length_eq_zero_iff.1 (by omega)⟩
    exact ⟨HPs a n c l W hW hin, rsetup_any a n c l W hin⟩)
  have HSh := Lib.hid hsh
  have HBg : Hid (Calls Tryz.prog 5 #[] w fun e w' => e = .returned (.bool true) ∧ Below w.heap.size w w') := Lib.hid (begun15_any w HPs)
  generalize setupP (toldG 1 [] l) = S at *
  clear hba hol hz HPs hsh hnc hcm hn1 hn2
  go_enter Tryz.func3, Tryz.ntmps3
  go_upto_region 5 with (first | (go_at_call 5; refine HBg.out.mono ?_; rintro e w1 ⟨rfl, hb⟩; have H1 := Lib.hid hb; clear hb) | (go_at_call 6; refine (HSh.out _).mono ?_; rintro e w2 ⟨rfl, rfl⟩))
  go_wp2_with (first | (go_at_call 8; refine (HL.out _ H1.out).1.mono ?_; rintro e w3 ⟨va, rfl, hva, hb⟩; have HVa := Lib.hid hva; have H3 := Lib.hid (H1.out.trans (hb.mono H1.out.size)); clear hva hb) | (go_at_call 9; refine (HL.out _ H3.out).2.mono ?_; rintro e w4 ⟨vb, rfl, hvb, hb⟩; have HVb := Lib.hid hvb; have HVa4 := Lib.hid (HVa.out.below hb); have H4 := Lib.hid (H3.out.trans (hb.mono H3.out.size)); clear hvb hb) | (go_at_call 7; refine (eqset_any _ _ _ _ S _ HVa4.out HVb.out).mono ?_; rintro e w5 ⟨rfl, hb⟩; have H5 := Lib.hid (H4.out.trans (hb.mono H4.out.size)); clear hb))
  go_ret
  exact ⟨rfl, H5.out⟩
end Go.Proofs.YtfmnemcnonbkfaaGreatDoor

namespace Go.Tx
open Go.RowKit Go.Rb
theorem LinesAt.read {B : Nat} {w : World} {v : Value} {T : List (Nat × List (List UInt8))} (h : LinesAt B w v T) (h0 : 0 < T.length) :
    ∃ g cap, v = .slice (some ⟨g, 0, none⟩) T.length cap ∧ T.length ≤ cap ∧ cap ≤ 9223372036854775807 ∧ B ≤ g ∧ ∀ (i no : Nat) (ws : List (List UInt8)), T[i]? = some (no, ws) → w.cell? ⟨g, 2 * i, none⟩ = some (.int .i64 (no : Int)) ∧ ∃ p, w.cell? ⟨g, 2 * i + 1, none⟩ = some (.slice p ws.length ws.length) ∧ Strs B w (.slice p ws.length ws.length) ws := by
  obtain ⟨xs, h1, h2⟩ := h
  rcases h1.2 with ⟨a, b⟩ | ⟨g, cap, cur, a, a2, a3, a4, a5, _⟩
  · omega
  · subst a
    refine ⟨g, cap, rfl, a4, a5, a2, fun i no ws hi => ?_⟩
    obtain ⟨x, wv, y, z⟩ := h2 i no ws hi
    have hlt : i < T.length := (List.getElem?_eq_some_iff.1 hi).1
    obtain ⟨p, rfl⟩ := z.shape
    exact ⟨by rw [h1.cellAt _ (by omega)]; exact x, p, by rw [h1.cellAt _ (by omega)]; exact y, z⟩
theorem ba_row {w : World} {b cap : Nat} {l : List UInt8} (h : RowB 5 w b cap l) (hc : cap ≤ 9223372036854775807) : BA w (some ⟨b, 0, none⟩) l.length cap l := by
  have hl : l.length ≤ cap := by obtain ⟨_, _, _, _, _, _, h4, _⟩ := h; exact h4
  refine ⟨rfl, hl, hc, (fun h => by cases h), fun x hx j c hj => ?_⟩
  cases hx
  have ha : (⟨b, 0, none⟩ : Addr).add j = ⟨b, j, none⟩ := by unfold Addr.add; split <;> simp_all
  rw [ha]
  exact h.cell hj
theorem row_made {P : Program} {src dst : TypeId} (s : ByteArray) (w : World) (hm : s.size ≤ maxLen) (hs : P.underlying src = some .string) (hd : P.underlying dst = some (.slice 5)) (he : P.underlying 5 = some (.int .u8)) :
    ∃ (cap : Nat) (o : Obj), (convert src dst (.string s)).run P w = .ok (.slice (some ⟨w.heap.size, 0, none⟩) s.size cap) (w.drew.alloc o) ∧ s.size ≤ cap ∧ cap ≤ 9223372036854775807 ∧ RowB 5 (w.alloc o) w.heap.size cap s.data.toList := by
  have hge := grownCap_ge w s.size 0 5
  have hle := grownCap_le_maxLen w s.size 0 5 hm
  unfold maxLen at hle
  have hsz : s.data.size = s.size := rfl
  have hC : (bytesRow s (grownCap w s.size 0 5)).size = grownCap w s.size 0 5 := by simp [bytesRow, hsz]; omega
  refine ⟨grownCap w s.size 0 5, _, run_bytes_of_string w src dst 5 s hs hd he, hge, by omega, _, _, _, heap_alloc_new w _, .inl (by rw [hC]; exact Nat.le_refl _), hC, by simpa [hsz] using hge, fun j c hj => ?_⟩
  have hj' : j < s.data.size := by
    have := (List.getElem?_eq_some_iff.1 hj).1
    simpa using this
  rw [bytesRow_at s _ j hj']
  rw [Array.getElem?_toList, Array.getElem?_eq_getElem hj'] at hj
  cases hj
  rfl
theorem lines_one {B : Nat} {w : World} {v : Value} {a : Nat} {ws : List (List UInt8)} (h : LinesAt B w v [(a, ws)]) :
    ∃ g cap, v = .slice (some ⟨g, 0, none⟩) 1 cap ∧ 1 ≤ cap ∧ w.cell? ⟨g, 0, none⟩ = some (.int .i64 (a : Int)) := by
  obtain ⟨g, cap, h1, h2, _, _, h3⟩ := h.read (by simp)
  exact ⟨g, cap, h1, h2, (h3 0 a ws rfl).1⟩
theorem lines_two {B : Nat} {w : World} {v : Value} {a b : Nat} {ws us : List (List UInt8)} (h : LinesAt B w v [(a, ws), (b, us)]) :
    ∃ g cap p, v = .slice (some ⟨g, 0, none⟩) 2 cap ∧ 2 ≤ cap ∧ w.cell? ⟨g, 0, none⟩ = some (.int .i64 (a : Int)) ∧ w.cell? ⟨g, 1, none⟩ = some (.slice p ws.length ws.length) ∧ w.cell? ⟨g, 2, none⟩ = some (.int .i64 (b : Int)) := by
  obtain ⟨g, cap, h1, h2, _, _, h3⟩ := h.read (by simp)
  obtain ⟨x1, p, x2, _⟩ := h3 0 a ws rfl
  exact ⟨g, cap, p, h1, h2, x1, x2, (h3 1 b us rfl).1⟩
theorem bcat (a : List UInt8) (b : Array UInt8) : (⟨a.toArray⟩ : ByteArray) ++ ⟨b⟩ = ⟨(a ++ b.toList).toArray⟩ := by
  apply ByteArray.ext
  simp
end Go.Tx

namespace Go.Proofs.YtfmnemcnonbkfaaGreatDoor
open Go.RowKit Go.Lib Go.Tx
theorem lines_no {E B k no g n c : Nat} {w : World} {T : List (Nat × List (List UInt8))} {ws : List (List UInt8)} (h : LinesC E B w (.slice (some ⟨g, 0, none⟩) n c) T) (hx : T[k]? = some (no, ws)) : w.cell? ⟨g, 2 * k, none⟩ = some (.int .i64 (no : Int)) := by
  obtain ⟨p, cap, e, _, _, hr⟩ := h.read
  cases e
  obtain ⟨g', e, hc, _⟩ := hr k no ws hx
  cases e
  exact hc
theorem GloAt.maxE {w : World} (h : GloAt w) : MaxAt w := h.len

set_option maxHeartbeats 8000000 in
set_option maxRecDepth 100000 in
theorem psetup_core (a : Option Addr) (n c : Nat) (T : List (Nat × List (List UInt8))) (w : World) (hg : GloAt w) (hfine : ∀ t ∈ T, FineL t.2) (hfew : T.length ≤ 100001) (hlines : ∀ W, Below w.heap.size w W → Calls Tryz.prog 11 #[.slice a n c] W (LinesR W T)) :
    Calls Tryz.prog 8 #[.slice a n c] w (RSetR w (setupP T)) := by
  have HLn := Lib.hid hlines
  have HFine := Lib.hid hfine
  have HG := Lib.hid hg
  clear hfine hlines hg
  have HN : Hid (∀ W, (w.alloc (.cells #[.slice none 0 0, .slice none 0 0, .int .i64 0, .int .i64 0, .int .i64 0, .bool false] 28)).alloc (.cells #[.slice none 0 0, .slice none 0 0, .int .i64 1, .int .i64 5, .int .i64 2, .bool false] 28) = W → W.heap[w.heap.size]? = some (.cells #[.slice none 0 0, .slice none 0 0, .int .i64 0, .int .i64 0, .int .i64 0, .bool false] 28 (0, 0)) ∧ W.heap[w.heap.size + 1]? = some (.cells #[.slice none 0 0, .slice none 0 0, .int .i64 1, .int .i64 5, .int .i64 2, .bool false] 28 (0, 0)) ∧ Below w.heap.size w W ∧ W.heap.size = w.heap.size + 2) := Lib.hid (fun W h => by
    subst h
    refine ⟨heap_alloc2_old w _ _, heap_alloc2_new w _ _, ((Below.refl _ _).alloc (Nat.le_refl _) _).alloc (by show w.heap.size ≤ (w.heap.push _).size; simp) _, by show ((w.heap.push _).push _).size = _; simp⟩)
  go_enter Tryz.func8, Tryz.ntmps8
  go_upto_region 2 with (fail)
  obtain ⟨W, hW⟩ : ∃ W, (w.alloc (.cells #[.slice none 0 0, .slice none 0 0, .int .i64 0, .int .i64 0, .int .i64 0, .bool false] 28)).alloc (.cells #[.slice none 0 0, .slice none 0 0, .int .i64 1, .int .i64 5, .int .i64 2, .bool false] 28) = W := ⟨_, rfl⟩
  obtain ⟨hz, hi, hbW, hsz⟩ := HN.out W hW
  try rw [hW]
  clear hW HN
  have HBW := Lib.hid hbW
  go_wp2_with (go_at_call 11; refine (HLn.out _ HBW.out).mono ?_; rintro e w2 ⟨v, rfl, hT0, hb2⟩; have hT := LinesC.of hT0; clear hT0; obtain ⟨pT, cT, rfl⟩ := hT.shape)
  have HT := Lib.hid hT
  have HB2 := Lib.hid hb2
  have H0 : Hid (SetAt w2 w2.heap.size (w.heap.size + 1) (.slice none 0 0) (.slice none 0 0) (setupP (T.take 0)) w2) := Lib.hid
    ⟨(hb2.block _ (by omega)).trans hi, World.ownsRow_nil _ _ _ _, World.ownsRow_nil _ _ _ _, fun g h => by simp [Value.ownBlock] at h, by have := hb2.size; omega, Nat.le_refl _, Keep.refl _ _ _⟩
  have HZ : Hid (w2.heap[w.heap.size]? = some (.cells #[.slice none 0 0, .slice none 0 0, .int .i64 0, .int .i64 0, .int .i64 0, .bool false] 28 (0, 0))) := Lib.hid ((hb2.block _ (by omega)).trans hz)
  have HSz : Hid (W.heap.size = w.heap.size + 2 ∧ W.heap.size ≤ w2.heap.size) := Lib.hid ⟨hsz, hb2.size⟩
  have HGl : Hid (∀ V, Keep w2.heap.size (w.heap.size + 1) w2 V → GloAt V) := Lib.hid (fun V hV => HG.out.below ((HBW.out.trans (hb2.mono (by omega))).trans (hV.bel (by omega) (by have := hb2.size; omega))))
  clear hT hb2 hz hi hbW hsz
  go_loopw [13] (fun iv wr => ∃ (k : Nat) (v1 v2 : Value), k ≤ T.length ∧ iv = .int .i64 k ∧ SetAt w2 w2.heap.size (w.heap.size + 1) v1 v2 (setupP (T.take k)) wr) (fun iv _ => T.length - (intOf iv).toNat)
  case atStart => exact ⟨0, _, _, Nat.zero_le _, rfl, H0.out⟩
  case round =>
    obtain ⟨k, v1, v2, hk, rfl, hS⟩ := hrel
    have HS := Lib.hid hS
    clear hS
    by_cases hlt : k < T.length
    · obtain ⟨⟨no, ws⟩, hx⟩ : ∃ x, T[k]? = some x := ⟨_, List.getElem?_eq_getElem hlt⟩
      have hf := HFine.out (no, ws) (List.mem_of_getElem? hx)
      obtain ⟨g, cap, q, c', e, ⟨hc1, hc2⟩, ⟨hg1, hg2⟩, hcl, ⟨hc3, hc4⟩, ⟨hq1, hq2⟩, hwd⟩ := lines_word HT.out hx hf.ne
      cases e
      have HStep : Hid (setupP (T.take (k + 1)) = lineS (setupP (T.take k)) ws) := Lib.hid (by rw [takeH hx, setupP_snoc])
      have hsz := HSz.out
      have hcw : wr.cell? ⟨g, k * 2 + 1, none⟩ = some (.slice (some ⟨q, 0, none⟩) ws.length c') := by
        rw [Nat.mul_comm]
        exact (HS.out.kp.cell (p := ⟨g, 2 * k + 1, none⟩) hg2 (by show g ≠ _; omega)).trans hcl
      have hcn : wr.cell? ⟨g, k * 2, none⟩ = some (.int .i64 (no : Int)) := by
        rw [Nat.mul_comm]
        exact (HS.out.kp.cell (p := ⟨g, 2 * k, none⟩) hg2 (by show g ≠ _; omega)).trans (lines_no HT.out hx)
      have HWd : Hid (∀ V, Keep w2.heap.size (w.heap.size + 1) w2 V → ∀ (j : Nat) l, ws[j]? = some l → V.cell? ⟨q, j, none⟩ = some (.string ⟨l.toArray⟩)) := Lib.hid (fun V hV j l hj => (hV.cell (p := ⟨q, j, none⟩) hq2 (by show q ≠ _; omega)).trans (hwd j l hj))
      have HWz := Lib.hid hf.word
      have HQ : Hid (q < w2.heap.size ∧ w.heap.size + 1 < w2.heap.size ∧ w.heap.size + 1 ≠ q) := Lib.hid ⟨hq2, by omega, by omega⟩
      have hfw := hf.few
      obtain ⟨x, r0, rfl⟩ : ∃ x r, ws = x :: r := by cases ws with | nil => exact absurd rfl hf.ne | cons x r => exact ⟨x, r, rfl⟩
      have hlen : (x :: r0).length = r0.length + 1 := rfl
      rw [hlen] at hcw hc3 hfw
      generalize hS : setupP (T.take k) = S at *
      have HFew : Hid (S.servers.length ≤ 3) := Lib.hid (by rw [← hS]; exact setup_few _)
      obtain ⟨W4, hW4⟩ : ∃ W4, wr.alloc (.cells #[.int .i64 (no : Int), .slice (some ⟨q, 0, none⟩) (r0.length + 1) c'] 35) = W4 := ⟨_, rfl⟩
      have HS4 : Hid (SetAt w2 w2.heap.size (w.heap.size + 1) v1 v2 S W4) := Lib.hid (by rw [← hW4]; exact HS.out.al _)
      have hl1 : W4.cell? ⟨wr.heap.size, 1, none⟩ = some (.slice (some ⟨q, 0, none⟩) (r0.length + 1) c') := by rw [← hW4, World.cell?_alloc_new]; rfl
      have hc0 := HWd.out W4 HS4.out.kp 0 x rfl
      have HWd1 : Hid (∀ V, Keep w2.heap.size (w.heap.size + 1) w2 V → ∀ (j : Nat) l, r0[j]? = some l → V.cell? ⟨q, 1 + j, none⟩ = some (.string ⟨l.toArray⟩)) := Lib.hid (fun V hV j l hj => HWd.out V hV (1 + j) l (by rw [Nat.add_comm]; simpa using hj))
      clear hx hf hwd hcl hlen hsz hS hq1 hq2
      obtain ⟨s1, d1, rfl⟩ := HS4.out.srv.shape
      obtain ⟨s2, d2, rfl⟩ := HS4.out.sea.shape
      by_cases hc5 : c' = 1
      · subst hc5
        have hr0 : r0.length = 0 := by omega
        have HR : Hid (∀ V, Keep w2.heap.size (w.heap.size + 1) w2 V → ∀ (j : Nat) l, r0[j]? = some l → V.cell? ⟨q, 0 + j, none⟩ = some (.string ⟨l.toArray⟩)) := Lib.hid (fun V hV j l hj => by
          have := (List.getElem?_eq_some_iff.1 hj).1
          omega)
        obtain rfl := List.eq_nil_of_length_eq_zero hr0
        have hrc : ([] : List (List UInt8)).length ≤ 0 ∧ (0 : Nat) ≤ 9223372036854775807 := by simp
        simp only [List.length_nil, Nat.zero_add] at hcw hW4 hl1 hfw hc3
        clear HWd1 hr0
        go_upto_region 7 with (fail)
        have hq : q < W4.heap.size := Nat.lt_of_lt_of_le HQ.out.1 HS4.out.top
        have HGw := Lib.hid (HGl.out _ HS4.out.kp)
        try rw [hW4]
        clear hW4
        obtain ⟨⟨p0, p1, p2, p3, p4, p5⟩, ⟨f0, f1, f2, f3, f4, f5⟩⟩ := HS4.out.cells
        by_cases h1 : x = kNs
        · have e1 : (x == [110, 97, 109, 101, 115, 101, 114, 118, 101, 114]) = true := by rw [h1]; decide
          have HL : Hid (lineS S [x] = srvS S ([] : List (List UInt8))) := Lib.hid (by rw [lineS_cons, if_pos h1])
          rw [HL.out] at HStep
          clear h1 HL
          go_wp2_with (go_at_call 12; refine (withServer_any w2 w2.heap.size (w.heap.size + 1) q 0 0 _ _ S ([] : List (List UInt8)) W4 HS4.out HGw.out HFew.out hrc (fun y hy => HWz.out y (List.mem_cons_of_mem _ hy)) (HR.out _ HS4.out.kp)).mono ?_; rintro e w5 ⟨p5', n5, c5, rfl, hs5, hf5, x5, hx5⟩; have HS5 := Lib.hid hs5; clear hs5)
          go_roundw
          case rel => exact ⟨k + 1, _, _, hlt, by go_num, by rw [HStep.out]; exact HS5.out⟩
          case measure => simp [intOf]; omega
        · by_cases h2 : x = kSe
          · have e1 : (x == [110, 97, 109, 101, 115, 101, 114, 118, 101, 114]) = false := by simpa [kNs] using h1
            have e2 : (x == [115, 101, 97, 114, 99, 104]) = true := by rw [h2]; decide
            have HL : Hid (lineS S [x] = ⟨S.servers, searchP ([] : List (List UInt8)), S.dots, S.tmo, S.att, S.rot⟩) := Lib.hid (by rw [lineS_cons, if_neg h1, if_pos h2])
            rw [HL.out] at HStep
            clear h1 h2 HL
            go_wp2_with (go_at_call 13; refine (searched_any q 0 0 ([] : List (List UInt8)) W4 HGw.out.maxE hrc hq (fun y hy => HWz.out y (List.mem_cons_of_mem _ hy)) (HR.out _ HS4.out.kp)).mono ?_; rintro e w5 ⟨v5, rfl, hv5, hb5⟩; obtain ⟨s5, d5, rfl⟩ := hv5.shape; have HV5 := Lib.hid hv5; have HS5 := Lib.hid (HS4.out.below hb5); obtain ⟨⟨n0, n1, n2, n3, n4, n5⟩, ⟨g0, g1, g2, g3, g4, g5⟩⟩ := HS5.out.cells; clear hv5 hb5)
            go_roundw
            case rel => exact ⟨k + 1, _, _, hlt, by go_num, by rw [HStep.out]; exact HS5.out.putN HV5.out (fun g hg => (World.ownsRow.lt HS4.out.srv g hg).2) HS4.out.top⟩
            case measure => simp [intOf]; omega
          · by_cases h3 : x = kOp
            · have e1 : (x == [110, 97, 109, 101, 115, 101, 114, 118, 101, 114]) = false := by simpa [kNs] using h1
              have e2 : (x == [115, 101, 97, 114, 99, 104]) = false := by simpa [kSe] using h2
              have e3 : (x == [111, 112, 116, 105, 111, 110, 115]) = true := by rw [h3]; decide
              have HL : Hid (lineS S [x] = ([] : List (List UInt8)).foldl optS S) := Lib.hid (by rw [lineS_cons, if_neg h1, if_neg h2, if_pos h3])
              rw [HL.out] at HStep
              clear h1 h2 h3 HL p0 p1 p2 p3 p4 p5 f0 f1 f2 f3 f4 f5
              go_wp2
              go_loopw [40] (fun iv wr => ∃ (j : Nat), j ≤ ([] : List (List UInt8)).length ∧ iv = .int .i64 j ∧ SetAt w2 w2.heap.size (w.heap.size + 1) (.slice s1 S.servers.length d1) (.slice s2 S.search.length d2) ((([] : List (List UInt8)).take j).foldl optS S) wr) (fun iv _ => ([] : List (List UInt8)).length - (intOf iv).toNat)
              case atStart => exact ⟨0, Nat.zero_le _, rfl, HS4.out⟩
              case round =>
                obtain ⟨j, hj, rfl, hS2⟩ := hrel
                have HS2 := Lib.hid hS2
                clear hS2
                by_cases hjl : j < ([] : List (List UInt8)).length
                · exact absurd hjl (by simp)
                · obtain rfl : j = ([] : List (List UInt8)).length := by omega
                  have HE : Hid (([] : List (List UInt8)).take ([] : List (List UInt8)).length = ([] : List (List UInt8))) := Lib.hid (by rw [List.take_length])
                  rw [HE.out] at HS2
                  go_wp2
                  go_roundw
                  case rel => exact ⟨k + 1, _, _, hlt, by go_num, by rw [HStep.out]; exact HS2.out⟩
                  case measure => simp [intOf]; omega
            · have e1 : (x == [110, 97, 109, 101, 115, 101, 114, 118, 101, 114]) = false := by simpa [kNs] using h1
              have e2 : (x == [115, 101, 97, 114, 99, 104]) = false := by simpa [kSe] using h2
              have e3 : (x == [111, 112, 116, 105, 111, 110, 115]) = false := by simpa [kOp] using h3
              have HL : Hid (lineS S [x] = S) := Lib.hid (by rw [lineS_cons, if_neg h1, if_neg h2, if_neg h3])
              rw [HL.out] at HStep
              clear h1 h2 h3 HL
              go_wp2
              go_roundw
              case rel => exact ⟨k + 1, _, _, hlt, by go_num, by rw [HStep.out]; exact HS4.out⟩
              case measure => simp [intOf]; omega
      · have HR : Hid (∀ V, Keep w2.heap.size (w.heap.size + 1) w2 V → ∀ (j : Nat) l, r0[j]? = some l → V.cell? ⟨q, 1 + j, none⟩ = some (.string ⟨l.toArray⟩)) := HWd1
        have hrc : r0.length ≤ c' - 1 ∧ c' - 1 ≤ 9223372036854775807 := by omega
        clear HWd1
        go_upto_region 7 with (fail)
        have hq : q < W4.heap.size := Nat.lt_of_lt_of_le HQ.out.1 HS4.out.top
        have HGw := Lib.hid (HGl.out _ HS4.out.kp)
        try rw [hW4]
        clear hW4
        obtain ⟨⟨p0, p1, p2, p3, p4, p5⟩, ⟨f0, f1, f2, f3, f4, f5⟩⟩ := HS4.out.cells
        by_cases h1 : x = kNs
        · have e1 : (x == [110, 97, 109, 101, 115, 101, 114, 118, 101, 114]) = true := by rw [h1]; decide
          have HL : Hid (lineS S (x :: r0) = srvS S r0) := Lib.hid (by rw [lineS_cons, if_pos h1])
          rw [HL.out] at HStep
          clear h1 HL
          go_wp2_with (go_at_call 12; refine (withServer_any w2 w2.heap.size (w.heap.size + 1) q 1 (c' - 1) _ _ S r0 W4 HS4.out HGw.out HFew.out hrc (fun y hy => HWz.out y (List.mem_cons_of_mem _ hy)) (HR.out _ HS4.out.kp)).mono ?_; rintro e w5 ⟨p5', n5, c5, rfl, hs5, hf5, x5, hx5⟩; have HS5 := Lib.hid hs5; clear hs5)
          go_roundw
          case rel => exact ⟨k + 1, _, _, hlt, by go_num, by rw [HStep.out]; exact HS5.out⟩
          case measure => simp [intOf]; omega
        · by_cases h2 : x = kSe
          · have e1 : (x == [110, 97, 109, 101, 115, 101, 114, 118, 101, 114]) = false := by simpa [kNs] using h1
            have e2 : (x == [115, 101, 97, 114, 99, 104]) = true := by rw [h2]; decide
            have HL : Hid (lineS S (x :: r0) = ⟨S.servers, searchP r0, S.dots, S.tmo, S.att, S.rot⟩) := Lib.hid (by rw [lineS_cons, if_neg h1, if_pos h2])
            rw [HL.out] at HStep
            clear h1 h2 HL
            go_wp2_with (go_at_call 13; refine (searched_any q 1 (c' - 1) r0 W4 HGw.out.maxE hrc hq (fun y hy => HWz.out y (List.mem_cons_of_mem _ hy)) (HR.out _ HS4.out.kp)).mono ?_; rintro e w5 ⟨v5, rfl, hv5, hb5⟩; obtain ⟨s5, d5, rfl⟩ := hv5.shape; have HV5 := Lib.hid hv5; have HS5 := Lib.hid (HS4.out.below hb5); obtain ⟨⟨n0, n1, n2, n3, n4, n5⟩, ⟨g0, g1, g2, g3, g4, g5⟩⟩ := HS5.out.cells; clear hv5 hb5)
            go_roundw
            case rel => exact ⟨k + 1, _, _, hlt, by go_num, by rw [HStep.out]; exact HS5.out.putN HV5.out (fun g hg => (World.ownsRow.lt HS4.out.srv g hg).2) HS4.out.top⟩
            case measure => simp [intOf]; omega
          · by_cases h3 : x = kOp
            · have e1 : (x == [110, 97, 109, 101, 115, 101, 114, 118, 101, 114]) = false := by simpa [kNs] using h1
              have e2 : (x == [115, 101, 97, 114, 99, 104]) = false := by simpa [kSe] using h2
              have e3 : (x == [111, 112, 116, 105, 111, 110, 115]) = true := by rw [h3]; decide
              have HL : Hid (lineS S (x :: r0) = r0.foldl optS S) := Lib.hid (by rw [lineS_cons, if_neg h1, if_neg h2, if_pos h3])
              rw [HL.out] at HStep
              clear h1 h2 h3 HL p0 p1 p2 p3 p4 p5 f0 f1 f2 f3 f4 f5
              go_wp2
              go_loopw [40] (fun iv wr => ∃ (j : Nat), j ≤ r0.length ∧ iv = .int .i64 j ∧ SetAt w2 w2.heap.size (w.heap.size + 1) (.slice s1 S.servers.length d1) (.slice s2 S.search.length d2) ((r0.take j).foldl optS S) wr) (fun iv _ => r0.length - (intOf iv).toNat)
              case atStart => exact ⟨0, Nat.zero_le _, rfl, HS4.out⟩
              case round =>
                obtain ⟨j, hj, rfl, hS2⟩ := hrel
                have HS2 := Lib.hid hS2
                clear hS2
                by_cases hjl : j < r0.length
                · obtain ⟨y, hy⟩ : ∃ y, r0[j]? = some y := ⟨_, List.getElem?_eq_getElem hjl⟩
                  have hyc := HR.out _ HS2.out.kp j y hy
                  have hyl := HWz.out y (List.mem_cons_of_mem _ (List.mem_of_getElem? hy))
                  have HOp : Hid ((r0.take (j + 1)).foldl optS S = optS ((r0.take j).foldl optS S) y) := Lib.hid (by rw [takeH hy, opts_snoc])
                  clear hy
                  go_wp2_with (go_at_call 14; refine (setOption_any w2 w2.heap.size (w.heap.size + 1) _ _ _ y _ HS2.out (HGl.out _ HS2.out.kp).maxE (by omega)).mono ?_; rintro e w6 ⟨rfl, hs6⟩; have HS6 := Lib.hid hs6; clear hs6)
                  go_roundw
                  case rel => exact ⟨j + 1, hjl, by go_num, by rw [HOp.out]; exact HS6.out⟩
                  case measure => simp [intOf]; omega
                · obtain rfl : j = r0.length := by omega
                  have HE : Hid (r0.take r0.length = r0) := Lib.hid (by rw [List.take_length])
                  rw [HE.out] at HS2
                  go_wp2
                  go_roundw
                  case rel => exact ⟨k + 1, _, _, hlt, by go_num, by rw [HStep.out]; exact HS2.out⟩
                  case measure => simp [intOf]; omega
            · have e1 : (x == [110, 97, 109, 101, 115, 101, 114, 118, 101, 114]) = false := by simpa [kNs] using h1
              have e2 : (x == [115, 101, 97, 114, 99, 104]) = false := by simpa [kSe] using h2
              have e3 : (x == [111, 112, 116, 105, 111, 110, 115]) = false := by simpa [kOp] using h3
              have HL : Hid (lineS S (x :: r0) = S) := Lib.hid (by rw [lineS_cons, if_neg h1, if_neg h2, if_neg h3])
              rw [HL.out] at HStep
              clear h1 h2 h3 HL
              go_wp2
              go_roundw
              case rel => exact ⟨k + 1, _, _, hlt, by go_num, by rw [HStep.out]; exact HS4.out⟩
              case measure => simp [intOf]; omega
    · obtain rfl : k = T.length := by omega
      have hsz := HSz.out
      have hsl : Hid (setupP (T.take T.length) = setupP T) := Lib.hid (by rw [List.take_length])
      rw [hsl.out] at HS
      generalize setupP T = S at *
      have hz : wr.heap[w.heap.size]? = some (.cells #[.slice none 0 0, .slice none 0 0, .int .i64 0, .int .i64 0, .int .i64 0, .bool false] 28 (0, 0)) := (HS.out.kp.block _ (by omega) (by omega)).trans HZ.out
      have HZr := Lib.hid hz
      have HBf : Hid (Below w.heap.size w wr) := Lib.hid (((HBW.out.trans (HB2.out.mono (by omega)))).trans (HS.out.kp.bel (by omega) (by omega)))
      obtain ⟨s1, d1, rfl⟩ := HS.out.srv.shape
      obtain ⟨s2, d2, rfl⟩ := HS.out.sea.shape
      obtain ⟨⟨p0, p1, p2, p3, p4, p5⟩, _⟩ := HS.out.cells
      have z0 : wr.cell? ⟨w.heap.size, 0, none⟩ = some (.slice none 0 0) := by simp [World.cell?, hz]
      have z1 : wr.cell? ⟨w.heap.size, 1, none⟩ = some (.slice none 0 0) := by simp [World.cell?, hz]
      have z2 : wr.cell? ⟨w.heap.size, 2, none⟩ = some (.int .i64 0) := by simp [World.cell?, hz]
      have z3 : wr.cell? ⟨w.heap.size, 3, none⟩ = some (.int .i64 0) := by simp [World.cell?, hz]
      have z4 : wr.cell? ⟨w.heap.size, 4, none⟩ = some (.int .i64 0) := by simp [World.cell?, hz]
      have z5 : wr.cell? ⟨w.heap.size, 5, none⟩ = some (.bool false) := by simp [World.cell?, hz]
      have y0 : wr.frozen? ⟨w.heap.size, 0, none⟩ = false := by simp [World.frozen?, hz]
      have y1 : wr.frozen? ⟨w.heap.size, 1, none⟩ = false := by simp [World.frozen?, hz]
      have y2 : wr.frozen? ⟨w.heap.size, 2, none⟩ = false := by simp [World.frozen?, hz]
      have y3 : wr.frozen? ⟨w.heap.size, 3, none⟩ = false := by simp [World.frozen?, hz]
      have y4 : wr.frozen? ⟨w.heap.size, 4, none⟩ = false := by simp [World.frozen?, hz]
      have y5 : wr.frozen? ⟨w.heap.size, 5, none⟩ = false := by simp [World.frozen?, hz]
      have hlow : Hid (w.heap.size < w2.heap.size) := Lib.hid (by omega)
      clear hz hsz hk
      go_wp2
      refine bodyPost_ret (results_rowE rfl _ _ w.heap.size _ _ _ _ rfl (setE_eq (setE_eq (setE_eq (setE_eq (setE_eq (setE_eq HZr.out)))))) Tryz.underlying28 rfl sz_set) rfl ?_
      refine ⟨_, rfl, ⟨_, _, rfl, ?_, ?_⟩, belE_set (belE_set (belE_set (belE_set (belE_set (belE_set HBf.out (Nat.le_refl _) _ _) (Nat.le_refl _) _ _) (Nat.le_refl _) _ _) (Nat.le_refl _) _ _) (Nat.le_refl _) _ _) (Nat.le_refl _) _ _⟩
      · exact strc_less (strc_set (strc_set (strc_set (strc_set (strc_set (strc_set HS.out.srv hlow.out) hlow.out) hlow.out) hlow.out) hlow.out) hlow.out) (Nat.le_of_lt hlow.out)
      · exact strc_less (strc_set (strc_set (strc_set (strc_set (strc_set (strc_set HS.out.sea hlow.out) hlow.out) hlow.out) hlow.out) hlow.out) hlow.out) (Nat.le_of_lt hlow.out)
theorem pset_ok (w : World) (hg : GloAt w) : PsetOK w := by
  intro a n c l W hW hin
  have hg2 := hg.below hW
  rcases hin with ⟨h, hold, hn⟩ | ⟨rfl, rfl, rfl⟩
  · have hl := h.len
    obtain ⟨h1, h2⟩ := toldG_fine l 1 []
    exact psetup_core a n c _ W hg2 h1 (by omega) (fun V hb => lines_any a n c l V (h.below hb hold) (fun x hx => Nat.lt_of_lt_of_le (hold x hx) hb.size) (by omega))
  · rw [toldE_nil]
    refine psetup_core a 0 0 [] W hg2 (fun t ht => by (cases ht)) (by simp) (fun V _ => (lines_zero a V).mono ?_)
    rintro e w' ⟨rfl, rfl⟩
    exact ⟨_, rfl, LinesAt.nil _ _, Below.refl _ _⟩

end Go.Proofs.YtfmnemcnonbkfaaGreatDoor

namespace Go.Proofs.YtfmnemcnonbkfaaGreatDoor
open Go.RowKit Go.Lib Go.Tx Go.Ev Go.Fr Go.ChangeShapes
theorem maxAt (W : World) (hsh : W.ShapedOpen Tryz.prog) : ∃ m, W.cell? ⟨0, 0, none⟩ = some (.int .i64 m) :=
  cell_of_shapedOpen_int (P := Tryz.prog) (g := 0) (t := 3) (zero := #[.int .i64 0]) hsh (of_decide_eq_true (by kernel_rfl)) (by kernel_rfl) rfl (by kernel_rfl) (by kernel_rfl) Tryz.underlying3
theorem err_of {W : World} {g tp b o : Nat} {G : Nat → Option (List AV)} (hG : GloOK (Bas.of W) G) (h : G g = some [.iface tp (.glob b o)]) : ErrAt g W := by
  obtain ⟨_, arr, elem, fr, h1, vs, hv, hc⟩ := hG g _ h
  obtain ⟨v, hv1, hv2⟩ := hv.get 0 _ rfl
  have h3 := hc 0 v hv1
  refine ⟨v, ?_, ?_⟩
  · unfold World.cell?
    have h1' : W.heap[g]? = some (.cells arr elem fr) := h1
    rw [h1']
    simpa using h3
  · simp only [VR] at hv2
    obtain ⟨v', e, _⟩ := hv2
    exact .inr ⟨_, _, e⟩
theorem glo_only (W : World) (hL : laidMetH Tryz.prog laidL W) (hsh : W.ShapedOpen Tryz.prog) : GloAt W ∧ MaxAt W := by
  obtain ⟨b1, o1, b2, o2, hE⟩ := eok W hL hsh
  exact ⟨⟨maxAt W hsh, err_of hE.glo (b := b2) (o := o2) rfl, err_of hE.glo (b := b1) (o := o1) rfl⟩, maxAt W hsh⟩
end Go.Proofs.YtfmnemcnonbkfaaGreatDoor

