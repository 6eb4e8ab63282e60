/- Contract of the program's Parse, whatever the text: it answers as the document's. -/
import Derived.Test.YtdfapebggghfdaaGreatDoorPt
namespace Go.Proofs.YtdfapebggghfdaaGreatDoor
open Go.RowKit Go.Lib Go.Tx Go.Rb Go.Ev
theorem below_drewN (w : World) : ∀ n, Below w.heap.size w (w.drewN n)
  | 0 => Below.refl _ _
  | n + 1 => (below_drewN w n).drew
theorem idx_mem (l : List UInt8) (c : UInt8) : decide (0 ≤ Lib.indexByte l c) = decide (c ∈ l) := by
  have h := Lib.indexByte_ge l c
  by_cases h1 : Lib.indexByte l c = -1
  · have := Lib.indexByte_none h1
    have hn : ¬ c ∈ l := fun hm => by
      obtain ⟨k, hk, e⟩ := List.getElem_of_mem hm
      exact this k (by rw [List.getElem?_eq_getElem hk, e])
    rw [h1]; simp [hn]
  · obtain ⟨o, ho⟩ : ∃ o : Nat, Lib.indexByte l c = o := ⟨(Lib.indexByte l c).toNat, by omega⟩
    have := (Lib.indexByte_some ho).1
    have hm := List.mem_of_getElem? this
    rw [ho]; simp [hm]
theorem contains_is (s : ByteArray) (c : UInt8) (b : Bool) (w : World) (h : decide (c ∈ s.data.toList) = b) : Calls Tryz.prog 31 #[.string s, .string ⟨#[c]⟩] w fun e w' => e = .returned (.bool b) ∧ w = w' := by
  refine (Tryz.strings_Contains_one s c w).mono ?_
  rintro e w' ⟨rfl, rfl⟩
  exact ⟨by rw [idx_mem, h], rfl⟩
theorem cut_is (s : ByteArray) (w : World) (hs : s.size ≤ 100000) (hg : GloAt w) (A B : List UInt8) (b : Bool) (h : Lib.cut s.data.toList [58, 58] = (A, B, b)) :
    Calls Tryz.prog 47 #[.string s, .string ⟨#[58, 58]⟩] w fun e w' => e = .returned (.tuple #[.string ⟨A.toArray⟩, .string ⟨B.toArray⟩, .bool b]) ∧ Below w.heap.size w w' := by
  obtain ⟨m, hm⟩ := hg.len
  refine (Tryz.strings_Cut s ⟨#[58, 58]⟩ m w (by omega) hm).mono ?_
  rintro e w' ⟨rfl, n, rfl⟩
  have h' : Lib.cut s.data.toList (ByteArray.data ⟨#[58, 58]⟩).toList = (A, B, b) := h
  rw [h']
  exact ⟨rfl, below_drewN w n⟩
theorem cut_len (l sep : List UInt8) : (Lib.cut l sep).1.length ≤ l.length ∧ (Lib.cut l sep).2.1.length ≤ l.length := by
  unfold Lib.cut
  split
  · simp; omega
  · simp
theorem pgP_len {s a : List UInt8} (h : pgP s = some a) : a.length ≤ 22 := by
  unfold pgP at h
  have hl := cutN_len 58 9 s (by omega)
  split at h
  · cases h; simp
  · split at h
    · rename_i f hf
      have := fourP_len hf
      cases hx : hexAll (cutN 58 9 s).dropLast with
      | none => rw [hx] at h; cases h
      | some x =>
        rw [hx] at h
        cases h
        have h2 := hexAll_len hx
        rw [List.length_dropLast] at h2
        simp
        omega
    · have := hexAll_len h
      omega
theorem pg_call (l : List UInt8) (w : World) (hl : l.length ≤ 100000) (hg : GloAt w) (r : Option (List UInt8)) (hr : pgP l = r) : Calls Tryz.prog 51 #[.string ⟨l.toArray⟩] w (FourR w r) := by
  have := pgroups_any ⟨l.toArray⟩ w (by show l.toArray.size ≤ _; simpa using hl) hg
  rw [← hr]
  exact this
theorem strings_zero (z : Nat) (w : World) (hz : z ≤ 16) : Calls Tryz.prog 52 #[.string ⟨#[0]⟩, .int .i64 z] w fun e w' => e = .returned (.string ⟨(List.replicate z (0 : UInt8)).toArray⟩) ∧ Below w.heap.size w w' := by
  refine (Tryz.strings_Repeat ⟨#[0]⟩ z w (by omega) (by show 1 * z ≤ _; omega)).mono ?_
  rintro e w' ⟨rfl, hb⟩
  refine ⟨?_, hb⟩
  have h1 : repeatL (ByteArray.data ⟨#[0]⟩).toList z = List.replicate z (0 : UInt8) := by
    have h2 := repeatL_replicate (0 : UInt8) 1 z
    rw [Nat.mul_one] at h2
    exact h2
  rw [h1]
/-- No ::. -/
theorem plong_plain (s : ByteArray) (w : World) (hs : s.size ≤ 100000) (hg : GloAt w) (A B : List UInt8) (hc : Lib.cut s.data.toList [58, 58] = (A, B, false)) :
    Calls Tryz.prog 32 #[.string s] w (FourR w (longP s.data.toList)) := by
  obtain ⟨r, hr⟩ : ∃ r, pgP s.data.toList = r := ⟨_, rfl⟩
  have HX : Hid (longP s.data.toList = full16 r) := Lib.hid (by unfold longP; rw [hc, hr]; rfl)
  have HC := Lib.hid (cut_is s w hs hg A B false hc)
  have HG := Lib.hid hg
  have HP : Hid (∀ W, GloAt W → Calls Tryz.prog 51 #[.string s] W (FourR W r)) := Lib.hid (fun W h => by have := pgroups_any s W hs h; rw [hr] at this; exact this)
  clear hc hr hg
  cases r with
  | none =>
    go_enter Tryz.func32, Tryz.ntmps32
    go_wp2_with (first | (go_at_call 47; refine HC.out.mono ?_; rintro e w2 ⟨rfl, hb2⟩; have HB2 := Lib.hid hb2; clear hb2) | (go_at_call 51; refine (HP.out _ (HG.out.below HB2.out)).mono ?_; rintro e w3 ⟨rfl, hb3⟩; simp only [Option.getD_none, Option.isSome_none]))
    go_ret2
    exact ⟨by rw [HX.out]; rfl, HB2.out.trans (hb3.mono HB2.out.size)⟩
  | some b =>
    by_cases h16 : b.length = 16
    · have e16 : ((b.length : Int) != 16) = false := by simp; omega
      have H16 := Lib.hid h16
      clear h16
      go_enter Tryz.func32, Tryz.ntmps32
      go_wp2_with (first | (go_at_call 47; refine HC.out.mono ?_; rintro e w2 ⟨rfl, hb2⟩; have HB2 := Lib.hid hb2; clear hb2) | (go_at_call 51; refine (HP.out _ (HG.out.below HB2.out)).mono ?_; rintro e w3 ⟨rfl, hb3⟩; simp only [Option.getD_some, Option.isSome_some]))
      go_ret2
      exact ⟨by rw [HX.out]; simp only [full16, if_pos H16.out]; rfl, HB2.out.trans (hb3.mono HB2.out.size)⟩
    · have e16 : ((b.length : Int) != 16) = true := by simp; omega
      have H16 := Lib.hid h16
      clear h16
      go_enter Tryz.func32, Tryz.ntmps32
      go_wp2_with (first | (go_at_call 47; refine HC.out.mono ?_; rintro e w2 ⟨rfl, hb2⟩; have HB2 := Lib.hid hb2; clear hb2) | (go_at_call 51; refine (HP.out _ (HG.out.below HB2.out)).mono ?_; rintro e w3 ⟨rfl, hb3⟩; simp only [Option.getD_some, Option.isSome_some]))
      go_ret2
      exact ⟨by rw [HX.out]; simp only [full16, if_neg H16.out]; rfl, HB2.out.trans (hb3.mono HB2.out.size)⟩
set_option maxHeartbeats 2000000 in
theorem plong_cut (s : ByteArray) (w : World) (hs : s.size ≤ 100000) (hg : GloAt w) (A B : List UInt8) (hc : Lib.cut s.data.toList [58, 58] = (A, B, true)) :
    Calls Tryz.prog 32 #[.string s] w (FourR w (longP s.data.toList)) := by
  have HC := Lib.hid (cut_is s w hs hg A B true hc)
  have hln := cut_len s.data.toList [58, 58]
  rw [hc] at hln
  have hsz : s.data.toList.length = s.size := rfl
  simp only [hsz] at hln
  have HA : Hid (A.length ≤ 100000) := Lib.hid (by omega)
  have HB : Hid (B.length ≤ 100000) := Lib.hid (by omega)
  have HG := Lib.hid hg
  obtain ⟨qa, hqa⟩ : ∃ q : ByteArray, (⟨A.toArray⟩ : ByteArray) = q := ⟨_, rfl⟩
  obtain ⟨qb, hqb⟩ : ∃ q : ByteArray, (⟨B.toArray⟩ : ByteArray) = q := ⟨_, rfl⟩
  rw [hqa, hqb] at HC
  by_cases hd : 46 ∈ A
  · have HX : Hid (longP s.data.toList = none) := Lib.hid (by unfold longP; rw [hc, if_pos rfl, if_pos hd])
    have HD : Hid (decide (46 ∈ (⟨A.toArray⟩ : ByteArray).data.toList) = true) := Lib.hid (by simpa using hd)
    rw [hqa] at HD
    clear hc hg hd hln hsz
    go_enter Tryz.func32, Tryz.ntmps32
    go_wp2_with (first | (go_at_call 47; refine HC.out.mono ?_; rintro e w2 ⟨rfl, hb2⟩; have HB2 := Lib.hid hb2; clear hb2) | (go_at_call 31; refine (contains_is _ _ _ _ HD.out).mono ?_; rintro e w3 ⟨rfl, rfl⟩))
    go_ret2
    exact ⟨by rw [HX.out]; rfl, HB2.out⟩
  · have HD : Hid (decide (46 ∈ (⟨A.toArray⟩ : ByteArray).data.toList) = false) := Lib.hid (by simpa using hd)
    obtain ⟨r1, h1⟩ : ∃ r, pgP A = r := ⟨_, rfl⟩
    obtain ⟨r2, h2⟩ : ∃ r, pgP B = r := ⟨_, rfl⟩
    have HX : Hid (longP s.data.toList = bothP r1 r2) := Lib.hid (by unfold longP; rw [hc, if_pos rfl, if_neg hd, h1, h2])
    obtain ⟨x1, hx1⟩ : ∃ q : ByteArray, (⟨(r1.getD []).toArray⟩ : ByteArray) = q := ⟨_, rfl⟩
    obtain ⟨x2, hx2⟩ : ∃ q : ByteArray, (⟨(r2.getD []).toArray⟩ : ByteArray) = q := ⟨_, rfl⟩
    obtain ⟨b1, hb1⟩ : ∃ b, r1.isSome = b := ⟨_, rfl⟩
    obtain ⟨b2, hb2⟩ : ∃ b, r2.isSome = b := ⟨_, rfl⟩
    have HP : Hid (∀ W q, GloAt W → ∀ x b, ((q = qa ∧ x = x1 ∧ b = b1) ∨ (q = qb ∧ x = x2 ∧ b = b2)) → Calls Tryz.prog 51 #[.string q] W fun e w' => e = .returned (.tuple #[.string x, .bool b]) ∧ Below W.heap.size W w') := Lib.hid (fun W q h x b hh => by
      rcases hh with ⟨rfl, rfl, rfl⟩ | ⟨rfl, rfl, rfl⟩
      · rw [← hx1, ← hb1, ← hqa]; exact pg_call A W HA.out h r1 h1
      · rw [← hx2, ← hb2, ← hqb]; exact pg_call B W HB.out h r2 h2)
    have hs1 : x1.size ≤ 22 := by
      rw [← hx1]
      cases r1 with
      | none => exact Nat.zero_le _
      | some a => have := pgP_len h1; show a.toArray.size ≤ _; simpa using this
    have hs2 : x2.size ≤ 22 := by
      rw [← hx2]
      cases r2 with
      | none => exact Nat.zero_le _
      | some a => have := pgP_len h2; show a.toArray.size ≤ _; simpa using this
    rw [hqa] at HD
    cases b1 with
    | false =>
      have HF : Hid (bothP r1 r2 = none) := Lib.hid (by cases r1 with
        | none => cases r2 <;> rfl
        | some a => cases hb1)
      clear hc hg hd hln hsz h1 h2 hqa hqb hx1 hx2 hb1 hb2
      go_enter Tryz.func32, Tryz.ntmps32
      go_wp2_with (first | (go_at_call 47; refine HC.out.mono ?_; rintro e w2 ⟨rfl, hb2⟩; have HB2 := Lib.hid hb2; clear hb2) | (go_at_call 31; refine (contains_is _ _ _ _ HD.out).mono ?_; rintro e w3 ⟨rfl, rfl⟩) | (go_at_call 51; refine (HP.out _ _ (HG.out.below HB2.out) _ _ (by first | exact .inl ⟨rfl, rfl, rfl⟩ | exact .inr ⟨rfl, rfl, rfl⟩)).mono ?_; rintro e w3 ⟨rfl, hb3⟩; have HB2 := Lib.hid (HB2.out.trans (hb3.mono HB2.out.size)); clear hb3))
      go_ret2
      exact ⟨by rw [HX.out, HF.out]; rfl, HB2.out⟩
    | true =>
      cases b2 with
      | false =>
        have HF : Hid (bothP r1 r2 = none) := Lib.hid (by cases r2 with
          | none => cases r1 <;> rfl
          | some a => cases hb2)
        clear hc hg hd hln hsz h1 h2 hqa hqb hx1 hx2 hb1 hb2
        go_enter Tryz.func32, Tryz.ntmps32
        go_wp2_with (first | (go_at_call 47; refine HC.out.mono ?_; rintro e w2 ⟨rfl, hb2⟩; have HB2 := Lib.hid hb2; clear hb2) | (go_at_call 31; refine (contains_is _ _ _ _ HD.out).mono ?_; rintro e w3 ⟨rfl, rfl⟩) | (go_at_call 51; refine (HP.out _ _ (HG.out.below HB2.out) _ _ (by first | exact .inl ⟨rfl, rfl, rfl⟩ | exact .inr ⟨rfl, rfl, rfl⟩)).mono ?_; rintro e w3 ⟨rfl, hb3⟩; have HB2 := Lib.hid (HB2.out.trans (hb3.mono HB2.out.size)); clear hb3))
        go_ret2
        exact ⟨by rw [HX.out, HF.out]; rfl, HB2.out⟩
      | true =>
        obtain ⟨a, rfl⟩ : ∃ a, r1 = some a := Option.isSome_iff_exists.1 hb1
        obtain ⟨b, rfl⟩ : ∃ a, r2 = some a := Option.isSome_iff_exists.1 hb2
        have hl1 : x1.size = a.length := by rw [← hx1]; show a.toArray.size = _; simp
        have hl2 : x2.size = b.length := by rw [← hx2]; show b.toArray.size = _; simp
        by_cases h14 : 14 < x1.size + x2.size
        · have HF : Hid (bothP (some a) (some b) = none) := Lib.hid (by unfold bothP; simp only; rw [if_pos (by omega)])
          clear hc hg hd hln hsz h1 h2 hqa hqb hx1 hx2 hb1 hb2 hl1 hl2
          go_enter Tryz.func32, Tryz.ntmps32
          go_wp2_with (first | (go_at_call 47; refine HC.out.mono ?_; rintro e w2 ⟨rfl, hb2⟩; have HB2 := Lib.hid hb2; clear hb2) | (go_at_call 31; refine (contains_is _ _ _ _ HD.out).mono ?_; rintro e w3 ⟨rfl, rfl⟩) | (go_at_call 51; refine (HP.out _ _ (HG.out.below HB2.out) _ _ (by first | exact .inl ⟨rfl, rfl, rfl⟩ | exact .inr ⟨rfl, rfl, rfl⟩)).mono ?_; rintro e w3 ⟨rfl, hb3⟩; have HB2 := Lib.hid (HB2.out.trans (hb3.mono HB2.out.size)); clear hb3))
          go_ret2
          exact ⟨by rw [HX.out, HF.out]; rfl, HB2.out⟩
        · obtain ⟨z, hz⟩ : ∃ z, 16 - x1.size - x2.size = z := ⟨_, rfl⟩
          have HF : Hid (bothP (some a) (some b) = some (a ++ List.replicate z 0 ++ b)) := Lib.hid (by unfold bothP; simp only; rw [if_neg (by omega), ← hl1, ← hl2, hz])
          have HX1 := Lib.hid hx1
          have HX2 := Lib.hid hx2
          have hzi : (16 : Int) - x1.size - x2.size = z := by omega
          have hz2 : 2 ≤ z := by omega
          have hz16 : z ≤ 16 := by omega
          obtain ⟨x3, hx3⟩ : ∃ q : ByteArray, (⟨(List.replicate z (0 : UInt8)).toArray⟩ : ByteArray) = q := ⟨_, rfl⟩
          have HX3 := Lib.hid hx3
          have hs3 : x3.size ≤ 22 := by rw [← hx3]; show (List.replicate z (0 : UInt8)).toArray.size ≤ _; simp; omega
          have HZ : Hid (∀ W, Calls Tryz.prog 52 #[.string ⟨#[0]⟩, .int .i64 z] W fun e w' => e = .returned (.string x3) ∧ Below W.heap.size W w') := Lib.hid (fun W => by rw [← hx3]; exact strings_zero z W hz16)
          clear hc hg hd hln hsz h1 h2 hqa hqb hx1 hx2 hb1 hb2 hl1 hl2 hz h14 hx3
          go_enter Tryz.func32, Tryz.ntmps32
          go_wp2_with (first | (go_at_call 47; refine HC.out.mono ?_; rintro e w2 ⟨rfl, hb2⟩; have HB2 := Lib.hid hb2; clear hb2) | (go_at_call 31; refine (contains_is _ _ _ _ HD.out).mono ?_; rintro e w3 ⟨rfl, rfl⟩) | (go_at_call 51; refine (HP.out _ _ (HG.out.below HB2.out) _ _ (by first | exact .inl ⟨rfl, rfl, rfl⟩ | exact .inr ⟨rfl, rfl, rfl⟩)).mono ?_; rintro e w3 ⟨rfl, hb3⟩; have HB2 := Lib.hid (HB2.out.trans (hb3.mono HB2.out.size)); clear hb3) | (go_at_call 52; refine (HZ.out _).mono ?_; rintro e w5 ⟨rfl, hb5⟩))
          go_ret2
          exact ⟨by rw [HX.out, HF.out, ← HX1.out, ← HX2.out, ← HX3.out]; simp only [Option.getD_some, Option.isSome_some, ← join_str]; rfl, HB2.out.trans (hb5.mono HB2.out.size)⟩
theorem paddr_any (s : ByteArray) (w : World) (hs : s.size ≤ 100000) (hg : GloAt w) :
    Calls Tryz.prog 20 #[.string s] w (FourR w (parseP s.data.toList)) := by
  rw [← addrP_parse]
  by_cases h : 58 ∈ s.data.toList
  · have HX : Hid (addrP s.data.toList = longP s.data.toList) := Lib.hid (by unfold addrP; rw [if_pos h])
    have HD : Hid (decide (58 ∈ s.data.toList) = true) := Lib.hid (by simpa using h)
    have HL : Hid (Calls Tryz.prog 32 #[.string s] w (FourR w (longP s.data.toList))) := Lib.hid (by
      obtain ⟨A, B, b, hc⟩ : ∃ A B b, Lib.cut s.data.toList [58, 58] = (A, B, b) := ⟨_, _, _, rfl⟩
      cases b with
      | false => exact plong_plain s w hs hg A B hc
      | true => exact plong_cut s w hs hg A B hc)
    rw [HX.out]
    generalize longP s.data.toList = R at *
    clear h hg
    go_enter Tryz.func20, Tryz.ntmps20
    go_wp2_with (first | (go_at_call 31; refine (contains_is _ _ _ _ HD.out).mono ?_; rintro e w3 ⟨rfl, rfl⟩) | (go_at_call 32; refine HL.out.mono ?_; rintro e w3 ⟨rfl, hb3⟩))
    go_ret2
    exact ⟨rfl, hb3⟩
  · have HX : Hid (addrP s.data.toList = fourP (splitL 46 s.data.toList)) := Lib.hid (by unfold addrP; rw [if_neg h])
    have HD : Hid (decide (58 ∈ s.data.toList) = false) := Lib.hid (by simpa using h)
    have HL := Lib.hid (pshort_any s w hs hg)
    rw [HX.out]
    generalize fourP (splitL 46 s.data.toList) = R at *
    clear h hg
    go_enter Tryz.func20, Tryz.ntmps20
    go_wp2_with (first | (go_at_call 31; refine (contains_is _ _ _ _ HD.out).mono ?_; rintro e w3 ⟨rfl, rfl⟩) | (go_at_call 33; refine HL.out.mono ?_; rintro e w3 ⟨rfl, hb3⟩))
    go_ret2
    exact ⟨rfl, hb3⟩
end Go.Proofs.YtdfapebggghfdaaGreatDoor
