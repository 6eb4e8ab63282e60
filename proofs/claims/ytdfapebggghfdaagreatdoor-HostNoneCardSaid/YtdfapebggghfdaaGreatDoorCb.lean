/- Contracts of the names' inner functions: is a text a name; Clean. -/
import Derived.Test.YtdfapebggghfdaaGreatDoorCa
import Derived.Test.YtdfapebggghfdaaGreatDoorTf
import Derived.Test.YtdfapebggghfdaaGreatDoorGs
import Derived.OwnWalk
namespace Go.Proofs.YtdfapebggghfdaaGreatDoor
open Go.RowKit Go.Lib Go.Tx
/-- A row of texts, whose address and length are known. -/
structure TextsAt (w : World) (b cap : Nat) (ws : List (List UInt8)) : Prop where
  lt : b < w.heap.size
  fits : ws.length ≤ cap
  max : cap ≤ 9223372036854775807
  cell : ∀ (i : Nat) l, ws[i]? = some l → w.cell? ⟨b, i, none⟩ = some (.string ⟨l.toArray⟩)
theorem TextsAt.below {w w' : World} {b cap : Nat} {ws : List (List UInt8)} (h : TextsAt w b cap ws) (hb : Below w.heap.size w w') : TextsAt w' b cap ws :=
  ⟨Nat.lt_of_lt_of_le h.lt hb.size, h.fits, h.max, fun i l hi => by
    have := h.cell i l hi
    unfold World.cell? at this ⊢
    rw [hb.block b h.lt]
    exact this⟩
def IdxT (p : List UInt8 → Bool) (ws : List (List UInt8)) (w : World) (e : Ending) (w' : World) : Prop := ∃ i : Int, e = .returned (.int .i64 i) ∧ decide (0 ≤ i) = ws.any p ∧ Below w.heap.size w w'
theorem anyT_no {p : List UInt8 → Bool} (l : List (List UInt8)) (k : Nat) (hk : l.length ≤ k) (h : ∀ j b, j < k → l[j]? = some b → p b = false) : l.any p = false := by
  rw [List.any_eq_false]
  intro b hb
  obtain ⟨j, hj, rfl⟩ := List.getElem_of_mem hb
  rw [h j _ (by omega) (List.getElem?_eq_getElem hj)]
  simp
theorem anyT_yes {p : List UInt8 → Bool} (l : List (List UInt8)) (k : Nat) (b : List UInt8) (hk : l[k]? = some b) (h : p b = true) : l.any p = true := by
  rw [List.any_eq_true]
  exact ⟨b, List.mem_of_getElem? hk, h⟩
set_option maxHeartbeats 1000000 in
set_option maxRecDepth 100000 in
theorem idxT_any (b n cap : Nat) (ws : List (List UInt8)) (w : World) (hn : ws.length = n) (h : TextsAt w b cap ws) :
    Calls Tryz.prog 82 #[.slice (some ⟨b, 0, none⟩) n cap, .func (.func 63) #[] #[]] w (IdxT (fun l => !labelB l) ws w) := by
  have hcap := h.fits
  have hmax := h.max
  rw [hn] at hcap
  have HT := Lib.hid h
  clear h
  go_enter Tryz.func82, Tryz.ntmps82
  go_wp2
  go_loopw [8] (fun i wr => ∃ k : Nat, k ≤ n ∧ i = .int .i64 k ∧ Below w.heap.size w wr ∧ Hid (∀ j b, j < k → ws[j]? = some b → (!labelB b) = false)) (fun i _ => n - (intOf i).toNat)
  case atStart => exact ⟨0, Nat.zero_le _, rfl, Below.refl _ _, Lib.hid (by omega)⟩
  case round =>
    obtain ⟨k, hk, rfl, hbel, hall⟩ := hrel
    by_cases hlt : k < n
    · have hkl : k < ws.length := by omega
      have hcell := (HT.out.below hbel).cell k ws[k] (List.getElem?_eq_getElem hkl)
      have HK := Lib.hid (List.getElem?_eq_getElem hkl)
      clear hn
      generalize ws[k] = t at hcell HK
      have HN := Lib.hid (fun w => noLabel_any ⟨t.toArray⟩ w)
      cases hb : labelB t with
      | false =>
        have HB := Lib.hid hb
        clear hb
        go_wp2_with (go_at_call 63; refine (HN.out _).mono ?_; rw [show labelB (ByteArray.data ⟨t.toArray⟩).toList = false from HB.out]; rintro e w' ⟨rfl, hb2⟩)
        go_ret
        exact ⟨k, rfl, by rw [anyT_yes ws k t HK.out (by rw [HB.out]; rfl)]; simp, hbel.trans (hb2.mono hbel.size)⟩
      | true =>
        have HB := Lib.hid hb
        clear hb
        go_wp2_with (go_at_call 63; refine (HN.out _).mono ?_; rw [show labelB (ByteArray.data ⟨t.toArray⟩).toList = true from HB.out]; rintro e w' ⟨rfl, hb2⟩)
        go_roundw
        case rel => exact ⟨k + 1, hlt, by go_num, hbel.trans (hb2.mono hbel.size), Lib.hid (by
          intro j d hj hd
          by_cases e : j = k
          · subst e
            have := HK.out
            rw [this] at hd
            cases hd
            rw [HB.out]; rfl
          · exact hall.out j d (by omega) hd)⟩
        case measure => simp [intOf]; omega
    · go_wp2
      go_ret
      exact ⟨-1, rfl, by rw [anyT_no ws k (by omega) hall.out]; rfl, hbel⟩
theorem containsT_any (b n cap : Nat) (ws : List (List UInt8)) (w : World) (hn : ws.length = n) (h : TextsAt w b cap ws) :
    Calls Tryz.prog 61 #[.slice (some ⟨b, 0, none⟩) n cap, .func (.func 63) #[] #[]] w fun e w' => e = .returned (.bool (ws.any fun l => !labelB l)) ∧ Below w.heap.size w w' := by
  have HI := Lib.hid (idxT_any b n cap ws w hn h)
  clear h hn
  go_enter Tryz.func61, Tryz.ntmps61
  go_wp2_with (go_at_call 82; refine HI.out.mono ?_; rintro e w' ⟨i, rfl, hi, hb⟩; have HD := Lib.hid hi; clear hi)
  go_ret
  exact ⟨by rw [← HD.out]; rfl, hb⟩
/-- The library's variable holds a number. -/
def MaxAt (w : World) : Prop := ∃ m : Int, w.cell? ⟨0, 0, none⟩ = some (.int .i64 m)
theorem MaxAt.lt {w : World} (h : MaxAt w) : 0 < w.heap.size := by
  obtain ⟨m, h⟩ := h
  unfold World.cell? at h
  split at h
  · rename_i hh
    exact (Array.getElem?_eq_some_iff.1 hh).1
  · cases h
theorem MaxAt.below {w w' : World} (h : MaxAt w) (hb : Below w.heap.size w w') : MaxAt w' := by
  have := h.lt
  obtain ⟨m, h⟩ := h
  exact ⟨m, by rw [hb.cell (p := ⟨0, 0, none⟩) this]; exact h⟩
theorem split_textsAt (s : ByteArray) (w : World) (hs : s.size < 9223372036854775807) :
    TextsAt (w.alloc (.cells ((Lib.splitB ⟨#[46]⟩ 0 (Lib.countB s ⟨#[46]⟩) s).map Value.string).toArray 9)) w.heap.size (Lib.countB s ⟨#[46]⟩ + 1) (splitL 46 s.data.toList) := by
  rw [split_pieces, split_count]
  have hl := splitG_len 46 s.data.toList []
  refine ⟨by show w.heap.size < (w.heap.push _).size; simp, Nat.le_refl _, ?_, fun i l hi => ?_⟩
  · have : s.data.toList.length = s.size := rfl
    unfold splitL; omega
  · rw [World.cell?_alloc_new]
    simp only [List.getElem?_toArray, List.getElem?_map, hi]
    rfl
set_option maxHeartbeats 1000000 in
theorem isName_any (s : ByteArray) (w : World) (hm : MaxAt w) : Calls Tryz.prog 42 #[.string s] w fun e w' => e = .returned (.bool (nameB s.data.toList)) ∧ Below w.heap.size w w' := by
  have hl : s.data.toList.length = s.size := rfl
  by_cases h1 : s.size ≤ 253
  · have h1' : (s.size : Int) ≤ 253 := by omega
    obtain ⟨m, hm⟩ := hm
    have HS := Lib.hid (Tryz.strings_Split s ⟨#[46]⟩ m w (by omega) hm (Nat.le_refl 1))
    have HT := Lib.hid (split_textsAt s w (by omega))
    have HC := Lib.hid (split_count s 46).symm
    have hb : nameB s.data.toList = !((splitL 46 s.data.toList).any fun l => !labelB l) := by
      unfold nameB
      rw [decide_eq_true (by omega), Bool.true_and]
      simp [List.all_eq_not_any_not]
    rw [hb]
    clear hb hm hl
    go_enter Tryz.func42, Tryz.ntmps42
    go_wp2_with (first | (go_at_call 62; refine HS.out.mono ?_; rintro e w2 ⟨rfl, rfl⟩) | (go_at_call 61; refine (containsT_any _ _ _ _ _ HC.out HT.out).mono ?_; rintro e w2 ⟨rfl, hb⟩))
    go_ret
    exact ⟨rfl, ((Below.refl _ _).alloc (Nat.le_refl _) _).trans (hb.mono (by show w.heap.size ≤ (w.heap.push _).size; simp))⟩
  · have h1' : (253 : Int) < (s.size : Int) := by omega
    have hb : nameB s.data.toList = false := by unfold nameB; rw [decide_eq_false (by omega), Bool.false_and]
    rw [hb]
    clear hb
    go_enter Tryz.func42, Tryz.ntmps42
    go_wp2
    all_goals (go_ret; exact ⟨rfl, Below.refl _ _⟩)
set_option maxHeartbeats 1000000 in
theorem clean_any (s : ByteArray) (w : World) (hs : s.size ≤ maxLen) (hm : MaxAt w) : Calls Tryz.prog 26 #[.string s] w fun e w' => e = .returned (cleanV s.data.toList) ∧ Below w.heap.size w w' := by
  have HC := Lib.hid (Tryz.strings_CutSuffix s ⟨#[46]⟩ w (by unfold maxLen at hs; omega))
  have hbl : (bare s.data.toList).length ≤ maxLen := Nat.le_trans (bare_len _) hs
  have HF := Lib.hid (fun w => fold_any ⟨(bare s.data.toList).toArray⟩ w hbl)
  have HN := Lib.hid (fun w hm => isName_any ⟨(bare s.data.toList).toArray⟩ w hm)
  clear hbl hs
  cases hn : nameB (bare s.data.toList) with
  | true =>
    have hv : cleanV s.data.toList = .tuple #[.string ⟨((bare s.data.toList).map low).toArray⟩, .bool (isRoot s.data.toList), .bool true] := by unfold cleanV; rw [if_pos hn]
    rw [hv]
    have HB := Lib.hid hn
    clear hn hv
    go_enter Tryz.func26, Tryz.ntmps26
    go_wp2_with (first | (go_at_call 41; refine HC.out.mono ?_; rintro e w2 ⟨rfl, rfl⟩) | (go_at_call 42; refine (HN.out _ hm).mono ?_; rw [show nameB (ByteArray.data ⟨(bare s.data.toList).toArray⟩).toList = true from HB.out]; rintro e w2 ⟨rfl, hb⟩) | (go_at_call 43; refine (HF.out _).mono ?_; rintro e w3 ⟨rfl, hb3⟩))
    go_ret3
    exact ⟨rfl, hb.trans (hb3.mono hb.size)⟩
  | false =>
    have hv : cleanV s.data.toList = .tuple #[.string ⟨#[]⟩, .bool false, .bool false] := by unfold cleanV; rw [if_neg (by rw [hn]; decide)]
    rw [hv]
    have HB := Lib.hid hn
    clear hn hv
    go_enter Tryz.func26, Tryz.ntmps26
    go_wp2_with (first | (go_at_call 41; refine HC.out.mono ?_; rintro e w2 ⟨rfl, rfl⟩) | (go_at_call 42; refine (HN.out _ hm).mono ?_; rw [show nameB (ByteArray.data ⟨(bare s.data.toList).toArray⟩).toList = false from HB.out]; rintro e w2 ⟨rfl, hb⟩))
    go_ret3
    exact ⟨rfl, hb⟩
end Go.Proofs.YtdfapebggghfdaaGreatDoor
