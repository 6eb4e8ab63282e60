/- Contract: the words of a line, the document's: the rounds. -/
import Derived.Test.YtmnahgeledddhaaRp
namespace Go.Proofs.Ytmnahgeledddhaa
open Go.RowKit Go.Lib Go.Tx Go.Proofs
theorem words_end {l : List UInt8} (h1 : (l.take l.length).any forB = false) (h2 : l.length ≤ 512) : wordsOf l = closeW (ust l l.length) := by
  rw [List.take_length] at h1
  unfold wordsOf badSeg ust
  rw [h1, decide_eq_false (by omega), List.take_length]
  rfl
set_option maxHeartbeats 4000000 in
set_option maxRecDepth 100000 in
theorem one_ok (a : Option Addr) (n c : Nat) (l : List UInt8) (w : World) (h : BA w a n c l) (hold : ∀ x, a = some x → x.block < w.heap.size) (hn : n ≤ 512) :
    Calls Try.prog 37 #[.slice a n c] w (OneR w (wordsOf l)) := by
  obtain ⟨i9, hi, hz0, hz1, hz2⟩ := info_parts info9o
  have hcap := h.cap
  have hmax := h.max
  have HL := Lib.hid h.len
  have HBA := Lib.hid h
  have HOLD := Lib.hid hold
  clear h hold
  go_enter Try.func37, Try.ntmps37
  go_wp2
  go_loopw [3, 4, 5, 6] (fun lv word rest i wr => ∃ k s, k ≤ n ∧ i = .int .i64 (k : Nat) ∧ OneI l w k rest word lv wr s) (fun _ _ _ i _ => n - (intOf i).toNat)
  case atStart => exact ⟨0, _, Nat.zero_le _, rfl, Go.Tx.OneI.start l w⟩
  case round =>
    obtain ⟨k, s, hk, rfl, hI⟩ := hrel
    have hul := ust_len l k
    have hsz : s.size ≤ 512 := by
      have h1 : s.data.toList.length = s.size := rfl
      rw [hI.text] at h1
      omega
    have hul2 : (ust l k).2.length ≤ 512 := by omega
    have hws := hI.bel.size
    clear hul
    have hrest := hI.rest
    have hword := hI.word
    subst hrest hword
    have HI := Lib.hid hI
    clear hI
    by_cases hlt : k < n
    · obtain ⟨b, hb⟩ : ∃ b, l[k]? = some b := ⟨_, List.getElem?_eq_getElem (by rw [HL.out]; exact hlt)⟩
      obtain ⟨x, rfl⟩ : ∃ x, a = some x := by
        cases a with
        | none => have := HBA.out.none rfl; omega
        | some x => exact ⟨x, rfl⟩
      have hcell := (HBA.out.below HI.out.bel HOLD.out).cell x rfl k b hb
      have HK := Lib.hid hb
      clear hb
      by_cases h127 : 127 ≤ (b.toNat : Int)
      · go_wp2
        go_ret
        exact ⟨_, rfl, nil_own _ _ _ (words_for HK.out (forB_hi h127)), HI.out.bel⟩
      · have h127 : (b.toNat : Int) < 127 := by omega
        by_cases h32 : (b.toNat : Int) < 32
        · cases hbl : blankN b.toNat with
          | false =>
            have HB := Lib.hid hbl
            clear hbl
            go_wp2_with (go_at_call 48; refine (blank_any b _).mono ?_; rw [HB.out]; rintro e w' ⟨rfl, rfl⟩)
            go_ret
            exact ⟨_, rfl, nil_own _ _ _ (words_for HK.out (forB_lo h32 HB.out)), HI.out.bel⟩
          | true =>
            have HB := Lib.hid hbl
            have HF := Lib.hid (forB_blank h127 hbl)
            clear hbl
            cases hd : decide ((35 : UInt8) ∈ l.take k) with
            | true =>
              have HM := Lib.hid (of_decide_eq_true hd)
              clear hd
              go_wp2_with (go_at_call 48; refine (blank_any b _).mono ?_; rw [HB.out]; rintro e w' ⟨rfl, rfl⟩)
              go_roundw
              case rel => exact ⟨k + 1, _, hlt, by go_num, HI.out.stay HK.out HF.out (.inl HM.out)⟩
              case measure => simp [intOf]; omega
            | false =>
              have HM := Lib.hid (of_decide_eq_false hd)
              clear hd
              have e35 : ((b.toNat : Int) == 35) = false := by rw [beq_eq_false_iff_ne]; omega
              have H35 : Hid (¬ b = 35) := Lib.hid (by rintro rfl; revert h32; decide)
              by_cases hs : s.data.toList = []
              · have e1 : s.toList = [] := by rw [toList_data]; exact hs
                have HS := Lib.hid hs
                clear hs
                go_wp2_with (go_at_call 48; refine (blank_any b _).mono ?_; rw [HB.out]; rintro e w' ⟨rfl, rfl⟩)
                go_roundw
                case rel => exact ⟨k + 1, _, hlt, by go_num, HI.out.blank0 HK.out HF.out HM.out H35.out HB.out HS.out⟩
                case measure => simp [intOf]; omega
              · have e1 : ¬ s.toList = [] := by rw [toList_data]; exact hs
                have e2 : s.toList.isEmpty = false := by cases hh : s.toList with | nil => exact absurd hh e1 | cons x y => rfl
                have HS := Lib.hid hs
                clear hs
                go_wp2_with (first | (go_at_call 48; refine (blank_any b _).mono ?_; rw [HB.out]; rintro e w' ⟨rfl, rfl⟩) | (at_builtin; refine wpList_append_own _ rfl _ _ 34 rfl w.heap.size 9 i9 (.string ⟨#[]⟩) 1 16 Try.underlying34 hi hz0 hz1 hz2 rfl (by decide) _ _ _ rfl (HI.out.row.alloc _) ⟨wr.heap.size, 0, none⟩ 1 1 [.string s] rfl rfl (one_cell _ _ _) (by simp [Value.oneCell']) (by unfold maxLen; omega) (by omega) (by show w.heap.size ≤ (wr.heap.push _).size; simp; omega) ?_; intro v' w5 hown5 hg5 _))
                go_roundw
                case rel => exact ⟨k + 1, _, hlt, by go_num, HI.out.blank1 HK.out HF.out HM.out H35.out HB.out HS.out hown5 ((HI.out.bel.alloc HI.out.bel.size _).grown hg5 (by show w.heap.size ≤ (wr.heap.push _).size; have := HI.out.bel.size; simp; omega) (fun g hg => (HI.out.row.lt g hg).1))⟩
                case measure => simp [intOf]; omega
        · have h32 : 32 ≤ (b.toNat : Int) := by omega
          have HF := Lib.hid (forB_mid h127 h32)
          cases hd : decide ((35 : UInt8) ∈ l.take k) with
          | true =>
            have HM := Lib.hid (of_decide_eq_true hd)
            clear hd
            go_wp2
            go_roundw
            case rel => exact ⟨k + 1, _, hlt, by go_num, HI.out.stay HK.out HF.out (.inl HM.out)⟩
            case measure => simp [intOf]; omega
          | false =>
            have HM := Lib.hid (of_decide_eq_false hd)
            clear hd
            by_cases h35 : b = 35
            · have e35 : ((b.toNat : Int) == 35) = true := by subst h35; rfl
              have H35 := Lib.hid h35
              clear h35
              go_wp2
              go_roundw
              case rel => exact ⟨k + 1, _, hlt, by go_num, HI.out.stay HK.out HF.out (.inr H35.out)⟩
              case measure => simp [intOf]; omega
            · have e35 : ((b.toNat : Int) == 35) = false := by rw [beq_eq_false_iff_ne]; intro h; exact h35 (UInt8.toNat_inj.1 (by show b.toNat = 35; omega))
              have H35 := Lib.hid h35
              clear h35
              cases hbl : blankN b.toNat with
              | true =>
                have HB := Lib.hid hbl
                clear hbl
                by_cases hs : s.data.toList = []
                · have e1 : s.toList = [] := by rw [toList_data]; exact hs
                  have HS := Lib.hid hs
                  clear hs
                  go_wp2_with (go_at_call 48; refine (blank_any b _).mono ?_; rw [HB.out]; rintro e w' ⟨rfl, rfl⟩)
                  go_roundw
                  case rel => exact ⟨k + 1, _, hlt, by go_num, HI.out.blank0 HK.out HF.out HM.out H35.out HB.out HS.out⟩
                  case measure => simp [intOf]; omega
                · have e1 : ¬ s.toList = [] := by rw [toList_data]; exact hs
                  have e2 : s.toList.isEmpty = false := by cases hh : s.toList with | nil => exact absurd hh e1 | cons x y => rfl
                  have HS := Lib.hid hs
                  clear hs
                  go_wp2_with (first | (go_at_call 48; refine (blank_any b _).mono ?_; rw [HB.out]; rintro e w' ⟨rfl, rfl⟩) | (at_builtin; refine wpList_append_own _ rfl _ _ 34 rfl w.heap.size 9 i9 (.string ⟨#[]⟩) 1 16 Try.underlying34 hi hz0 hz1 hz2 rfl (by decide) _ _ _ rfl (HI.out.row.alloc _) ⟨wr.heap.size, 0, none⟩ 1 1 [.string s] rfl rfl (one_cell _ _ _) (by simp [Value.oneCell']) (by unfold maxLen; omega) (by omega) (by show w.heap.size ≤ (wr.heap.push _).size; simp; omega) ?_; intro v' w5 hown5 hg5 _))
                  go_roundw
                  case rel => exact ⟨k + 1, _, hlt, by go_num, HI.out.blank1 HK.out HF.out HM.out H35.out HB.out HS.out hown5 ((HI.out.bel.alloc HI.out.bel.size _).grown hg5 (by show w.heap.size ≤ (wr.heap.push _).size; have := HI.out.bel.size; simp; omega) (fun g hg => (HI.out.row.lt g hg).1))⟩
                  case measure => simp [intOf]; omega
              | false =>
                have HB := Lib.hid hbl
                clear hbl
                have hbs := byte_str wr b
                go_wp2_with (go_at_call 48; refine (blank_any b _).mono ?_; rw [HB.out]; rintro e w' ⟨rfl, rfl⟩)
                go_roundw
                case rel => exact ⟨k + 1, _, hlt, by go_num, HI.out.letter HK.out HF.out HM.out H35.out (by rw [HB.out]; decide) ((Below.refl _ _).alloc (Nat.le_refl _) _)⟩
                case measure => simp [intOf]; omega
    · obtain rfl : k = n := by omega
      have hend : Hid (wordsOf l = closeW (ust l k)) := Lib.hid (by
        have h1 := HI.out.fine
        have h2 := HL.out
        subst h2
        exact words_end h1 hn)
      by_cases hs : s.data.toList = []
      · have e1 : s.toList = [] := by rw [toList_data]; exact hs
        have HS := Lib.hid hs
        clear hs
        go_wp2
        go_ret
        exact ⟨_, rfl, by rw [hend.out]; unfold closeW; rw [if_pos (by rw [← HI.out.text]; exact HS.out)]; exact HI.out.row, HI.out.bel⟩
      · have e1 : ¬ s.toList = [] := by rw [toList_data]; exact hs
        have e2 : s.toList.isEmpty = false := by cases hh : s.toList with | nil => exact absurd hh e1 | cons x y => rfl
        have HS := Lib.hid hs
        clear hs
        go_wp2_with (at_builtin; refine wpList_append_own _ rfl _ _ 34 rfl w.heap.size 9 i9 (.string ⟨#[]⟩) 1 16 Try.underlying34 hi hz0 hz1 hz2 rfl (by decide) _ _ _ rfl (HI.out.row.alloc _) ⟨wr.heap.size, 0, none⟩ 1 1 [.string s] rfl rfl (one_cell _ _ _) (by simp [Value.oneCell']) (by unfold maxLen; omega) (by omega) (by show w.heap.size ≤ (wr.heap.push _).size; simp; omega) ?_; intro v' w5 hown5 hg5 _)
        go_ret
        refine ⟨_, rfl, ?_, (HI.out.bel.alloc HI.out.bel.size _).grown hg5 (by show w.heap.size ≤ (wr.heap.push _).size; have := HI.out.bel.size; simp; omega) (fun g hg => (HI.out.row.lt g hg).1)⟩
        rw [hend.out]
        unfold closeW
        rw [if_neg (by rw [← HI.out.text]; exact HS.out)]
        unfold StrC
        rw [List.length_append, List.map_append]
        have hv : Value.string s = strV (ust l k).1 := by rw [← HI.out.text]; unfold strV; simp
        rw [hv] at hown5
        exact hown5
theorem one_any (a : Option Addr) (n c : Nat) (l : List UInt8) (w : World) (h : BA w a n c l) (hold : ∀ x, a = some x → x.block < w.heap.size) :
    Calls Try.prog 37 #[.slice a n c] w (OneR w (wordsOf l)) := by
  by_cases hn : 512 < n
  · exact one_long a n c l w h hn
  · exact one_ok a n c l w h hold (by omega)
end Go.Proofs.Ytmnahgeledddhaa
