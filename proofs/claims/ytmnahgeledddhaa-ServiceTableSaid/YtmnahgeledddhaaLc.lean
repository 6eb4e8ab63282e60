/- Contract: the words of a line. -/
import Derived.Test.YtmnahgeledddhaaLb
import Derived.Laws.IdiomStrings
import Derived.Test.YtmnahgeledddhaaEvB
import Derived.Laws.OwnMore
namespace Go.Tx
/-- A slice of texts that reads as ws: nil, or a row from block B on. -/
def Strs (B : Nat) (w : World) (v : Value) (ws : List (List UInt8)) : Prop :=
  (v = .slice none 0 0 ∧ ws = []) ∨
  ∃ A, v = .slice (some ⟨A, 0, none⟩) ws.length ws.length ∧ B ≤ A ∧ w.ownsRow B 9 1 v ws.length (ws.map fun l => .string ⟨l.toArray⟩)
end Go.Tx
namespace Go.Proofs.Ytmnahgeledddhaa
open Go.RowKit Go.Lib Go.Tx Go.Proofs
theorem cf_any (a : Option Addr) (n c : Nat) (l : List UInt8) (w : World) (h : BA w a n c l) :
    Calls Try.prog 40 #[.slice a n c, .func (.func 41) #[] #[]] w fun e w' => e = .returned (.bool (l.any forB)) ∧ w' = w := by
  go_enter Try.func40, Try.ntmps40
  go_wp2_with (go_at_call 54; refine (idx_any a n c l _ h).mono ?_; rintro e w' ⟨r, rfl, hr, rfl⟩)
  go_ret
  exact ⟨rfl, rfl⟩
theorem ba_str (a : Option Addr) (n c : Nat) (l : List UInt8) (w : World) (h : BA w a n c l) : (convert 22 9 (.slice a n c)).run Try.prog w = .ok (.string ⟨l.toArray⟩) w := by
  have hlen := h.len
  cases a with
  | none =>
    have := h.none rfl
    have hcap := h.cap
    obtain rfl : c = 0 := by omega
    obtain rfl : n = 0 := by omega
    obtain rfl : l = [] := List.eq_nil_of_length_eq_zero hlen
    rw [run_convert_bytes_string w 22 9 5 none 0 0 Try.underlying22 Try.underlying5 Try.underlying9]
    rfl
  | some x =>
    subst hlen
    exact run_convert_bytes_back w 22 9 5 x c l Try.underlying22 Try.underlying5 Try.underlying9 fun j hj => h.cell x rfl j _ (List.getElem?_eq_getElem hj)
def WordsR (w : World) (ws : List (List UInt8)) (e : Ending) (w' : World) : Prop := ∃ v, e = .returned v ∧ Strs w.heap.size w' v ws ∧ Below w.heap.size w w'
theorem blank_pays (w : World) : PredAt Try.prog 43 #[] encR blankN w := fun W x _ => by
  unfold FnGives
  refine (isBlank_any x W).mono ?_
  rintro e w' ⟨rfl, rfl⟩
  exact ⟨rfl, 0, rfl⟩
theorem enter72 (args : Array Value) (w : World) : (callFunc 43 args).run Try.prog w = .ok (.enter 43 args) w := Go.Ev.enters_run (by kernel_rfl) args w
theorem ff_any (l : List UInt8) (w : World) (hl : l.length ≤ 512) (ha : ∀ b ∈ l, forB b = false) :
    Calls Try.prog 42 #[.string ⟨l.toArray⟩, .func (.func 43) #[] #[]] w (WordsR w (wordsL blankN l)) := by
  refine (Try.strings_FieldsFunc 43 #[] enter72 blankN ⟨l.toArray⟩ w (by show l.toArray.size ≤ _; simp; omega) (blank_pays w)).mono ?_
  rintro e w' ⟨A, rfl, hA, hown, hb⟩
  have hf := fields_words blankN ⟨l.toArray⟩ (fun k h => by
    have hk : k < l.length := by have h2 : k < l.toArray.size := h; simpa using h2
    have := ha l[k] (List.getElem_mem hk)
    have h2 : l[k].toNat < 127 := by
      simp only [forB, Bool.or_eq_false_iff, decide_eq_false_iff_not] at this
      omega
    show l.toArray[k].toNat < 128
    simp; omega)
  have hg : (goFieldsP blankN ⟨l.toArray⟩).map Value.string = (wordsL blankN l).map fun l => Value.string ⟨l.toArray⟩ := by
    have h1 : (⟨l.toArray⟩ : ByteArray).data.toList = l := by simp
    rw [h1] at hf
    rw [← hf, List.map_map]
    apply List.map_congr_left
    intro x _
    simp
  have hlen : (goFieldsP blankN ⟨l.toArray⟩).length = (wordsL blankN l).length := by
    have := congrArg List.length hg
    simpa using this
  rw [hg, hlen] at hown
  rw [hlen]
  exact ⟨_, rfl, .inr ⟨A, rfl, hA, hown⟩, hb⟩
theorem words_long (a : Option Addr) (n c : Nat) (l : List UInt8) (w : World) (h : BA w a n c l) (hn : 512 < n) :
    Calls Try.prog 31 #[.slice a n c] w (WordsR w (wordsOf l)) := by
  have hb : Hid (wordsOf l = []) := Lib.hid (by have := h.len; simp [wordsOf, badSeg, this, hn])
  have hcap := h.cap
  have hmax := h.max
  go_enter Try.func31, Try.ntmps31
  go_wp2
  go_ret
  exact ⟨_, rfl, .inl ⟨rfl, hb.out⟩, Below.refl _ _⟩
theorem words_bad (a : Option Addr) (n c : Nat) (l : List UInt8) (w : World) (h : BA w a n c l) (hn : n ≤ 512) (hf : l.any forB = true) :
    Calls Try.prog 31 #[.slice a n c] w (WordsR w (wordsOf l)) := by
  have hb : Hid (wordsOf l = []) := Lib.hid (by simp [wordsOf, badSeg, hf])
  have HF := Lib.hid hf
  clear hf
  go_enter Try.func31, Try.ntmps31
  go_wp2_with (go_at_call 40; refine (cf_any a n c l _ h).mono ?_; rw [HF.out]; rintro e w' ⟨rfl, rfl⟩)
  go_ret
  exact ⟨_, rfl, .inl ⟨rfl, hb.out⟩, Below.refl _ _⟩
theorem cut_any (l : List UInt8) (w : World) (hl : l.length ≤ 512) : Calls Try.prog 33 #[.string ⟨l.toArray⟩, .string ⟨#[35]⟩] w fun e w' => ∃ x y, e = .returned (.tuple #[.string ⟨(hashCut l).toArray⟩, x, y]) ∧ ∃ q, w' = w.drewN q := by
  refine (scut_any ⟨l.toArray⟩ w (by show l.toArray.size ≤ _; simp; omega)).mono ?_
  rintro e w' ⟨x, y, rfl, q, rfl⟩
  exact ⟨x, y, by simp, q, rfl⟩
theorem takeWhile_len {α : Type} (p : α → Bool) : ∀ l : List α, (l.takeWhile p).length ≤ l.length
  | [] => Nat.le_refl _
  | x :: l => by
    unfold List.takeWhile
    split
    · simp; exact takeWhile_len p l
    · simp
theorem takeWhile_mem {α : Type} (p : α → Bool) : ∀ (l : List α) (x : α), x ∈ l.takeWhile p → x ∈ l
  | [], x, h => by simp at h
  | y :: l, x, h => by
    unfold List.takeWhile at h
    split at h
    · rcases List.mem_cons.1 h with h | h
      · simp [h]
      · simp [takeWhile_mem p l x h]
    · simp at h
set_option maxRecDepth 100000 in
theorem words_ok (a : Option Addr) (n c : Nat) (l : List UInt8) (w : World) (h : BA w a n c l) (hn : n ≤ 512) (hf : l.any forB = false) :
    Calls Try.prog 31 #[.slice a n c] w (WordsR w (wordsOf l)) := by
  have hlen := h.len
  have hb : wordsOf l = wordsL blankN (hashCut l) := by
    have : ¬ 512 < l.length := by omega
    simp [wordsOf, badSeg, hf, this]
  have hl : l.length ≤ 512 := by omega
  have hl2 : (hashCut l).length ≤ 512 := Nat.le_trans (takeWhile_len _ l) hl
  have ha : ∀ b ∈ hashCut l, forB b = false := fun b hb => by
    rw [List.any_eq_false] at hf
    simpa using hf b (takeWhile_mem _ l b hb)
  have HF := Lib.hid hf
  have HA := Lib.hid ha
  rw [hb]
  have hconv := ba_str a n c l w h
  clear hf ha hb hlen
  go_enter Try.func31, Try.ntmps31
  go_wp2_with (first | (go_at_call 40; refine (cf_any a n c l _ h).mono ?_; rw [HF.out]; rintro e w' ⟨rfl, rfl⟩) | (go_at_call 33; refine (cut_any l _ hl).mono ?_; rintro e w' ⟨x, y, rfl, q, rfl⟩) | (go_at_call 42; refine (ff_any (hashCut l) _ hl2 HA.out).mono ?_; rintro e w' ⟨v, rfl, hs, hbel⟩))
  go_ret
  exact ⟨_, rfl, hs, ⟨hbel.os, hbel.tape, hbel.output, hbel.size, hbel.block⟩⟩
theorem words_any (a : Option Addr) (n c : Nat) (l : List UInt8) (w : World) (h : BA w a n c l) :
    Calls Try.prog 31 #[.slice a n c] w (WordsR w (wordsOf l)) := by
  by_cases hn : 512 < n
  · exact words_long a n c l w h hn
  · cases hf : l.any forB with
    | true => exact words_bad a n c l w h (by omega) hf
    | false => exact words_ok a n c l w h (by omega) hf
end Go.Proofs.Ytmnahgeledddhaa
