/- Contracts and plain facts that the law leans on. -/
import Derived.KernelRfl
import Derived.Lib.FieldsP
import Derived.Laws.RangeString
import Derived.Test.YtpighkpdnifejaaDoorRows
import Derived.WalkKit
import Derived.LoopTactic
import Derived.Below
import Derived.Lib.Hide
import Derived.Lib.BytesEntry
import Derived.Deep.QuietTactic
import Derived.BigQuiet
import Derived.ChangeAlike
import Derived.Test.YtpighkpdnifejaaDoorShelf
import Derived.Laws.IdiomStrings
import Derived.Test.YtpighkpdnifejaaDoorEvB
import Derived.Laws.OwnMore
import Derived.Test.YtpighkpdnifejaaDoorPpCa
import Derived.OwnWalk
import Derived.Deep.Cut
import Derived.Lib.SlBytesConst
import Derived.Laws.AppendOwn
import Derived.Lib.SplitLaws
import Derived.Laws.RangeAny
import Derived.Shelf.GgClosure.StringsIndexFunc
import Derived.Lib.IndexMore
import Derived.Lib.IndexBytes
import Derived.Laws.Rows
import Derived.ProofKit
import Derived.SliceStrings
import Derived.WideShapes
import Derived.Carry
namespace Go.Tx
open Go.Lib
/-- One byte more: the word that stands open, and the words that are closed. -/
def stepW (p : Nat → Bool) (st : List UInt8 × List (List UInt8)) (c : UInt8) : List UInt8 × List (List UInt8) :=
  if p c.toNat = true then (if st.1 = [] then ([], st.2) else ([], st.2 ++ [st.1])) else (st.1 ++ [c], st.2)
def closeW (st : List UInt8 × List (List UInt8)) : List (List UInt8) := if st.1 = [] then st.2 else st.2 ++ [st.1]
/-- The words of bytes. -/
def wordsL (p : Nat → Bool) (l : List UInt8) : List (List UInt8) := closeW (l.foldl (stepW p) ([], []))
theorem take_size (s : ByteArray) : s.data.toList.take s.size = s.data.toList := List.take_of_length_le (Nat.le_refl _)
theorem stepW_nil {p : Nat → Bool} {u : List UInt8 × List (List UInt8)} {c : UInt8} (h : p c.toNat = true) (hu : u.1 = []) : stepW p u c = ([], u.2) := by simp [stepW, h, hu]
theorem stepW_end {p : Nat → Bool} {u : List UInt8 × List (List UInt8)} {c : UInt8} (h : p c.toNat = true) (hu : ¬ u.1 = []) : stepW p u c = ([], u.2 ++ [u.1]) := by simp [stepW, h, hu]
theorem stepW_in {p : Nat → Bool} {u : List UInt8 × List (List UInt8)} {c : UInt8} (h : ¬ p c.toNat = true) : stepW p u c = (u.1 ++ [c], u.2) := by simp [stepW, h]
theorem foldl_take_succ (p : Nat → Bool) (s : ByteArray) (k : Nat) (h : k < s.size) : (s.data.toList.take (k + 1)).foldl (stepW p) ([], []) = stepW p ((s.data.toList.take k).foldl (stepW p) ([], [])) s[k] := by
  rw [List.take_succ_eq_append_getElem (by simpa using h), List.foldl_append]
  rfl
/-- Spans and words tell the same. -/
def SameW (s : ByteArray) (pos : Nat) (st : Option Nat) (acc : List (Nat × Nat)) (u : List UInt8 × List (List UInt8)) : Prop :=
  (acc.map fun x => (s.extract x.1 x.2).data.toList) = u.2 ∧
  match st with
  | none => u.1 = []
  | some a => a < pos ∧ u.1 = (s.extract a pos).data.toList
theorem ext_list (s : ByteArray) (a b : Nat) : (s.extract a b).data.toList = (s.data.toList.take b).drop a := by
  simp [ByteArray.extract, ByteArray.copySlice, List.drop_take, List.extract]
theorem spans_words (p : Nat → Bool) (s : ByteArray) (ha : ∀ (k : Nat) (h : k < s.size), s[k].toNat < 128) : ∀ (f pos : Nat) (st : Option Nat) (acc : List (Nat × Nat)), pos ≤ s.size → s.size - pos ≤ f →
    SameW s pos st acc ((s.data.toList.take pos).foldl (stepW p) ([], [])) →
    SameW s s.size (spansFromP p s f pos st acc).2 (spansFromP p s f pos st acc).1 (s.data.toList.foldl (stepW p) ([], [])) := by
  intro f
  induction f with
  | zero =>
    intro pos st acc h1 h2 h3
    have : pos = s.size := by omega
    subst this
    simp only [spansFromP]
    rw [take_size] at h3
    exact h3
  | succ f ih =>
    intro pos st acc h1 h2 h3
    unfold spansFromP
    by_cases hp : pos < s.size
    · rw [if_pos hp, decode_ascii s pos hp (ha pos hp)]
      simp only
      have hstep := foldl_take_succ p s pos hp
      have hsnoc : ∀ a, a ≤ pos → (s.extract a (pos + 1)).data.toList = (s.extract a pos).data.toList ++ [s[pos]] := by
        intro a hle
        rw [ext_list, ext_list, List.take_succ_eq_append_getElem (by simpa using hp), List.drop_append_of_le_length (by simp; omega)]
        rfl
      obtain ⟨e1, e2⟩ := h3
      by_cases hc : p s[pos].toNat = true
      · rw [if_pos hc]
        cases st with
        | none =>
          simp only at e2 ⊢
          refine ih _ _ _ hp (by omega) ?_
          rw [hstep, stepW_nil hc e2]
          exact ⟨e1, rfl⟩
        | some a =>
          simp only at e2 ⊢
          refine ih _ _ _ hp (by omega) ?_
          have hne : ¬ ((s.data.toList.take pos).foldl (stepW p) ([], [])).1 = [] := by
            rw [e2.2, ext_list]
            intro hh
            have := congrArg List.length hh
            simp at this
            omega
          rw [hstep, stepW_end hc hne]
          refine ⟨?_, rfl⟩
          rw [List.map_append, e1, e2.2]
          rfl
      · rw [if_neg hc]
        cases st with
        | none =>
          simp only at e2 ⊢
          refine ih _ _ _ hp (by omega) ?_
          rw [hstep, stepW_in hc]
          refine ⟨e1, by omega, ?_⟩
          rw [e2, hsnoc pos (Nat.le_refl _), ext_list, List.drop_of_length_le (by simp; omega)]
        | some a =>
          simp only at e2 ⊢
          refine ih _ _ _ hp (by omega) ?_
          rw [hstep, stepW_in hc]
          refine ⟨e1, by omega, ?_⟩
          rw [e2.2, hsnoc a (by omega)]
    · have : pos = s.size := by omega
      subst this
      rw [if_neg hp]
      rw [take_size] at h3
      exact h3
theorem fields_words (p : Nat → Bool) (s : ByteArray) (ha : ∀ (k : Nat) (h : k < s.size), s[k].toNat < 128) : (goFieldsP p s).map (fun x => x.data.toList) = wordsL p s.data.toList := by
  have h := spans_words p s ha s.size 0 none [] (Nat.zero_le _) (by omega) ⟨rfl, rfl⟩
  unfold goFieldsP spansOfP wordsL closeW
  obtain ⟨e1, e2⟩ := h
  generalize spansFromP p s s.size 0 none [] = r at e1 e2
  obtain ⟨acc, st⟩ := r
  cases st with
  | none =>
    simp only at e1 e2
    rw [if_pos e2, ← e1]
    simp [closeSpans]
  | some a =>
    simp only at e1 e2
    have hne : ¬ (s.data.toList.foldl (stepW p) ([], [])).1 = [] := by
      rw [e2.2, ext_list]
      intro hh
      have := congrArg List.length hh
      simp at this
      omega
    rw [if_neg hne, ← e1, e2.2]
    simp [closeSpans]
end Go.Tx

namespace Go.Tx
open Go.RowKit
def blankN (x : Nat) : Bool := x == 32 || x == 9 || x == 13
def forB (c : UInt8) : Bool := decide (127 ≤ c.toNat) || (decide (c.toNat < 32) && !blankN c.toNat)
/-- A slice of bytes that reads as l. -/
structure BA (w : World) (a : Option Addr) (n c : Nat) (l : List UInt8) : Prop where
  len : l.length = n
  cap : n ≤ c
  max : c ≤ 9223372036854775807
  none : a = none → c = 0
  cell : ∀ x, a = some x → ∀ j b, l[j]? = some b → w.cell? (x.add j) = some (.int .u8 (b.toNat : Int))
theorem BA.below {w w' : World} {a : Option Addr} {n c : Nat} {l : List UInt8} (h : BA w a n c l) {B : Nat} (hb : Below B w w') (hlt : ∀ x, a = some x → x.block < B) : BA w' a n c l :=
  ⟨h.len, h.cap, h.max, h.none, fun x hx j b hj => by
    have hblk : (x.add j).block = x.block := by unfold Addr.add; split <;> rfl
    rw [hb.cell (by rw [hblk]; exact hlt x hx)]; exact h.cell x hx j b hj⟩
end Go.Tx
namespace Go.Proofs.YtpighkpdnifejaaDoor
open Go.RowKit Go.Lib Go.Tx
theorem ret_bool {a b : Bool} (h : a = b) : Ending.returned (.bool a) = .returned (.bool b) := by rw [h]
theorem isBlank_any (x : Nat) (w : World) :
    Calls Tryd.prog 42 #[.int .i32 x] w fun e w' => e = .returned (.bool (blankN x)) ∧ w' = w := by
  by_cases h1 : x = 32
  · subst h1
    go_enter Tryd.func42, Tryd.ntmps42
    go_wp2
    all_goals (go_ret; exact ⟨rfl, rfl⟩)
  by_cases h2 : x = 9
  · subst h2
    go_enter Tryd.func42, Tryd.ntmps42
    go_wp2
    all_goals (go_ret; exact ⟨rfl, rfl⟩)
  by_cases h3 : x = 13
  · subst h3
    go_enter Tryd.func42, Tryd.ntmps42
    go_wp2
    all_goals (go_ret; exact ⟨rfl, rfl⟩)
  have e0 : blankN x = false := by simp [blankN, h1, h2, h3]
  have e1 : ((x : Int) == 32) = false := by rw [beq_eq_false_iff_ne]; omega
  have e2 : ((x : Int) == 9) = false := by rw [beq_eq_false_iff_ne]; omega
  have e3 : ((x : Int) == 13) = false := by rw [beq_eq_false_iff_ne]; omega
  clear h1 h2 h3
  have E0 := Lib.hid e0
  clear e0
  go_enter Tryd.func42, Tryd.ntmps42
  go_wp2
  all_goals (go_ret; exact ⟨ret_bool E0.out.symm, rfl⟩)
set_option maxRecDepth 100000 in
theorem isForeign_any (c : UInt8) (w : World) :
    Calls Tryd.prog 39 #[.int .u8 (c.toNat : Int)] w fun e w' => e = .returned (.bool (forB c)) ∧ w' = w := by
  by_cases h1 : 127 ≤ (c.toNat : Int)
  · have E0 : Hid (forB c = true) := Lib.hid (by have : 127 ≤ c.toNat := by omega
                                                 simp [forB, this])
    go_enter Tryd.func39, Tryd.ntmps39
    go_wp2
    all_goals (go_ret; exact ⟨ret_bool E0.out.symm, rfl⟩)
  by_cases h2 : (c.toNat : Int) < 32
  · have E0 : Hid (forB c = !blankN c.toNat) := Lib.hid (by have a1 : ¬ 127 ≤ c.toNat := by omega
                                                            have a2 : c.toNat < 32 := by omega
                                                            simp [forB, a1, a2])
    have h3 : (c.toNat : Int) < 127 := by omega
    clear h1
    go_enter Tryd.func39, Tryd.ntmps39
    go_wp2_with (go_at_call 42; refine (isBlank_any c.toNat _).mono ?_; rintro e w' ⟨rfl, rfl⟩)
    all_goals (go_ret; exact ⟨ret_bool (by rw [E0.out, show decide (127 ≤ (c.toNat : Int)) = false from by rw [decide_eq_false_iff_not]; omega]; rfl), rfl⟩)
  · have E0 : Hid (forB c = false) := Lib.hid (by have a1 : ¬ 127 ≤ c.toNat := by omega
                                                  have a2 : ¬ c.toNat < 32 := by omega
                                                  simp [forB, a1, a2])
    have h3 : (c.toNat : Int) < 127 := by omega
    have h4 : 32 ≤ (c.toNat : Int) := by omega
    clear h1 h2
    go_enter Tryd.func39, Tryd.ntmps39
    go_wp2
    all_goals (go_ret; exact ⟨ret_bool (by rw [E0.out, decide_eq_false_iff_not]; omega), rfl⟩)
end Go.Proofs.YtpighkpdnifejaaDoor

namespace Go.Tx
open Go.Lib
def hashCut (l : List UInt8) : List UInt8 := l.takeWhile (· != 35)
theorem hashCut_eq (l : List UInt8) : hashCut l = if 0 ≤ indexByte l 35 then l.take (indexByte l 35).toNat else l := by
  induction l with
  | nil => simp [hashCut, indexByte]
  | cons c l ih =>
    have hge := indexByte_ge l 35
    unfold hashCut at ih ⊢
    by_cases hc : c = 35
    · subst hc; simp [indexByte]
    · have hb : (c == 35) = false := beq_eq_false_iff_ne.2 hc
      have hb2 : (c != 35) = true := by simp [hc]
      simp only [List.takeWhile_cons, hb2, if_true, indexByte, hb, Bool.false_eq_true, if_false]
      rw [ih]
      by_cases hr : 0 ≤ indexByte l 35
      · have h1 : (indexByte l 35 == -1) = false := beq_eq_false_iff_ne.2 (by omega)
        have h2 : (indexByte l 35 + 1).toNat = (indexByte l 35).toNat + 1 := by omega
        have h3 : 0 ≤ indexByte l 35 + 1 := by omega
        simp [hr, h1, h2, h3]
      · have h1 : (indexByte l 35 == -1) = true := by simp; omega
        simp [hr, h1]
theorem hashCut_snoc (l : List UInt8) (c : UInt8) : hashCut (l ++ [c]) = if (35 : UInt8) ∈ l ∨ c = 35 then hashCut l else l ++ [c] := by
  unfold hashCut
  induction l with
  | nil =>
    by_cases hc : c = 35 <;> simp [hc]
  | cons d l ih =>
    by_cases hd : d = 35
    · subst hd; simp
    · have hd' : ¬ (35 : UInt8) = d := fun h => hd h.symm
      have hb2 : (d != 35) = true := by simp [hd]
      simp only [List.cons_append, List.takeWhile_cons, hb2, if_true, ih, List.mem_cons, hd', false_or]
      split <;> rfl
theorem hashCut_none (l : List UInt8) (h : ¬ (35 : UInt8) ∈ l) : hashCut l = l := by
  unfold hashCut
  induction l with
  | nil => rfl
  | cons d l ih =>
    simp only [List.mem_cons, not_or] at h
    have hb2 : (d != 35) = true := by simp; exact fun h' => h.1 h'.symm
    simp only [List.takeWhile_cons, hb2, if_true, ih h.2]
def badSeg (l : List UInt8) : Bool := decide (512 < l.length) || l.any forB
def wordsOf (l : List UInt8) : List (List UInt8) := if badSeg l = true then [] else wordsL blankN (hashCut l)
theorem wordsOf_nil : wordsOf [] = [] := by decide
def tell (no : Nat) (l : List UInt8) : List (Nat × List (List UInt8)) := if wordsOf l = [] then [] else [(no, wordsOf l)]
/-- The lines that are told; 'cur': what stands ahead in the line. -/
def toldG : Nat → List UInt8 → List UInt8 → List (Nat × List (List UInt8))
  | no, cur, [] => tell no cur
  | no, cur, c :: l => if c = 10 then tell no cur ++ toldG (no + 1) [] l else toldG no (cur ++ [c]) l
theorem toldG_nl (i : Nat) : ∀ (l : List UInt8) (no : Nat) (cur : List UInt8), indexByte l 10 = i → toldG no cur l = tell no (cur ++ l.take i) ++ toldG (no + 1) [] (l.drop (i + 1)) := by
  induction i with
  | zero =>
    intro l no cur h
    cases l with
    | nil => simp [indexByte] at h
    | cons c l =>
      have hge := indexByte_ge l 10
      by_cases hc : c = 10
      · simp [toldG, hc]
      · have hb : (c == 10) = false := beq_eq_false_iff_ne.2 hc
        simp only [indexByte, hb, Bool.false_eq_true, if_false] at h
        split at h
        · cases h
        · rename_i h1
          have h1 : ¬ indexByte l 10 = -1 := by simpa using h1
          simp at h
          omega
  | succ i ih =>
    intro l no cur h
    cases l with
    | nil => simp [indexByte] at h; omega
    | cons c l =>
      by_cases hc : c = 10
      · subst hc; simp [indexByte] at h; omega
      · have hb : (c == 10) = false := beq_eq_false_iff_ne.2 hc
        simp only [indexByte, hb, Bool.false_eq_true, if_false] at h
        split at h
        · omega
        · have h' : indexByte l 10 = (i : Int) := by omega
          rw [toldG, if_neg hc, ih l no (cur ++ [c]) h']
          simp
theorem toldG_no : ∀ (l : List UInt8) (no : Nat) (cur : List UInt8), indexByte l 10 < 0 → toldG no cur l = tell no (cur ++ l) := by
  intro l
  induction l with
  | nil => intro no cur _; simp [toldG]
  | cons c l ih =>
    intro no cur h
    have hge := indexByte_ge l 10
    by_cases hc : c = 10
    · subst hc; simp [indexByte] at h
    · have hb : (c == 10) = false := beq_eq_false_iff_ne.2 hc
      simp only [indexByte, hb, Bool.false_eq_true, if_false] at h
      have h' : indexByte l 10 < 0 := by
        split at h
        · rename_i h1; have : indexByte l 10 = -1 := by simpa using h1
          omega
        · omega
      rw [toldG, if_neg hc, ih no (cur ++ [c]) h']
      simp
end Go.Tx

namespace Go.Proofs.YtpighkpdnifejaaDoor
open Go.RowKit Go.Lib Go.Tx Go.Proofs
theorem slcut_no (s : ByteArray) (w : World) (hs : s.size ≤ 4294967296) (hi : Lib.indexByte s.data.toList 35 < 0) :
    Calls Tryd.prog 61 #[.string s, .string ⟨#[35]⟩] w fun e w' => e = .returned (.tuple #[.string s, .string ⟨#[]⟩, .bool false]) ∧ w' = w := by
  go_enter Tryd.func61, Tryd.ntmps61
  go_wp2_with (go_at_call 73; refine (Tryd.stringslite_Index_one s 35 _).mono ?_; rintro e w' ⟨rfl, rfl⟩)
  go_ret3
  exact ⟨rfl, rfl⟩
theorem slcut_yes (s : ByteArray) (i : Nat) (w : World) (hs : s.size ≤ 4294967296) (hi : Lib.indexByte s.data.toList 35 = i) (hlt : i < s.size) :
    Calls Tryd.prog 61 #[.string s, .string ⟨#[35]⟩] w fun e w' => e = .returned (.tuple #[.string (s.extract 0 i), .string (s.extract (i + 1) s.size), .bool true]) ∧ ∃ q, w' = w.drewN q := by
  go_enter Tryd.func61, Tryd.ntmps61
  go_wp2_with (go_at_call 73; refine (Tryd.stringslite_Index_one s 35 _).mono ?_; rintro e w' ⟨rfl, rfl⟩)
  go_quiet (fail)
  go_wp2
  go_ret3
  exact ⟨rfl, _, rfl⟩
def CutR (s : ByteArray) (w : World) (e : Ending) (w' : World) : Prop := ∃ x y, e = .returned (.tuple #[.string ⟨(hashCut s.data.toList).toArray⟩, x, y]) ∧ ∃ q, w' = w.drewN q
theorem ret_cut {s t : ByteArray} {x y : Value} (h : s = t) : Ending.returned (.tuple #[.string s, x, y]) = .returned (.tuple #[.string t, x, y]) := by rw [h]
theorem indexByte_lt (l : List UInt8) (c : UInt8) : Lib.indexByte l c < l.length ∨ l = [] := by
  induction l with
  | nil => exact .inr rfl
  | cons d l ih =>
    left
    unfold Lib.indexByte
    have hge := Lib.indexByte_ge l c
    split
    · simp
    · split
      · simp; omega
      · rcases ih with h | h
        · simp; omega
        · subst h; simp [Lib.indexByte] at *
theorem slcut_any (s : ByteArray) (w : World) (hs : s.size ≤ 4294967296) : Calls Tryd.prog 61 #[.string s, .string ⟨#[35]⟩] w (CutR s w) := by
  have hl : s.data.toList.length = s.size := rfl
  by_cases hi : Lib.indexByte s.data.toList 35 < 0
  · refine (slcut_no s w hs hi).mono ?_
    rintro e w' ⟨rfl, rfl⟩
    refine ⟨_, _, ret_cut ?_, 0, rfl⟩
    rw [hashCut_eq, if_neg (by omega)]
  · have hlt := indexByte_lt s.data.toList 35
    have hlt : (Lib.indexByte s.data.toList 35).toNat < s.size := by
      rcases hlt with h | h
      · omega
      · rw [h] at hi; simp [Lib.indexByte] at hi
    refine (slcut_yes s (Lib.indexByte s.data.toList 35).toNat w hs (by omega) hlt).mono ?_
    rintro e w' ⟨rfl, q, rfl⟩
    refine ⟨_, _, ret_cut ?_, q, rfl⟩
    rw [hashCut_eq, if_pos (by omega)]
    have : s.extract 0 (Lib.indexByte s.data.toList 35).toNat = ⟨(s.data.toList.take (Lib.indexByte s.data.toList 35).toNat).toArray⟩ := by
      have := ext_list s 0 (Lib.indexByte s.data.toList 35).toNat
      rw [List.drop_zero] at this
      rw [← this]
    rw [this]
theorem scut_any (s : ByteArray) (w : World) (hs : s.size ≤ 4294967296) : Calls Tryd.prog 40 #[.string s, .string ⟨#[35]⟩] w (CutR s w) := by
  go_enter Tryd.func40, Tryd.ntmps40
  go_wp2_with (go_at_call 61; refine (slcut_any s _ hs).mono ?_; rintro e w' ⟨x, y, rfl, q, rfl⟩)
  go_ret3
  exact ⟨_, _, rfl, q, rfl⟩
def IdxR (l : List UInt8) (w : World) (e : Ending) (w' : World) : Prop := ∃ r : Int, e = .returned (.int .i64 r) ∧ (decide (0 ≤ r) = l.any forB) ∧ w' = w
theorem any_no (l : List UInt8) (k : Nat) (hk : l.length ≤ k) (h : ∀ j b, j < k → l[j]? = some b → forB b = false) : l.any forB = false := by
  rw [List.any_eq_false]
  intro b hb
  obtain ⟨j, hj, rfl⟩ := List.getElem_of_mem hb
  rw [h j _ (by omega) (List.getElem?_eq_getElem hj)]
  simp
theorem any_yes (l : List UInt8) (k : Nat) (b : UInt8) (hk : l[k]? = some b) (h : forB b = true) : l.any forB = true := by
  rw [List.any_eq_true]
  exact ⟨b, List.mem_of_getElem? hk, h⟩
set_option maxHeartbeats 1000000 in
set_option maxRecDepth 100000 in
theorem idx_any (a : Option Addr) (n c : Nat) (l : List UInt8) (w : World) (h : BA w a n c l) :
    Calls Tryd.prog 60 #[.slice a n c, .func (.func 39) #[] #[]] w (IdxR l w) := by
  have hcap := h.cap
  have hmax := h.max
  have hlen := h.len
  go_enter Tryd.func60, Tryd.ntmps60
  go_wp2
  go_loop [8] (fun i => ∃ k : Nat, k ≤ n ∧ i = .int .i64 k ∧ Hid (∀ j b, j < k → l[j]? = some b → forB b = false)) (fun i => n - (intOf i).toNat)
  case atStart => exact ⟨0, Nat.zero_le _, rfl, Lib.hid (by omega)⟩
  case round =>
    obtain ⟨k, hk, rfl, hall⟩ := hrel
    by_cases hlt : k < n
    · have hkl : k < l.length := by omega
      obtain ⟨x, rfl⟩ : ∃ x, a = some x := by
        cases a with
        | none => have := h.none rfl; omega
        | some x => exact ⟨x, rfl⟩
      have hcell := h.cell x rfl k l[k] (List.getElem?_eq_getElem hkl)
      have HK := Lib.hid (List.getElem?_eq_getElem hkl)
      clear hlen
      generalize l[k] = b at hcell HK
      cases hb : forB b with
      | true =>
        have HB := Lib.hid hb
        clear hb
        go_wp2_with (go_at_call 39; refine (isForeign_any b _).mono ?_; rw [HB.out]; rintro e w' ⟨rfl, rfl⟩)
        go_ret
        exact ⟨k, rfl, by rw [any_yes l k b HK.out HB.out]; simp, rfl⟩
      | false =>
        have HB := Lib.hid hb
        clear hb
        go_wp2_with (go_at_call 39; refine (isForeign_any b _).mono ?_; rw [HB.out]; rintro e w' ⟨rfl, rfl⟩)
        go_round
        case rel => exact ⟨k + 1, hlt, by go_num, Lib.hid (by
          intro j d hj hd
          by_cases e : j = k
          · subst e
            have := HK.out
            rw [this] at hd
            cases hd
            exact HB.out
          · exact hall.out j d (by omega) hd)⟩
        case measure => simp [intOf]; omega
    · go_wp2
      go_ret
      exact ⟨-1, rfl, by rw [any_no l k (by omega) hall.out]; rfl, rfl⟩
end Go.Proofs.YtpighkpdnifejaaDoor

namespace Go.Tx
/-- A slice of texts that reads as ws: nil, or a row from block B on. -/
def Strs (B : Nat) (w : World) (v : Value) (ws : List (List UInt8)) : Prop :=
  (v = .slice none 0 0 ∧ ws = []) ∨
  ∃ A, v = .slice (some ⟨A, 0, none⟩) ws.length ws.length ∧ B ≤ A ∧ w.ownsRow B 9 1 v ws.length (ws.map fun l => .string ⟨l.toArray⟩)
end Go.Tx
namespace Go.Proofs.YtpighkpdnifejaaDoor
open Go.RowKit Go.Lib Go.Tx Go.Proofs
theorem cf_any (a : Option Addr) (n c : Nat) (l : List UInt8) (w : World) (h : BA w a n c l) :
    Calls Tryd.prog 38 #[.slice a n c, .func (.func 39) #[] #[]] w fun e w' => e = .returned (.bool (l.any forB)) ∧ w' = w := by
  go_enter Tryd.func38, Tryd.ntmps38
  go_wp2_with (go_at_call 60; refine (idx_any a n c l _ h).mono ?_; rintro e w' ⟨r, rfl, hr, rfl⟩)
  go_ret
  exact ⟨rfl, rfl⟩
theorem ba_str (a : Option Addr) (n c : Nat) (l : List UInt8) (w : World) (h : BA w a n c l) : (convert 22 9 (.slice a n c)).run Tryd.prog w = .ok (.string ⟨l.toArray⟩) w := by
  have hlen := h.len
  cases a with
  | none =>
    have := h.none rfl
    have hcap := h.cap
    obtain rfl : c = 0 := by omega
    obtain rfl : n = 0 := by omega
    obtain rfl : l = [] := List.eq_nil_of_length_eq_zero hlen
    rw [run_convert_bytes_string w 22 9 5 none 0 0 Tryd.underlying22 Tryd.underlying5 Tryd.underlying9]
    rfl
  | some x =>
    subst hlen
    exact run_convert_bytes_back w 22 9 5 x c l Tryd.underlying22 Tryd.underlying5 Tryd.underlying9 fun j hj => h.cell x rfl j _ (List.getElem?_eq_getElem hj)
def WordsR (w : World) (ws : List (List UInt8)) (e : Ending) (w' : World) : Prop := ∃ v, e = .returned v ∧ Strs w.heap.size w' v ws ∧ Below w.heap.size w w'
theorem blank_pays (w : World) : PredAt Tryd.prog 42 #[] encR blankN w := fun W x _ => by
  unfold FnGives
  refine (isBlank_any x W).mono ?_
  rintro e w' ⟨rfl, rfl⟩
  exact ⟨rfl, 0, rfl⟩
theorem enter72 (args : Array Value) (w : World) : (callFunc 42 args).run Tryd.prog w = .ok (.enter 42 args) w := Go.Ev.enters_run (by kernel_rfl) args w
theorem ff_any (l : List UInt8) (w : World) (hl : l.length ≤ 512) (ha : ∀ b ∈ l, forB b = false) :
    Calls Tryd.prog 41 #[.string ⟨l.toArray⟩, .func (.func 42) #[] #[]] w (WordsR w (wordsL blankN l)) := by
  refine (Tryd.strings_FieldsFunc 42 #[] enter72 blankN ⟨l.toArray⟩ w (by show l.toArray.size ≤ _; simp; omega) (blank_pays w)).mono ?_
  rintro e w' ⟨A, rfl, hA, hown, hb⟩
  have hf := fields_words blankN ⟨l.toArray⟩ (fun k h => by
    have hk : k < l.length := by have h2 : k < l.toArray.size := h; simpa using h2
    have := ha l[k] (List.getElem_mem hk)
    have h2 : l[k].toNat < 127 := by
      simp only [forB, Bool.or_eq_false_iff, decide_eq_false_iff_not] at this
      omega
    show l.toArray[k].toNat < 128
    simp; omega)
  have hg : (goFieldsP blankN ⟨l.toArray⟩).map Value.string = (wordsL blankN l).map fun l => Value.string ⟨l.toArray⟩ := by
    have h1 : (⟨l.toArray⟩ : ByteArray).data.toList = l := by simp
    rw [h1] at hf
    rw [← hf, List.map_map]
    apply List.map_congr_left
    intro x _
    simp
  have hlen : (goFieldsP blankN ⟨l.toArray⟩).length = (wordsL blankN l).length := by
    have := congrArg List.length hg
    simpa using this
  rw [hg, hlen] at hown
  rw [hlen]
  exact ⟨_, rfl, .inr ⟨A, rfl, hA, hown⟩, hb⟩
theorem words_long (a : Option Addr) (n c : Nat) (l : List UInt8) (w : World) (h : BA w a n c l) (hn : 512 < n) :
    Calls Tryd.prog 26 #[.slice a n c] w (WordsR w (wordsOf l)) := by
  have hb : Hid (wordsOf l = []) := Lib.hid (by have := h.len; simp [wordsOf, badSeg, this, hn])
  have hcap := h.cap
  have hmax := h.max
  go_enter Tryd.func26, Tryd.ntmps26
  go_wp2
  go_ret
  exact ⟨_, rfl, .inl ⟨rfl, hb.out⟩, Below.refl _ _⟩
theorem words_bad (a : Option Addr) (n c : Nat) (l : List UInt8) (w : World) (h : BA w a n c l) (hn : n ≤ 512) (hf : l.any forB = true) :
    Calls Tryd.prog 26 #[.slice a n c] w (WordsR w (wordsOf l)) := by
  have hb : Hid (wordsOf l = []) := Lib.hid (by simp [wordsOf, badSeg, hf])
  have HF := Lib.hid hf
  clear hf
  go_enter Tryd.func26, Tryd.ntmps26
  go_wp2_with (go_at_call 38; refine (cf_any a n c l _ h).mono ?_; rw [HF.out]; rintro e w' ⟨rfl, rfl⟩)
  go_ret
  exact ⟨_, rfl, .inl ⟨rfl, hb.out⟩, Below.refl _ _⟩
theorem cut_any (l : List UInt8) (w : World) (hl : l.length ≤ 512) : Calls Tryd.prog 40 #[.string ⟨l.toArray⟩, .string ⟨#[35]⟩] w fun e w' => ∃ x y, e = .returned (.tuple #[.string ⟨(hashCut l).toArray⟩, x, y]) ∧ ∃ q, w' = w.drewN q := by
  refine (scut_any ⟨l.toArray⟩ w (by show l.toArray.size ≤ _; simp; omega)).mono ?_
  rintro e w' ⟨x, y, rfl, q, rfl⟩
  exact ⟨x, y, by simp, q, rfl⟩
theorem takeWhile_len {α : Type} (p : α → Bool) : ∀ l : List α, (l.takeWhile p).length ≤ l.length
  | [] => Nat.le_refl _
  | x :: l => by
    unfold List.takeWhile
    split
    · simp; exact takeWhile_len p l
    · simp
theorem takeWhile_mem {α : Type} (p : α → Bool) : ∀ (l : List α) (x : α), x ∈ l.takeWhile p → x ∈ l
  | [], x, h => by simp at h
  | y :: l, x, h => by
    unfold List.takeWhile at h
    split at h
    · rcases List.mem_cons.1 h with h | h
      · simp [h]
      · simp [takeWhile_mem p l x h]
    · simp at h
set_option maxRecDepth 100000 in
theorem words_ok (a : Option Addr) (n c : Nat) (l : List UInt8) (w : World) (h : BA w a n c l) (hn : n ≤ 512) (hf : l.any forB = false) :
    Calls Tryd.prog 26 #[.slice a n c] w (WordsR w (wordsOf l)) := by
  have hlen := h.len
  have hb : wordsOf l = wordsL blankN (hashCut l) := by
    have : ¬ 512 < l.length := by omega
    simp [wordsOf, badSeg, hf, this]
  have hl : l.length ≤ 512 := by omega
  have hl2 : (hashCut l).length ≤ 512 := Nat.le_trans (takeWhile_len _ l) hl
  have ha : ∀ b ∈ hashCut l, forB b = false := fun b hb => by
    rw [List.any_eq_false] at hf
    simpa using hf b (takeWhile_mem _ l b hb)
  have HF := Lib.hid hf
  have HA := Lib.hid ha
  rw [hb]
  have hconv := ba_str a n c l w h
  clear hf ha hb hlen
  go_enter Tryd.func26, Tryd.ntmps26
  go_wp2_with (first | (go_at_call 38; refine (cf_any a n c l _ h).mono ?_; rw [HF.out]; rintro e w' ⟨rfl, rfl⟩) | (go_at_call 40; refine (cut_any l _ hl).mono ?_; rintro e w' ⟨x, y, rfl, q, rfl⟩) | (go_at_call 41; refine (ff_any (hashCut l) _ hl2 HA.out).mono ?_; rintro e w' ⟨v, rfl, hs, hbel⟩))
  go_ret
  exact ⟨_, rfl, hs, ⟨hbel.os, hbel.tape, hbel.output, hbel.size, hbel.block⟩⟩
theorem words_any (a : Option Addr) (n c : Nat) (l : List UInt8) (w : World) (h : BA w a n c l) :
    Calls Tryd.prog 26 #[.slice a n c] w (WordsR w (wordsOf l)) := by
  by_cases hn : 512 < n
  · exact words_long a n c l w h hn
  · cases hf : l.any forB with
    | true => exact words_bad a n c l w h (by omega) hf
    | false => exact words_ok a n c l w h (by omega) hf
end Go.Proofs.YtpighkpdnifejaaDoor

namespace Go.Tx
open Go.RowKit
theorem own_below {B : Nat} {e : TypeId} {size n : Nat} {v : Value} {xs : List Value} {w w' : World} (h : w.ownsRow B e size v n xs) (hb : Below w.heap.size w w') : w'.ownsRow B e size v n xs := by
  refine ⟨h.1, ?_⟩
  rcases h.2 with h | ⟨g, cap, cur, h1, h2, h3, h4⟩
  · exact .inl h
  · exact .inr ⟨g, cap, cur, h1, h2, by rw [hb.block g (Array.getElem?_eq_some_iff.1 h3).1]; exact h3, h4⟩
theorem Strs.below {B : Nat} {v : Value} {ws : List (List UInt8)} {w w' : World} (h : Strs B w v ws) (hb : Below w.heap.size w w') : Strs B w' v ws := by
  rcases h with h | ⟨A, h1, h2, h3⟩
  · exact .inl h
  · exact .inr ⟨A, h1, h2, own_below h3 hb⟩
theorem own_base {B B' : Nat} {e : TypeId} {size n : Nat} {v : Value} {xs : List Value} {w : World} (h : w.ownsRow B e size v n xs) (hb : B' ≤ B) : w.ownsRow B' e size v n xs := by
  refine ⟨h.1, ?_⟩
  rcases h.2 with h | ⟨g, cap, cur, h1, h2, h4⟩
  · exact .inl h
  · exact .inr ⟨g, cap, cur, h1, Nat.le_trans hb h2, h4⟩
theorem Strs.base {B B' : Nat} {v : Value} {ws : List (List UInt8)} {w : World} (h : Strs B w v ws) (hb : B' ≤ B) : Strs B' w v ws := by
  rcases h with h | ⟨A, h1, h2, h3⟩
  · exact .inl h
  · exact .inr ⟨A, h1, Nat.le_trans hb h2, own_base h3 hb⟩
theorem Strs.shape {B : Nat} {v : Value} {ws : List (List UInt8)} {w : World} (h : Strs B w v ws) : ∃ p, v = .slice p ws.length ws.length := by
  rcases h with ⟨h, h2⟩ | ⟨A, h1, _⟩
  · subst h2; exact ⟨none, h⟩
  · exact ⟨_, h1⟩
theorem Strs.grown {B : Nat} {v : Value} {ws : List (List UInt8)} {w w' : World} {row : Option Nat} (h : Strs B w v ws) (hg : w.grownBy w' row) (hr : ∀ g, row = some g → ∃ cur fr, w.heap[g]? = some (.cells cur 53 fr)) : Strs B w' v ws := by
  rcases h with h | ⟨A, h1, h2, h3⟩
  · exact .inl h
  · refine .inr ⟨A, h1, h2, h3.kept hg ?_⟩
    cases row with
    | none => right; rw [h1]; simp [Value.ownBlock]
    | some g =>
      right
      rw [h1]
      simp only [Value.ownBlock, ne_eq, Option.some.injEq]
      rintro rfl
      obtain ⟨cur, fr, hc⟩ := hr A rfl
      rcases h3.2 with ⟨h4, _⟩ | ⟨g', cap, cur', h5, _, h6, _⟩
      · rw [h1] at h4; cases h4
      · rw [h1] at h5
        cases h5
        rw [hc] at h6
        cases h6
/-- A slice of lines that reads as T, in rows from block B on. -/
def LinesAt (B : Nat) (w : World) (v : Value) (T : List (Nat × List (List UInt8))) : Prop :=
  ∃ xs, w.ownsRow B 53 2 v T.length xs ∧ ∀ i no ws, T[i]? = some (no, ws) → xs[2 * i]? = some (.int .i64 (no : Int)) ∧ ∃ wv, xs[2 * i + 1]? = some wv ∧ Strs B w wv ws
theorem LinesAt.nil (B : Nat) (w : World) : LinesAt B w (.slice none 0 0) [] := ⟨[], World.ownsRow_nil w B 53 2, by simp⟩
theorem LinesAt.below {B : Nat} {v : Value} {T : List (Nat × List (List UInt8))} {w w' : World} (h : LinesAt B w v T) (hb : Below w.heap.size w w') : LinesAt B w' v T := by
  obtain ⟨xs, h1, h2⟩ := h
  refine ⟨xs, own_below h1 hb, fun i no ws hi => ?_⟩
  obtain ⟨a, wv, b, c⟩ := h2 i no ws hi
  exact ⟨a, wv, b, c.below hb⟩
theorem LinesAt.shape {B : Nat} {v : Value} {T : List (Nat × List (List UInt8))} {w : World} (h : LinesAt B w v T) : ∃ p c, v = .slice p T.length c := by
  obtain ⟨xs, h1, _⟩ := h
  rcases h1.2 with ⟨a, b⟩ | ⟨g, cap, cur, a, _⟩
  · exact ⟨none, 0, by rw [a, b]⟩
  · exact ⟨_, _, a⟩
/-- One line more. -/
theorem LinesAt.push {B : Nat} {v v' wv : Value} {T : List (Nat × List (List UInt8))} {w w' : World} {xs : List Value} {no : Nat} {ws : List (List UInt8)}
    (h1 : w.ownsRow B 53 2 v T.length xs) (h2 : ∀ i no ws, T[i]? = some (no, ws) → xs[2 * i]? = some (.int .i64 (no : Int)) ∧ ∃ wv, xs[2 * i + 1]? = some wv ∧ Strs B w wv ws)
    (hs : Strs B w wv ws) (ho : w'.ownsRow B 53 2 v' (T.length + 1) (xs ++ [.int .i64 (no : Int), wv])) (hg : w.grownBy w' v.ownBlock) : LinesAt B w' v' (T ++ [(no, ws)]) := by
  have hr : ∀ g, v.ownBlock = some g → ∃ cur fr, w.heap[g]? = some (.cells cur 53 fr) := by
    intro g hg
    rcases h1.2 with ⟨a, _⟩ | ⟨g', cap, cur, a, _, c, _⟩
    · rw [a] at hg; cases hg
    · rw [a] at hg
      cases hg
      exact ⟨cur, _, c⟩
  have hlen : xs.length = T.length * 2 := h1.1
  refine ⟨_, by simpa using ho, fun i no' ws' hi => ?_⟩
  by_cases hlt : i < T.length
  · rw [List.getElem?_append_left hlt] at hi
    obtain ⟨a, wv', b, c⟩ := h2 i no' ws' hi
    exact ⟨by rw [List.getElem?_append_left (by omega)]; exact a, wv', by rw [List.getElem?_append_left (by omega)]; exact b, c.grown hg hr⟩
  · have hle : i < (T ++ [(no, ws)]).length := (List.getElem?_eq_some_iff.1 hi).1
    have : i = T.length := by simp at hle; omega
    subst this
    rw [List.getElem?_append_right (Nat.le_refl _), Nat.sub_self] at hi
    cases hi
    refine ⟨?_, wv, ?_, hs.grown hg hr⟩
    · rw [List.getElem?_append_right (by omega), show 2 * T.length - xs.length = 0 from by omega]; rfl
    · rw [List.getElem?_append_right (by omega), show 2 * T.length + 1 - xs.length = 1 from by omega]; rfl
end Go.Tx

namespace Go.Tx
open Go.RowKit
def strV (l : List UInt8) : Value := .string ⟨l.toArray⟩
/-- A slice of texts that reads as ws, of whatever capacity. -/
def StrC (B : Nat) (w : World) (v : Value) (ws : List (List UInt8)) : Prop := w.ownsRow B 9 1 v ws.length (ws.map strV)
theorem StrC.shape {B : Nat} {w : World} {v : Value} {ws : List (List UInt8)} (h : StrC B w v ws) : ∃ p c, v = .slice p ws.length c := by
  rcases h.2 with ⟨a, b⟩ | ⟨g, cap, cur, a, _⟩
  · exact ⟨none, 0, by rw [a, b]⟩
  · exact ⟨_, _, a⟩
theorem StrC.read {B : Nat} {w : World} {v : Value} {ws : List (List UInt8)} (h : StrC B w v ws) :
    ∃ p c, v = .slice p ws.length c ∧ ws.length ≤ c ∧ c ≤ 9223372036854775807 ∧ ∀ (i : Nat) (l : List UInt8), ws[i]? = some l → ∃ g, p = some ⟨g, 0, none⟩ ∧ g < w.heap.size ∧ w.cell? ⟨g, i, none⟩ = some (.string ⟨l.toArray⟩) := by
  rcases h.2 with ⟨a, b⟩ | ⟨g, cap, cur, a, a2, a3, a4, a5, _⟩
  · refine ⟨none, 0, by rw [a, b], by omega, by omega, fun i l hi => ?_⟩
    have := (List.getElem?_eq_some_iff.1 hi).1
    omega
  · subst a
    refine ⟨_, cap, rfl, a4, a5, fun i l hi => ⟨g, rfl, (Array.getElem?_eq_some_iff.1 a3).1, ?_⟩⟩
    have hlt := (List.getElem?_eq_some_iff.1 hi).1
    rw [World.ownsRow.cellAt h i (by omega), List.getElem?_map, hi]
    rfl
end Go.Tx

namespace Go.Proofs.YtpighkpdnifejaaDoor
open Go.RowKit Go.Lib Go.Tx Go.Pol
theorem all_take {p : UInt8 → Bool} {l : List UInt8} {k : Nat} {b : UInt8} (h : l[k]? = some b) : (l.take (k + 1)).all p = ((l.take k).all p && p b) := by
  rw [stake_succ l k b h]; simp
theorem all_false {p : UInt8 → Bool} {l : List UInt8} {k : Nat} {b : UInt8} (h : l[k]? = some b) (hb : p b = false) : l.all p = false := by
  cases ha : l.all p with
  | false => rfl
  | true =>
    have := List.all_eq_true.1 ha b (List.mem_of_getElem? h)
    rw [hb] at this
    cases this
set_option maxHeartbeats 1000000 in
theorem source_any (s : ByteArray) (w : World) (hs : s.size ≤ 1000000) :
    Calls Tryd.prog 31 #[.string s] w fun e w' => e = .returned (.bool (okSrc s.data.toList)) ∧ w = w' := by
  have hlen : s.data.toList.length = s.size := rfl
  by_cases h1 : s.size < 1
  · have hz : okSrc s.data.toList = false := by unfold okSrc; rw [hlen]; simp; omega
    rw [hz]
    have h1' : (s.size : Int) < 1 := by omega
    go_enter Tryd.func31, Tryd.ntmps31
    go_wp2
    go_ret
    exact ⟨rfl, rfl⟩
  · by_cases h2 : 16 < s.size
    · have hz : okSrc s.data.toList = false := by unfold okSrc; rw [hlen]; simp; omega
      rw [hz]
      have h1' : ¬ (s.size : Int) < 1 := by omega
      have h2' : (16 : Int) < (s.size : Int) := by omega
      go_enter Tryd.func31, Tryd.ntmps31
      go_wp2
      go_ret
      exact ⟨rfl, rfl⟩
    · have hz : okSrc s.data.toList = s.data.toList.all srcB := by
        have : (1 ≤ s.data.toList.length ∧ s.data.toList.length ≤ 16) := by rw [hlen]; omega
        unfold okSrc
        rw [decide_eq_true this, Bool.true_and]
      have HZ := Lib.hid hz
      have h1' : ¬ (s.size : Int) < 1 := by omega
      have h2' : ¬ (16 : Int) < (s.size : Int) := by omega
      clear hz
      go_enter Tryd.func31, Tryd.ntmps31
      go_wp2
      clear h1' h2'
      go_loop [3] (fun i => ∃ k : Nat, k ≤ s.size ∧ i = .int .i64 k ∧ (s.data.toList.take k).all srcB = true) (fun i => s.size - (intOf i).toNat)
      case atStart => exact ⟨0, Nat.zero_le _, rfl, by simp⟩
      case round =>
        obtain ⟨k, hk, rfl, hA⟩ := hrel
        have HA := Lib.hid hA
        clear hA
        by_cases hlt : k < s.size
        · have hat : s.data.toList[k]? = some s[k] := by rw [List.getElem?_eq_getElem (by simpa using hlt)]; rfl
          have HAt := Lib.hid hat
          clear hat
          obtain ⟨c, hc⟩ : ∃ c : UInt8, s[k] = c := ⟨_, rfl⟩
          rw [hc] at HAt
          have hclt : (c.toNat : Int) ≤ 255 := by have := c.toNat_lt; omega
          have hr : (c.toNat : Int) < 45 ∨ (c.toNat : Int) = 45 ∨ (45 < (c.toNat : Int) ∧ (c.toNat : Int) < 48) ∨ (48 ≤ (c.toNat : Int) ∧ (c.toNat : Int) ≤ 57) ∨ (57 < (c.toNat : Int) ∧ (c.toNat : Int) < 97) ∨ (97 ≤ (c.toNat : Int) ∧ (c.toNat : Int) ≤ 122) ∨ 122 < (c.toNat : Int) := by omega
          have good : ∀ (hg : srcB c = true), (s.data.toList.take (k + 1)).all srcB = true := fun hg => by rw [all_take HAt.out, HA.out, hg]; rfl
          have bad : ∀ (hg : srcB c = false), okSrc s.data.toList = false := fun hg => by rw [HZ.out]; exact all_false HAt.out hg
          have HGood := Lib.hid good
          have HBad := Lib.hid bad
          clear good bad
          rcases hr with r1 | r1 | ⟨r1, r2⟩ | ⟨r1, r2⟩ | ⟨r1, r2⟩ | ⟨r1, r2⟩ | r1
          · have q1 : ((c.toNat : Int) == 45) = false := by simp; omega
            have q2 : decide ((97 : Int) ≤ (c.toNat : Int)) = false := by simp; omega
            have q3 : decide ((c.toNat : Int) ≤ 122) = true := by simp; omega
            have q4 : decide ((48 : Int) ≤ (c.toNat : Int)) = false := by simp; omega
            have q5 : decide ((c.toNat : Int) ≤ 57) = true := by simp; omega
            have HN := Lib.hid (HBad.out (by simp [srcB]; omega))
            clear r1
            go_wp2
            go_ret
            exact ⟨by rw [HN.out]; rfl, rfl⟩
          · have q1 : ((c.toNat : Int) == 45) = true := by simp; omega
            have q2 : decide ((97 : Int) ≤ (c.toNat : Int)) = false := by simp; omega
            have q3 : decide ((c.toNat : Int) ≤ 122) = true := by simp; omega
            have q4 : decide ((48 : Int) ≤ (c.toNat : Int)) = false := by simp; omega
            have q5 : decide ((c.toNat : Int) ≤ 57) = true := by simp; omega
            have HG := Lib.hid (HGood.out (by simp [srcB]; omega))
            clear r1
            go_wp2
            go_round
            case rel => exact ⟨k + 1, hlt, by go_num, HG.out⟩
            case measure => simp [intOf]; omega
          · have q1 : ((c.toNat : Int) == 45) = false := by simp; omega
            have q2 : decide ((97 : Int) ≤ (c.toNat : Int)) = false := by simp; omega
            have q3 : decide ((c.toNat : Int) ≤ 122) = true := by simp; omega
            have q4 : decide ((48 : Int) ≤ (c.toNat : Int)) = false := by simp; omega
            have q5 : decide ((c.toNat : Int) ≤ 57) = true := by simp; omega
            have HN := Lib.hid (HBad.out (by simp [srcB]; omega))
            clear r1
            go_wp2
            go_ret
            exact ⟨by rw [HN.out]; rfl, rfl⟩
          · have q1 : ((c.toNat : Int) == 45) = false := by simp; omega
            have q2 : decide ((97 : Int) ≤ (c.toNat : Int)) = false := by simp; omega
            have q3 : decide ((c.toNat : Int) ≤ 122) = true := by simp; omega
            have q4 : decide ((48 : Int) ≤ (c.toNat : Int)) = true := by simp; omega
            have q5 : decide ((c.toNat : Int) ≤ 57) = true := by simp; omega
            have HG := Lib.hid (HGood.out (by simp [srcB]; omega))
            clear r1
            go_wp2
            go_round
            case rel => exact ⟨k + 1, hlt, by go_num, HG.out⟩
            case measure => simp [intOf]; omega
          · have q1 : ((c.toNat : Int) == 45) = false := by simp; omega
            have q2 : decide ((97 : Int) ≤ (c.toNat : Int)) = false := by simp; omega
            have q3 : decide ((c.toNat : Int) ≤ 122) = true := by simp; omega
            have q4 : decide ((48 : Int) ≤ (c.toNat : Int)) = true := by simp; omega
            have q5 : decide ((c.toNat : Int) ≤ 57) = false := by simp; omega
            have HN := Lib.hid (HBad.out (by simp [srcB]; omega))
            clear r1
            go_wp2
            go_ret
            exact ⟨by rw [HN.out]; rfl, rfl⟩
          · have q1 : ((c.toNat : Int) == 45) = false := by simp; omega
            have q2 : decide ((97 : Int) ≤ (c.toNat : Int)) = true := by simp; omega
            have q3 : decide ((c.toNat : Int) ≤ 122) = true := by simp; omega
            have q4 : decide ((48 : Int) ≤ (c.toNat : Int)) = true := by simp; omega
            have q5 : decide ((c.toNat : Int) ≤ 57) = false := by simp; omega
            have HG := Lib.hid (HGood.out (by simp [srcB]; omega))
            clear r1
            go_wp2
            go_round
            case rel => exact ⟨k + 1, hlt, by go_num, HG.out⟩
            case measure => simp [intOf]; omega
          · have q1 : ((c.toNat : Int) == 45) = false := by simp; omega
            have q2 : decide ((97 : Int) ≤ (c.toNat : Int)) = true := by simp; omega
            have q3 : decide ((c.toNat : Int) ≤ 122) = false := by simp; omega
            have q4 : decide ((48 : Int) ≤ (c.toNat : Int)) = true := by simp; omega
            have q5 : decide ((c.toNat : Int) ≤ 57) = false := by simp; omega
            have HN := Lib.hid (HBad.out (by simp [srcB]; omega))
            clear r1
            go_wp2
            go_ret
            exact ⟨by rw [HN.out]; rfl, rfl⟩
        · obtain rfl : k = s.size := by omega
          go_wp2
          go_ret
          exact ⟨by rw [HZ.out, ← List.take_of_length_le (l := s.data.toList) (i := s.size) (by simp), HA.out]; rfl, rfl⟩
end Go.Proofs.YtpighkpdnifejaaDoor

namespace Go.Proofs.YtpighkpdnifejaaDoor
open Go.RowKit Go.Lib Go.Tx
theorem ret_int {k : IntKind} {a b : Int} (h : a = b) : Ending.returned (.int k a) = .returned (.int k b) := by rw [h]
theorem info9 : (Tryd.prog.info? 9).map (fun i => (i.zero, i.size, i.bytes)) = some (some (.string ⟨#[]⟩), 1, 16) := by kernel_rfl
theorem one_cell (w : World) (s : ByteArray) (e : TypeId) : ∀ j u, [Value.string s][j]? = some u → (w.alloc (.cells #[.string s] e)).cell? ((⟨w.heap.size, 0, none⟩ : Addr).add j) = some u := by
  intro j u hj
  have ha : (⟨w.heap.size, 0, none⟩ : Addr).add j = ⟨w.heap.size, j, none⟩ := by unfold Addr.add; split <;> simp_all
  rw [ha, World.cell?_alloc_new]
  simpa using hj
/-- What holds at the head of a round. -/
structure PI (w : World) (l : List UInt8) (c : UInt8) (n k F : Nat) (out fr : Value) (wr : World) (T : List (List UInt8)) : Prop where
  fr : fr = .int .i64 (F : Int)
  told : StrC w.heap.size wr out T
  go : k ≤ n → F ≤ k ∧ splitL c l = T ++ splitG c ((l.take k).drop F) (l.drop k)
  done : n < k → splitL c l = T
  few : T.length ≤ k
  bel : Below w.heap.size w wr
def SplitR (w : World) (T : List (List UInt8)) (e : Ending) (w' : World) : Prop := ∃ v, e = .returned v ∧ StrC w.heap.size w' v T ∧ Below w.heap.size w w'
theorem ext_drop (s : ByteArray) (F k : Nat) : Value.string (s.extract F k) = strV ((s.data.toList.take k).drop F) := by
  unfold strV
  congr 1
  apply ByteArray.ext
  apply Array.ext'
  simp [ByteArray.extract, ByteArray.copySlice, List.drop_take, List.extract]
theorem PI.skip {w wr : World} {l : List UInt8} {c b : UInt8} {n k F : Nat} {out fr : Value} {T : List (List UInt8)} (h : PI w l c n k F out fr wr T) (hl : l.length = n) (hb : l[k]? = some b) (hc : ¬ b = c) : PI w l c n (k + 1) F out fr wr T := by
  have hk := (List.getElem?_eq_some_iff.1 hb).1
  obtain ⟨h1, h2⟩ := h.go (by omega)
  exact ⟨h.fr, h.told, fun _ => ⟨by omega, by rw [h2, splitG_step hb h1 hc]⟩, fun h => by omega, by have := h.few; omega, h.bel⟩
theorem PI.push {w wr w5 : World} {s : ByteArray} {c : UInt8} {n k F : Nat} {out out' fr : Value} {T : List (List UInt8)} (h : PI w s.data.toList c n k F out fr wr T) (hl : s.data.toList.length = n) (hk : k ≤ n) (hb : k < n → s.data.toList[k]? = some c)
    (ho : w5.ownsRow w.heap.size 9 1 out' (T.length + 1) (T.map strV ++ [.string (s.extract F k)])) (hbel : Below w.heap.size w w5) : PI w s.data.toList c n (k + 1) (k + 1) out' (.int .i64 ((k + 1 : Nat) : Int)) w5 (T ++ [(s.data.toList.take k).drop F]) := by
  obtain ⟨h1, h2⟩ := h.go hk
  refine ⟨rfl, ?_, fun h3 => ⟨Nat.le_refl _, ?_⟩, fun h3 => ?_, by have := h.few; simp; omega, hbel⟩
  · unfold StrC
    rw [List.length_append, List.map_append]
    rw [ext_drop] at ho
    exact ho
  · rw [h2, splitG_cut (hb (by omega)) rfl, List.append_assoc]
    rfl
  · have : k = n := by omega
    subst this
    rw [h2, splitG_last hl]
set_option maxHeartbeats 2000000 in
set_option maxRecDepth 100000 in
theorem split_any (s : ByteArray) (c : UInt8) (w : World) (hn : s.size ≤ 1000000) :
    Calls Tryd.prog 50 #[.string s, .int .u8 (c.toNat : Int)] w (SplitR w (splitL c s.data.toList)) := by
  obtain ⟨i9, hi, hz0, hz1, hz2⟩ := info_parts info9
  have HL : Hid (s.data.toList.length = s.size) := Lib.hid rfl
  go_enter Tryd.func50, Tryd.ntmps50
  go_wp2
  go_loopw [5, 6, 7] (fun out fr i wr => ∃ k F T, k ≤ s.size + 1 ∧ i = .int .i64 (k : Nat) ∧ PI w s.data.toList c s.size k F out fr wr T) (fun _ _ i _ => s.size + 1 - (intOf i).toNat)
  case atStart => exact ⟨0, 0, [], Nat.zero_le _, rfl, rfl, World.ownsRow_nil _ _ _ _, fun _ => ⟨Nat.le_refl _, by simp [splitL]⟩, fun h => by omega, Nat.zero_le _, Below.refl _ _⟩
  case round =>
    obtain ⟨k, F, T, hk, rfl, hI⟩ := hrel
    have hfr := hI.fr
    subst hfr
    have hws := hI.bel.size
    have hfew := hI.few
    have HI := Lib.hid hI
    clear hI
    by_cases hlt : k ≤ s.size
    · have hF := (HI.out.go hlt).1
      by_cases hkn : k < s.size
      · have hb : s.data.toList[k]? = some s[k] := List.getElem?_eq_getElem hkn
        by_cases hc : s[k] = c
        · have HB := Lib.hid hb
          have HC := Lib.hid hc
          have ec : ((s[k].toNat : Int) == (c.toNat : Int)) = true := by rw [hc]; simp
          clear hb hc
          go_wp2_with (at_builtin; refine wpList_append_own _ rfl _ _ 44 rfl w.heap.size 9 i9 (.string ⟨#[]⟩) 1 16 Tryd.underlying44 hi hz0 hz1 hz2 rfl (by decide) _ _ _ rfl (HI.out.told.alloc _) ⟨wr.heap.size, 0, none⟩ 1 1 [.string (s.extract F k)] rfl rfl (one_cell _ _ _) (by simp [Value.oneCell']) (by unfold maxLen; omega) (by omega) (by show w.heap.size ≤ (wr.heap.push _).size; simp; omega) ?_; intro v' w5 hown5 hg5 _)
          go_roundw
          case rel => exact ⟨k + 1, k + 1, _, by omega, by go_num, HI.out.push HL.out hlt (fun _ => by rw [HB.out, HC.out]) hown5 ((HI.out.bel.alloc hws _).grown hg5 (by show w.heap.size ≤ (wr.heap.push _).size; simp; omega) (fun g hg => (HI.out.told.lt g hg).1))⟩
          case measure => simp [intOf]; omega
        · have HB := Lib.hid hb
          have HC := Lib.hid hc
          have ec : ((s[k].toNat : Int) == (c.toNat : Int)) = false := by rw [beq_eq_false_iff_ne]; intro h; exact hc (UInt8.toNat_inj.1 (by omega))
          clear hb hc
          go_wp2
          go_roundw
          case rel => exact ⟨k + 1, F, T, by omega, by go_num, HI.out.skip HL.out HB.out HC.out⟩
          case measure => simp [intOf]; omega
      · obtain rfl : k = s.size := by omega
        go_wp2_with (at_builtin; refine wpList_append_own _ rfl _ _ 44 rfl w.heap.size 9 i9 (.string ⟨#[]⟩) 1 16 Tryd.underlying44 hi hz0 hz1 hz2 rfl (by decide) _ _ _ rfl (HI.out.told.alloc _) ⟨wr.heap.size, 0, none⟩ 1 1 [.string (s.extract F s.size)] rfl rfl (one_cell _ _ _) (by simp [Value.oneCell']) (by unfold maxLen; omega) (by omega) (by show w.heap.size ≤ (wr.heap.push _).size; simp; omega) ?_; intro v' w5 hown5 hg5 _)
        go_roundw
        case rel => exact ⟨s.size + 1, s.size + 1, _, by omega, by go_num, HI.out.push HL.out hlt (fun h => by omega) hown5 ((HI.out.bel.alloc hws _).grown hg5 (by show w.heap.size ≤ (wr.heap.push _).size; simp; omega) (fun g hg => (HI.out.told.lt g hg).1))⟩
        case measure => simp [intOf]
    · obtain rfl : k = s.size + 1 := by omega
      have HE := Lib.hid (HI.out.done (by omega))
      go_wp2
      go_ret
      exact ⟨_, rfl, by rw [HE.out]; exact HI.out.told, HI.out.bel⟩
end Go.Proofs.YtpighkpdnifejaaDoor

namespace Go.Proofs.YtpighkpdnifejaaDoor
open Go.RowKit Go.Lib Go.Tx Go.Rb
theorem lowTake_at' (s : ByteArray) (k : Nat) (h : k < s.size) : (lowTake k s.data.toList)[k]? = some s[k] := lowTake_at k s.data.toList h
theorem ret_str {a b : List UInt8} (h : a = b) : Ending.returned (.string ⟨a.toArray⟩) = .returned (.string ⟨b.toArray⟩) := by rw [h]
theorem row_up (s : ByteArray) {wr : World} {b cap k : Nat} {x : Int} (h : k < s.size) (h1 : 65 ≤ (s[k].toNat : Int)) (h2 : (s[k].toNat : Int) ≤ 90) (hx : x = (s[k].toNat : Int) + 32) (hr : RowB 5 wr b cap (lowTake k s.data.toList)) :
    RowB 5 (wr.setCell ⟨b, k, none⟩ (.int .u8 x)) b cap (lowTake (k + 1) s.data.toList) := by
  have e1 : lowTake (k + 1) s.data.toList = (lowTake k s.data.toList).set k (low s[k]) := lowTake_step k s.data.toList h
  rw [e1, hx, ← low_up _ h1 h2]
  exact hr.set (by rw [lowTake_len]; exact h) _
theorem row_skip (s : ByteArray) {wr : World} {b cap k : Nat} (h : k < s.size) (h1 : low s[k] = s[k]) (hr : RowB 5 wr b cap (lowTake k s.data.toList)) : RowB 5 wr b cap (lowTake (k + 1) s.data.toList) := by
  have e1 : lowTake (k + 1) s.data.toList = lowTake k s.data.toList := lowTake_skip k s.data.toList h h1
  rw [e1]; exact hr
theorem row_str (s : ByteArray) {wr : World} {b cap k : Nat} (h : s.size ≤ k) (hr : RowB 5 wr b cap (lowTake k s.data.toList)) (c : Nat) :
    (convert 22 9 (.slice (some ⟨b, 0, none⟩) s.size c)).run Tryd.prog wr = .ok (.string ⟨(s.data.toList.map low).toArray⟩) wr := by
  have := hr.str (P := Tryd.prog) (src := 22) (dst := 9) c Tryd.underlying22 Tryd.underlying5 Tryd.underlying9
  rw [lowTake_all k _ h] at this
  have hl : (s.data.toList.map low).length = s.size := by simp
  rw [hl] at this
  exact this
set_option maxHeartbeats 1000000 in
set_option maxRecDepth 100000 in
theorem fold_any (s : ByteArray) (w : World) (hs : s.size ≤ maxLen) :
    Calls Tryd.prog 77 #[.string s] w fun e w' => e = .returned (.string ⟨(s.data.toList.map low).toArray⟩) ∧ Below w.heap.size w w' := by
  unfold maxLen at hs
  obtain ⟨cap, o, hconv, hcap, hrow⟩ := RowB.made (P := Tryd.prog) s w Tryd.underlying9 Tryd.underlying22 Tryd.underlying5
  have HR := Lib.hid hrow
  clear hrow
  go_enter Tryd.func77, Tryd.ntmps77
  go_wp2
  go_loopw [10] (fun i wr => ∃ k : Nat, k ≤ s.size ∧ i = .int .i64 k ∧ RowB 5 wr w.heap.size cap (lowTake k s.data.toList) ∧ Below w.heap.size w wr) (fun i _ => s.size - (intOf i).toNat)
  case atStart => exact ⟨0, Nat.zero_le _, rfl, by rw [lowTake_zero]; exact HR.out.drew, ((Below.refl _ _).alloc (Nat.le_refl _) _).drew⟩
  case round =>
    obtain ⟨k, hk, rfl, hrow, hbel⟩ := hrel
    by_cases hlt : k < s.size
    · have hcell := hrow.cell (lowTake_at' s k hlt)
      have hfz := hrow.frozen (j := k) (by omega)
      have HR1 := Lib.hid hrow
      clear hrow
      go_wp2
      all_goals
        go_roundw
        case rel => exact ⟨k + 1, by omega, by go_num, by first | exact row_up s hlt (by assumption) (by assumption) (by omega) HR1.out | exact row_skip s hlt (low_hi _ (by omega)) HR1.out | exact row_skip s hlt (low_lo _ (by omega)) HR1.out, by first | exact hbel | exact hbel.setCell (Nat.le_refl _) _⟩
        case measure => simp [intOf]; omega
    · have hback := row_str s (by omega) hrow cap
      clear hrow
      go_wp2
      go_ret
      exact ⟨rfl, hbel⟩
set_option maxHeartbeats 1000000 in
set_option maxRecDepth 100000 in
theorem rfold_any (s : ByteArray) (w : World) (hs : s.size ≤ maxLen) :
    Calls Tryd.prog 51 #[.string s] w fun e w' => e = .returned (.string ⟨(s.data.toList.map low).toArray⟩) ∧ Below w.heap.size w w' := by
  unfold maxLen at hs
  obtain ⟨cap, o, hconv, hcap, hrow⟩ := RowB.made (P := Tryd.prog) s w Tryd.underlying9 Tryd.underlying22 Tryd.underlying5
  have HR := Lib.hid hrow
  clear hrow
  go_enter Tryd.func51, Tryd.ntmps51
  go_wp2
  go_loopw [4] (fun i wr => ∃ k : Nat, k ≤ s.size ∧ i = .int .i64 k ∧ RowB 5 wr w.heap.size cap (lowTake k s.data.toList) ∧ Below w.heap.size w wr) (fun i _ => s.size - (intOf i).toNat)
  case atStart => exact ⟨0, Nat.zero_le _, rfl, by rw [lowTake_zero]; exact HR.out.drew, ((Below.refl _ _).alloc (Nat.le_refl _) _).drew⟩
  case round =>
    obtain ⟨k, hk, rfl, hrow, hbel⟩ := hrel
    by_cases hlt : k < s.size
    · have hcell := hrow.cell (lowTake_at' s k hlt)
      have hfz := hrow.frozen (j := k) (by omega)
      have HR1 := Lib.hid hrow
      clear hrow
      go_wp2
      all_goals
        go_roundw
        case rel => exact ⟨k + 1, by omega, by go_num, by first | exact row_up s hlt (by assumption) (by assumption) (by omega) HR1.out | exact row_skip s hlt (low_hi _ (by omega)) HR1.out | exact row_skip s hlt (low_lo _ (by omega)) HR1.out, by first | exact hbel | exact hbel.setCell (Nat.le_refl _) _⟩
        case measure => simp [intOf]; omega
    · have hback := row_str s (by omega) hrow cap
      clear hrow
      go_wp2
      go_ret
      exact ⟨rfl, hbel⟩
end Go.Proofs.YtpighkpdnifejaaDoor

namespace Go.Proofs.YtpighkpdnifejaaDoor
open Go.RowKit Go.Lib Go.Tx Go.Pol
/-- A slice of texts that reads as ws. -/
def TxtsAt (w : World) (v : Value) (ws : List (List UInt8)) : Prop := ∃ p c, v = .slice p ws.length c ∧ ∀ (i : Nat) (l : List UInt8), ws[i]? = some l → ∃ g, p = some ⟨g, 0, none⟩ ∧ w.cell? ⟨g, i, none⟩ = some (.string ⟨l.toArray⟩)
theorem TxtsAt.of {B : Nat} {w : World} {v : Value} {ws : List (List UInt8)} (h : StrC B w v ws) : TxtsAt w v ws := by
  obtain ⟨p, c, h1, _, _, h2⟩ := h.read
  refine ⟨p, c, h1, fun i l hl => ?_⟩
  obtain ⟨g, e, _, hc⟩ := h2 i l hl
  exact ⟨g, e, hc⟩
theorem at_pos {ws : List (List UInt8)} {s : List UInt8} {k : Nat} {l : List UInt8} (h : ws[k]? = some l) (hp : atV ws s = atG s (ws.drop k) k) : (l = s → atV ws s = (k : Int)) ∧ (¬ l = s → atV ws s = atG s (ws.drop (k + 1)) (k + 1)) := by
  rw [hp, atG_at h]
  exact ⟨fun e => if_pos e, fun e => if_neg e⟩
set_option maxHeartbeats 1000000 in
theorem at_any (v : Value) (ws : List (List UInt8)) (s : ByteArray) (w : World) (hv : TxtsAt w v ws) (hl : ws.length ≤ 1000000) :
    Calls Tryd.prog 19 #[v, .string s] w fun e w' => e = .returned (.int .i64 (atV ws s.data.toList)) ∧ w = w' := by
  obtain ⟨p, c, rfl, hat⟩ := hv
  have HAt := Lib.hid hat
  clear hat
  go_enter Tryd.func19, Tryd.ntmps19
  go_wp2
  go_loop [5] (fun i => ∃ k : Nat, k ≤ ws.length ∧ i = .int .i64 k ∧ atV ws s.data.toList = atG s.data.toList (ws.drop k) k) (fun i => ws.length - (intOf i).toNat)
  case atStart => exact ⟨0, Nat.zero_le _, rfl, rfl⟩
  case round =>
    obtain ⟨k, hk, rfl, hp⟩ := hrel
    by_cases hlt : k < ws.length
    · have hget : ws[k]? = some ws[k] := List.getElem?_eq_getElem hlt
      obtain ⟨g, rfl, hc⟩ := HAt.out k _ hget
      obtain ⟨l, hl2⟩ : ∃ l, ws[k] = l := ⟨_, rfl⟩
      rw [hl2] at hc hget
      have HP := Lib.hid (at_pos hget hp)
      have HPp := Lib.hid hp
      clear hp hget hl2
      by_cases hx : (⟨l.toArray⟩ : ByteArray) = s
      · have HX : Hid (l = s.data.toList) := Lib.hid (by rw [← hx])
        subst hx
        go_wp2
        go_ret
        exact ⟨by rw [HP.out.1 HX.out]; rfl, rfl⟩
      · have HX : Hid (¬ l = s.data.toList) := Lib.hid (fun e => hx (by rw [e]))
        have hq : ((⟨l.toArray⟩ : ByteArray).toList == s.toList) = false := by
          rw [Lib.toList_data, Lib.toList_data]
          simpa using HX.out
        have hq2 : (l == s.toList) = false := by
          rw [Lib.toList_data]
          simpa using HX.out
        go_wp2
        go_round
        case rel => exact ⟨k + 1, hlt, by go_num, HP.out.2 HX.out⟩
        case measure => simp [intOf]; omega
    · obtain rfl : k = ws.length := by omega
      have HP := Lib.hid (hp.trans (atG_end (Nat.le_refl _)))
      clear hp
      go_wp2
      go_ret
      exact ⟨by rw [HP.out]; rfl, rfl⟩
end Go.Proofs.YtpighkpdnifejaaDoor

namespace Go.Proofs.YtpighkpdnifejaaDoor
open Go.RowKit Go.Lib Go.Tx Go.Pol
theorem txts_lit (w : World) (ws : List (List UInt8)) (c : Nat) : TxtsAt (w.alloc (.cells (ws.map fun l => Value.string ⟨l.toArray⟩).toArray 9)) (.slice (some ⟨w.heap.size, 0, none⟩) ws.length c) ws := by
  refine ⟨_, c, rfl, fun i l hl => ⟨w.heap.size, rfl, ?_⟩⟩
  have := heap_alloc_new w (.cells (ws.map fun l => Value.string ⟨l.toArray⟩).toArray 9)
  unfold World.cell?
  rw [this]
  simp [hl]
theorem TxtsAt.below {w w' : World} {v : Value} {ws : List (List UInt8)} (h : TxtsAt w v ws) (hb : Below w.heap.size w w') : TxtsAt w' v ws := by
  obtain ⟨p, c, e, h⟩ := h
  refine ⟨p, c, e, fun i l hl => ?_⟩
  obtain ⟨g, e2, hc⟩ := h i l hl
  refine ⟨g, e2, ?_⟩
  have hlt : g < w.heap.size := by
    unfold World.cell? at hc
    split at hc
    · rename_i h; exact (Array.getElem?_eq_some_iff.1 h).1
    · cases hc
  exact (hb.cell (p := ⟨g, i, none⟩) hlt).trans hc
def RuleR (w : World) (r : Int × Bool × Int × Bool) (e : Ending) (w' : World) : Prop := e = .returned (.tuple #[.int .i64 r.1, .bool r.2.1, .int .i64 r.2.2.1, .bool r.2.2.2]) ∧ Below w.heap.size w w'
theorem ruleP_two {l x y : List UInt8} (h : splitL 61 ((bareR l).map low) = [x, y]) : ruleP l = (atV outW x, notR l, atV actW y, decide (0 ≤ atV outW x) && decide (0 < atV actW y)) := by unfold ruleP; rw [h]
theorem ruleP_not {l : List UInt8} (h : (splitL 61 ((bareR l).map low)).length ≠ 2) : ruleP l = (0, false, 0, false) := by
  unfold ruleP
  split
  · rename_i e; rw [e] at h; simp at h
  · rfl
set_option maxHeartbeats 2000000 in
set_option maxRecDepth 100000 in
theorem rule_core (s s' : ByteArray) (w : World) (hs : s.size ≤ 1000000) (hs2 : s'.size ≤ s.size) (hb : s'.data.toList = bareR s.data.toList)
    (hway : (s.size = 0 ∧ s' = s) ∨ (∃ h : 0 < s.size, s[0] = 33 ∧ s' = s.extract 1 s.size) ∨ (∃ h : 0 < s.size, ¬ s[0] = 33 ∧ s' = s)) (hn : notR s.data.toList = decide (∃ h : 0 < s.size, s[0] = 33)) :
    Calls Tryd.prog 33 #[.string s] w (RuleR w (ruleP s.data.toList)) := by
  obtain ⟨X, hX⟩ : ∃ X, s'.data.toList.map low = X := ⟨_, rfl⟩
  have hXl : X.length ≤ 1000000 := by rw [← hX, List.length_map]; show s'.size ≤ _; omega
  have HF : Hid (Calls Tryd.prog 51 #[.string s'] w fun e w' => e = .returned (.string ⟨X.toArray⟩) ∧ Below w.heap.size w w') := Lib.hid (by have := rfold_any s' w (by unfold maxLen; omega); rw [hX] at this; exact this)
  have HSp : Hid (∀ w, Calls Tryd.prog 50 #[.string ⟨X.toArray⟩, .int .u8 61] w (SplitR w (splitL 61 X))) := Lib.hid (fun w => split_any ⟨X.toArray⟩ 61 w (by simpa [ByteArray.size] using hXl))
  have hTl := splitG_len 61 X []
  obtain ⟨T, hT⟩ : ∃ T, splitL 61 X = T := ⟨_, rfl⟩
  have hTl2 : T.length ≤ 1000001 := by rw [← hT]; unfold splitL; omega
  rw [hT] at HSp
  have HR : Hid (splitL 61 ((bareR s.data.toList).map low) = T) := Lib.hid (by rw [← hb, hX, hT])
  obtain ⟨nb, hnb⟩ : ∃ nb, notR s.data.toList = nb := ⟨_, rfl⟩
  have HNb := Lib.hid hnb
  have HO : Hid (∀ (W : World) (x : List UInt8), Calls Tryd.prog 19 #[.slice (some ⟨W.heap.size, 0, none⟩) 4 4, .string ⟨x.toArray⟩] (W.alloc (.cells #[.string ⟨#[115, 117, 99, 99, 101, 115, 115]⟩, .string ⟨#[110, 111, 116, 102, 111, 117, 110, 100]⟩, .string ⟨#[117, 110, 97, 118, 97, 105, 108]⟩, .string ⟨#[116, 114, 121, 97, 103, 97, 105, 110]⟩] 9)) fun e w' => e = .returned (.int .i64 (atV outW x)) ∧ (W.alloc (.cells #[.string ⟨#[115, 117, 99, 99, 101, 115, 115]⟩, .string ⟨#[110, 111, 116, 102, 111, 117, 110, 100]⟩, .string ⟨#[117, 110, 97, 118, 97, 105, 108]⟩, .string ⟨#[116, 114, 121, 97, 103, 97, 105, 110]⟩] 9)) = w') := Lib.hid (fun W x => at_any _ outW ⟨x.toArray⟩ _ (txts_lit W outW 4) (by decide))
  have HA : Hid (∀ (W : World) (x : List UInt8), Calls Tryd.prog 19 #[.slice (some ⟨W.heap.size, 0, none⟩) 4 4, .string ⟨x.toArray⟩] (W.alloc (.cells #[.string ⟨#[]⟩, .string ⟨#[114, 101, 116, 117, 114, 110]⟩, .string ⟨#[99, 111, 110, 116, 105, 110, 117, 101]⟩, .string ⟨#[109, 101, 114, 103, 101]⟩] 9)) fun e w' => e = .returned (.int .i64 (atV actW x)) ∧ (W.alloc (.cells #[.string ⟨#[]⟩, .string ⟨#[114, 101, 116, 117, 114, 110]⟩, .string ⟨#[99, 111, 110, 116, 105, 110, 117, 101]⟩, .string ⟨#[109, 101, 114, 103, 101]⟩] 9)) = w') := Lib.hid (fun W x => at_any _ actW ⟨x.toArray⟩ _ (txts_lit W actW 4) (by decide))
  clear hX hXl hTl hT hb hs2
  rw [hnb] at hn
  clear hnb
  rcases hway with ⟨h0, rfl⟩ | ⟨h0, h1, rfl⟩ | ⟨h0, h1, rfl⟩
  · obtain rfl : nb = false := by rw [hn]; exact decide_eq_false (fun ⟨h, _⟩ => by omega)
    have hz : ¬ (0 : Int) < (s'.size : Int) := by omega
    clear hn h0
    go_enter Tryd.func33, Tryd.ntmps33
    go_upto_region 5 with (first | (go_at_call 51; refine HF.out.mono ?_; rintro e w2 ⟨rfl, hb2⟩; have HB2 := Lib.hid hb2; clear hb2) | (go_at_call 50; refine (HSp.out _).mono ?_; rintro e w3 ⟨v, rfl, hv, hb3⟩; obtain ⟨vp, vc, rfl⟩ := hv.shape; have HV := Lib.hid hv; have HB3 := Lib.hid (HB2.out.trans (hb3.mono HB2.out.size)); clear hv hb3))
    by_cases h2 : T.length = 2
    · obtain ⟨x, y, rfl⟩ : ∃ x y, T = [x, y] := by
        match T, h2 with
        | [x, y], _ => exact ⟨x, y, rfl⟩
      obtain ⟨p, c, he, _, _, hat⟩ := HV.out.read
      cases he
      obtain ⟨g, rfl, hgl, c0⟩ := hat 0 x rfl
      obtain ⟨g2, hg2, _, c1⟩ := hat 1 y rfl
      cases hg2
      have k0 : ∀ o, (w3.alloc o).cell? ⟨g, 0, none⟩ = some (.string ⟨x.toArray⟩) := fun o => (((Below.refl w3.heap.size w3).alloc (Nat.le_refl _) o).cell (p := ⟨g, 0, none⟩) hgl).trans c0
      have k1 : ∀ o o2, ((w3.alloc o).alloc o2).cell? ⟨g, 1, none⟩ = some (.string ⟨y.toArray⟩) := fun o o2 => ((((Below.refl w3.heap.size w3).alloc (Nat.le_refl _) o).alloc (by show w3.heap.size ≤ (w3.heap.push _).size; simp) o2).cell (p := ⟨g, 1, none⟩) hgl).trans c1
      have hbb : ∀ o o2, Below w.heap.size w ((w3.alloc o).alloc o2) := fun o o2 => (HB3.out.alloc HB3.out.size o).alloc (by have := HB3.out.size; show w.heap.size ≤ (w3.heap.push _).size; simp; omega) o2
      have HBb := Lib.hid hbb
      have H2 : Hid (ruleP s'.data.toList = (atV outW x, notR s'.data.toList, atV actW y, decide (0 ≤ atV outW x) && decide (0 < atV actW y))) := Lib.hid (ruleP_two HR.out)
      have HA3 : Hid (∀ o, Calls Tryd.prog 19 #[.slice (some ⟨w3.heap.size + 1, 0, none⟩) 4 4, .string ⟨y.toArray⟩] ((w3.alloc o).alloc (.cells #[.string ⟨#[]⟩, .string ⟨#[114, 101, 116, 117, 114, 110]⟩, .string ⟨#[99, 111, 110, 116, 105, 110, 117, 101]⟩, .string ⟨#[109, 101, 114, 103, 101]⟩] 9)) fun e w' => e = .returned (.int .i64 (atV actW y)) ∧ ((w3.alloc o).alloc (.cells #[.string ⟨#[]⟩, .string ⟨#[114, 101, 116, 117, 114, 110]⟩, .string ⟨#[99, 111, 110, 116, 105, 110, 117, 101]⟩, .string ⟨#[109, 101, 114, 103, 101]⟩] 9)) = w') := Lib.hid (fun o => by
        have := HA.out (w3.alloc o) y
        rw [show (w3.alloc o).heap.size = w3.heap.size + 1 from by show (w3.heap.push _).size = _; simp] at this
        exact this)
      clear hat hbb c0 c1 hgl h2
      go_upto_region 8 with (go_at_call 19; refine (HO.out w3 x).mono ?_; rintro e w4 ⟨rfl, rfl⟩)
      rcases Bool.eq_false_or_eq_true (decide (0 ≤ atV outW x)) with hp | hp
      · rw [hp] at H2
        go_wp2_with (go_at_call 19; refine (HA3.out _).mono ?_; rintro e w5 ⟨rfl, rfl⟩)
        rw [H2.out, HNb.out]
        exact bodyPost_ret (v := .tuple #[.int .i64 (atV outW x), .bool false, .int .i64 (atV actW y), .bool (true && decide (0 < atV actW y))]) (by simp [results, Tryd.results33, go_sem]) rfl ⟨rfl, HBb.out _ _⟩
      · rw [hp] at H2
        go_wp2_with (go_at_call 19; refine (HA3.out _).mono ?_; rintro e w5 ⟨rfl, rfl⟩)
        rw [H2.out, HNb.out]
        exact bodyPost_ret (v := .tuple #[.int .i64 (atV outW x), .bool false, .int .i64 (atV actW y), .bool (false && decide (0 < atV actW y))]) (by simp [results, Tryd.results33, go_sem]) rfl ⟨rfl, HBb.out _ _⟩
    · obtain ⟨n2, hn2⟩ : ∃ n2, T.length = n2 := ⟨_, rfl⟩
      have H2 : Hid (ruleP s'.data.toList = (0, false, 0, false)) := Lib.hid (ruleP_not (by rw [HR.out]; exact h2))
      rw [hn2] at h2 ⊢
      have hq : ((n2 : Int) != 2) = true := by simp; omega
      clear h2 hn2
      go_wp2
      rw [H2.out]
      exact bodyPost_ret (v := .tuple #[.int .i64 0, .bool false, .int .i64 0, .bool false]) (by simp [results, Tryd.results33, go_sem]) rfl ⟨rfl, HB3.out⟩
  · obtain rfl : nb = true := by rw [hn]; exact decide_eq_true ⟨h0, h1⟩
    have hz : (0 : Int) < (s.size : Int) := by omega
    have hq1 : ((s[0].toNat : Int) == 33) = true := by rw [h1]; rfl
    clear hn h1
    go_enter Tryd.func33, Tryd.ntmps33
    go_upto_region 5 with (first | (go_at_call 51; refine HF.out.mono ?_; rintro e w2 ⟨rfl, hb2⟩; have HB2 := Lib.hid hb2; clear hb2) | (go_at_call 50; refine (HSp.out _).mono ?_; rintro e w3 ⟨v, rfl, hv, hb3⟩; obtain ⟨vp, vc, rfl⟩ := hv.shape; have HV := Lib.hid hv; have HB3 := Lib.hid (HB2.out.trans (hb3.mono HB2.out.size)); clear hv hb3))
    by_cases h2 : T.length = 2
    · obtain ⟨x, y, rfl⟩ : ∃ x y, T = [x, y] := by
        match T, h2 with
        | [x, y], _ => exact ⟨x, y, rfl⟩
      obtain ⟨p, c, he, _, _, hat⟩ := HV.out.read
      cases he
      obtain ⟨g, rfl, hgl, c0⟩ := hat 0 x rfl
      obtain ⟨g2, hg2, _, c1⟩ := hat 1 y rfl
      cases hg2
      have k0 : ∀ o, (w3.alloc o).cell? ⟨g, 0, none⟩ = some (.string ⟨x.toArray⟩) := fun o => (((Below.refl w3.heap.size w3).alloc (Nat.le_refl _) o).cell (p := ⟨g, 0, none⟩) hgl).trans c0
      have k1 : ∀ o o2, ((w3.alloc o).alloc o2).cell? ⟨g, 1, none⟩ = some (.string ⟨y.toArray⟩) := fun o o2 => ((((Below.refl w3.heap.size w3).alloc (Nat.le_refl _) o).alloc (by show w3.heap.size ≤ (w3.heap.push _).size; simp) o2).cell (p := ⟨g, 1, none⟩) hgl).trans c1
      have hbb : ∀ o o2, Below w.heap.size w ((w3.alloc o).alloc o2) := fun o o2 => (HB3.out.alloc HB3.out.size o).alloc (by have := HB3.out.size; show w.heap.size ≤ (w3.heap.push _).size; simp; omega) o2
      have HBb := Lib.hid hbb
      have H2 : Hid (ruleP s.data.toList = (atV outW x, notR s.data.toList, atV actW y, decide (0 ≤ atV outW x) && decide (0 < atV actW y))) := Lib.hid (ruleP_two HR.out)
      have HA3 : Hid (∀ o, Calls Tryd.prog 19 #[.slice (some ⟨w3.heap.size + 1, 0, none⟩) 4 4, .string ⟨y.toArray⟩] ((w3.alloc o).alloc (.cells #[.string ⟨#[]⟩, .string ⟨#[114, 101, 116, 117, 114, 110]⟩, .string ⟨#[99, 111, 110, 116, 105, 110, 117, 101]⟩, .string ⟨#[109, 101, 114, 103, 101]⟩] 9)) fun e w' => e = .returned (.int .i64 (atV actW y)) ∧ ((w3.alloc o).alloc (.cells #[.string ⟨#[]⟩, .string ⟨#[114, 101, 116, 117, 114, 110]⟩, .string ⟨#[99, 111, 110, 116, 105, 110, 117, 101]⟩, .string ⟨#[109, 101, 114, 103, 101]⟩] 9)) = w') := Lib.hid (fun o => by
        have := HA.out (w3.alloc o) y
        rw [show (w3.alloc o).heap.size = w3.heap.size + 1 from by show (w3.heap.push _).size = _; simp] at this
        exact this)
      clear hat hbb c0 c1 hgl h2
      go_upto_region 8 with (go_at_call 19; refine (HO.out w3 x).mono ?_; rintro e w4 ⟨rfl, rfl⟩)
      rcases Bool.eq_false_or_eq_true (decide (0 ≤ atV outW x)) with hp | hp
      · rw [hp] at H2
        go_wp2_with (go_at_call 19; refine (HA3.out _).mono ?_; rintro e w5 ⟨rfl, rfl⟩)
        rw [H2.out, HNb.out]
        exact bodyPost_ret (v := .tuple #[.int .i64 (atV outW x), .bool true, .int .i64 (atV actW y), .bool (true && decide (0 < atV actW y))]) (by simp [results, Tryd.results33, go_sem]) rfl ⟨rfl, HBb.out _ _⟩
      · rw [hp] at H2
        go_wp2_with (go_at_call 19; refine (HA3.out _).mono ?_; rintro e w5 ⟨rfl, rfl⟩)
        rw [H2.out, HNb.out]
        exact bodyPost_ret (v := .tuple #[.int .i64 (atV outW x), .bool true, .int .i64 (atV actW y), .bool (false && decide (0 < atV actW y))]) (by simp [results, Tryd.results33, go_sem]) rfl ⟨rfl, HBb.out _ _⟩
    · obtain ⟨n2, hn2⟩ : ∃ n2, T.length = n2 := ⟨_, rfl⟩
      have H2 : Hid (ruleP s.data.toList = (0, false, 0, false)) := Lib.hid (ruleP_not (by rw [HR.out]; exact h2))
      rw [hn2] at h2 ⊢
      have hq : ((n2 : Int) != 2) = true := by simp; omega
      clear h2 hn2
      go_wp2
      rw [H2.out]
      exact bodyPost_ret (v := .tuple #[.int .i64 0, .bool false, .int .i64 0, .bool false]) (by simp [results, Tryd.results33, go_sem]) rfl ⟨rfl, HB3.out⟩
  · obtain rfl : nb = false := by rw [hn]; exact decide_eq_false (fun ⟨_, h⟩ => h1 h)
    have hz : (0 : Int) < (s'.size : Int) := by omega
    have hq1 : ((s'[0].toNat : Int) == 33) = false := by
      simp only [beq_eq_false_iff_ne, ne_eq]
      intro e
      exact h1 (by apply UInt8.toNat_inj.1; show s'[0].toNat = 33; omega)
    clear hn h1
    go_enter Tryd.func33, Tryd.ntmps33
    go_upto_region 5 with (first | (go_at_call 51; refine HF.out.mono ?_; rintro e w2 ⟨rfl, hb2⟩; have HB2 := Lib.hid hb2; clear hb2) | (go_at_call 50; refine (HSp.out _).mono ?_; rintro e w3 ⟨v, rfl, hv, hb3⟩; obtain ⟨vp, vc, rfl⟩ := hv.shape; have HV := Lib.hid hv; have HB3 := Lib.hid (HB2.out.trans (hb3.mono HB2.out.size)); clear hv hb3))
    by_cases h2 : T.length = 2
    · obtain ⟨x, y, rfl⟩ : ∃ x y, T = [x, y] := by
        match T, h2 with
        | [x, y], _ => exact ⟨x, y, rfl⟩
      obtain ⟨p, c, he, _, _, hat⟩ := HV.out.read
      cases he
      obtain ⟨g, rfl, hgl, c0⟩ := hat 0 x rfl
      obtain ⟨g2, hg2, _, c1⟩ := hat 1 y rfl
      cases hg2
      have k0 : ∀ o, (w3.alloc o).cell? ⟨g, 0, none⟩ = some (.string ⟨x.toArray⟩) := fun o => (((Below.refl w3.heap.size w3).alloc (Nat.le_refl _) o).cell (p := ⟨g, 0, none⟩) hgl).trans c0
      have k1 : ∀ o o2, ((w3.alloc o).alloc o2).cell? ⟨g, 1, none⟩ = some (.string ⟨y.toArray⟩) := fun o o2 => ((((Below.refl w3.heap.size w3).alloc (Nat.le_refl _) o).alloc (by show w3.heap.size ≤ (w3.heap.push _).size; simp) o2).cell (p := ⟨g, 1, none⟩) hgl).trans c1
      have hbb : ∀ o o2, Below w.heap.size w ((w3.alloc o).alloc o2) := fun o o2 => (HB3.out.alloc HB3.out.size o).alloc (by have := HB3.out.size; show w.heap.size ≤ (w3.heap.push _).size; simp; omega) o2
      have HBb := Lib.hid hbb
      have H2 : Hid (ruleP s'.data.toList = (atV outW x, notR s'.data.toList, atV actW y, decide (0 ≤ atV outW x) && decide (0 < atV actW y))) := Lib.hid (ruleP_two HR.out)
      have HA3 : Hid (∀ o, Calls Tryd.prog 19 #[.slice (some ⟨w3.heap.size + 1, 0, none⟩) 4 4, .string ⟨y.toArray⟩] ((w3.alloc o).alloc (.cells #[.string ⟨#[]⟩, .string ⟨#[114, 101, 116, 117, 114, 110]⟩, .string ⟨#[99, 111, 110, 116, 105, 110, 117, 101]⟩, .string ⟨#[109, 101, 114, 103, 101]⟩] 9)) fun e w' => e = .returned (.int .i64 (atV actW y)) ∧ ((w3.alloc o).alloc (.cells #[.string ⟨#[]⟩, .string ⟨#[114, 101, 116, 117, 114, 110]⟩, .string ⟨#[99, 111, 110, 116, 105, 110, 117, 101]⟩, .string ⟨#[109, 101, 114, 103, 101]⟩] 9)) = w') := Lib.hid (fun o => by
        have := HA.out (w3.alloc o) y
        rw [show (w3.alloc o).heap.size = w3.heap.size + 1 from by show (w3.heap.push _).size = _; simp] at this
        exact this)
      clear hat hbb c0 c1 hgl h2
      go_upto_region 8 with (go_at_call 19; refine (HO.out w3 x).mono ?_; rintro e w4 ⟨rfl, rfl⟩)
      rcases Bool.eq_false_or_eq_true (decide (0 ≤ atV outW x)) with hp | hp
      · rw [hp] at H2
        go_wp2_with (go_at_call 19; refine (HA3.out _).mono ?_; rintro e w5 ⟨rfl, rfl⟩)
        rw [H2.out, HNb.out]
        exact bodyPost_ret (v := .tuple #[.int .i64 (atV outW x), .bool false, .int .i64 (atV actW y), .bool (true && decide (0 < atV actW y))]) (by simp [results, Tryd.results33, go_sem]) rfl ⟨rfl, HBb.out _ _⟩
      · rw [hp] at H2
        go_wp2_with (go_at_call 19; refine (HA3.out _).mono ?_; rintro e w5 ⟨rfl, rfl⟩)
        rw [H2.out, HNb.out]
        exact bodyPost_ret (v := .tuple #[.int .i64 (atV outW x), .bool false, .int .i64 (atV actW y), .bool (false && decide (0 < atV actW y))]) (by simp [results, Tryd.results33, go_sem]) rfl ⟨rfl, HBb.out _ _⟩
    · obtain ⟨n2, hn2⟩ : ∃ n2, T.length = n2 := ⟨_, rfl⟩
      have H2 : Hid (ruleP s'.data.toList = (0, false, 0, false)) := Lib.hid (ruleP_not (by rw [HR.out]; exact h2))
      rw [hn2] at h2 ⊢
      have hq : ((n2 : Int) != 2) = true := by simp; omega
      clear h2 hn2
      go_wp2
      rw [H2.out]
      exact bodyPost_ret (v := .tuple #[.int .i64 0, .bool false, .int .i64 0, .bool false]) (by simp [results, Tryd.results33, go_sem]) rfl ⟨rfl, HB3.out⟩
end Go.Proofs.YtpighkpdnifejaaDoor

namespace Go.Proofs.YtpighkpdnifejaaDoor
open Go.RowKit Go.Lib Go.Tx Go.Pol
theorem head_at (s : ByteArray) (h : 0 < s.size) : s.data.toList.head? = some s[0] := by
  have : s.data.toList[0]? = some s[0] := by rw [List.getElem?_eq_getElem (by simpa using h)]; rfl
  rw [List.head?_eq_getElem?, this]
theorem rule_any (s : ByteArray) (w : World) (hs : s.size ≤ 1000000) : Calls Tryd.prog 33 #[.string s] w (RuleR w (ruleP s.data.toList)) := by
  by_cases h0 : s.size = 0
  · have hn : s.data.toList = [] := List.length_eq_zero_iff.1 (by simpa using h0)
    refine rule_core s s w hs (Nat.le_refl _) ?_ (.inl ⟨h0, rfl⟩) ?_
    · rw [hn]; rfl
    · rw [hn]
      symm
      exact decide_eq_false (fun ⟨h, _⟩ => by omega)
  · have hp : 0 < s.size := by omega
    have hh := head_at s hp
    by_cases h1 : s[0] = 33
    · refine rule_core s (s.extract 1 s.size) w hs (by rw [ByteArray.size_extract]; omega) ?_ (.inr (.inl ⟨hp, h1, rfl⟩)) ?_
      · unfold bareR
        rw [hh, h1, if_pos rfl]
        simp [ByteArray.extract, ByteArray.copySlice, List.extract, List.drop_one]
        exact List.take_of_length_le (by simp)
      · unfold notR
        rw [hh, h1]
        symm
        rw [decide_eq_true ⟨hp, h1⟩]
        rfl
    · refine rule_core s s w hs (Nat.le_refl _) ?_ (.inr (.inr ⟨hp, h1, rfl⟩)) ?_
      · unfold bareR
        rw [hh, if_neg (fun e => h1 (Option.some.inj e))]
      · unfold notR
        rw [hh]
        rw [decide_eq_false (p := (∃ h : 0 < s.size, s[0] = 33)) (fun ⟨_, h⟩ => h1 h)]
        exact decide_eq_false (fun e => h1 (Option.some.inj e))
end Go.Proofs.YtpighkpdnifejaaDoor

namespace Go.Proofs.YtpighkpdnifejaaDoor
open Go.RowKit Go.Lib Go.Tx Go.Pol
def putArr (arr : Array Value) (q : Nat) (d : Nat → Int) (o : Int) (n : Bool) (a : Int) : Nat → Array Value
  | 0 => arr
  | i + 1 => (putArr arr q d o n a i).setIfInBounds (q + 1 + i) (.int .i64 (putI i (d i) o n a))
theorem putArr_size (arr : Array Value) (q : Nat) (d : Nat → Int) (o : Int) (n : Bool) (a : Int) : ∀ i, (putArr arr q d o n a i).size = arr.size
  | 0 => rfl
  | i + 1 => by simp [putArr, putArr_size arr q d o n a i]
theorem putArr_at (arr : Array Value) (q : Nat) (d : Nat → Int) (o : Int) (n : Bool) (a : Int) (j : Nat) : ∀ i, (j < q + 1 ∨ q + 1 + i ≤ j) → (putArr arr q d o n a i)[j]? = arr[j]?
  | 0, _ => rfl
  | i + 1, h => by
    unfold putArr
    rw [Array.getElem?_setIfInBounds, if_neg (by omega)]
    exact putArr_at arr q d o n a j i (by omega)
theorem set_same {arr : Array Value} {k : Nat} {v : Value} (h : arr[k]? = some v) : arr.setIfInBounds k v = arr := by
  apply Array.ext_getElem?
  intro i
  rw [Array.getElem?_setIfInBounds]
  by_cases hi : k = i
  · subst hi
    rw [if_pos rfl, if_pos (Array.getElem?_eq_some_iff.1 h).1, h]
  · rw [if_neg hi]
theorem set_blk {w : World} {g j : Nat} {arr : Array Value} {e : TypeId} {fr : Nat × Nat} {v : Value} (h : w.heap[g]? = some (.cells arr e fr)) : (w.setCell ⟨g, j, none⟩ v).heap[g]? = some (.cells (arr.setIfInBounds j v) e fr) := by
  simp [World.setCell, Array.getElem?_modify, h]
theorem set_off {w : World} {g j k : Nat} {v : Value} (h : k ≠ g) : (w.setCell ⟨g, j, none⟩ v).heap[k]? = w.heap[k]? := by
  simp only [World.setCell, Array.getElem?_modify]
  rw [if_neg (fun e => h e.symm)]
/-- A step in a row of steps has been put at: its four actions, as far as number i. -/
structure PutA (w wr : World) (g q : Nat) (arr : Array Value) (e : TypeId) (d : Nat → Int) (o : Int) (n : Bool) (a : Int) (i : Nat) : Prop where
  blk : wr.heap[g]? = some (.cells (putArr arr q d o n a i) e (0, 0))
  rest : ∀ k, k ≠ g → wr.heap[k]? = w.heap[k]?
  os : wr.os = w.os
  tape : wr.tape = w.tape
  output : wr.output = w.output
  size : wr.heap.size = w.heap.size
section
variable {w wr : World} {g q : Nat} {arr : Array Value} {e : TypeId} {d : Nat → Int} {o : Int} {n : Bool} {a : Int} {i : Nat}
theorem PutA.skip (h : PutA w wr g q arr e d o n a i) (hd : arr[q + 1 + i]? = some (.int .i64 (d i))) (hs : putI i (d i) o n a = d i) : PutA w wr g q arr e d o n a (i + 1) := by
  refine ⟨?_, h.rest, h.os, h.tape, h.output, h.size⟩
  rw [putArr, hs, set_same ((putArr_at arr q d o n a (q + 1 + i) i (by omega)).trans hd)]
  exact h.blk
theorem PutA.set (h : PutA w wr g q arr e d o n a i) (v : Int) (hs : putI i (d i) o n a = v) : PutA w (wr.setCell ⟨g, q + 1 + i, none⟩ (.int .i64 v)) g q arr e d o n a (i + 1) := by
  refine ⟨?_, fun k hk => (set_off hk).trans (h.rest k hk), h.os, h.tape, h.output, ?_⟩
  · rw [putArr, hs]
    exact set_blk h.blk
  · have := h.size; simpa [World.setCell] using this
theorem PutA.set2 (h : PutA w wr g q arr e d o n a i) (u v : Int) (hs : putI i (d i) o n a = v) : PutA w ((wr.setCell ⟨g, q + 1 + i, none⟩ (.int .i64 u)).setCell ⟨g, q + 1 + i, none⟩ (.int .i64 v)) g q arr e d o n a (i + 1) := by
  refine ⟨?_, fun k hk => (set_off hk).trans ((set_off hk).trans (h.rest k hk)), h.os, h.tape, h.output, ?_⟩
  · rw [putArr, hs, set_blk (set_blk h.blk), Array.setIfInBounds_setIfInBounds]
  · have := h.size; simpa [World.setCell] using this
end
set_option maxHeartbeats 2000000 in
set_option maxRecDepth 100000 in
theorem put_any (w : World) (g q : Nat) (arr : Array Value) (e : TypeId) (d : Nat → Int) (o : Int) (n : Bool) (a : Int) (hb : w.heap[g]? = some (.cells arr e (0, 0))) (hd : ∀ i, i < 4 → arr[q + 1 + i]? = some (.int .i64 (d i))) :
    Calls Tryd.prog 34 #[.pointer (some ⟨g, q, none⟩), .int .i64 o, .bool n, .int .i64 a] w fun en w' => en = .returned (.tuple #[]) ∧ PutA w w' g q arr e d o n a 4 := by
  have HD := Lib.hid hd
  have HP0 : Hid (PutA w w g q arr e d o n a 0) := Lib.hid ⟨hb, fun _ _ => rfl, rfl, rfl, rfl, rfl⟩
  clear hb hd
  go_enter Tryd.func34, Tryd.ntmps34
  go_wp2
  go_loopw [8] (fun iv wr => ∃ i : Nat, i ≤ 4 ∧ iv = .int .i64 i ∧ PutA w wr g q arr e d o n a i) (fun iv _ => 4 - (intOf iv).toNat)
  case atStart => exact ⟨0, by decide, rfl, HP0.out⟩
  case round =>
    obtain ⟨i, hi, rfl, hP⟩ := hrel
    have HP := Lib.hid hP
    by_cases hlt : i < 4
    · have hdi := HD.out i hlt
      have hcell : wr.cell? ⟨g, q + 1 + i, none⟩ = some (.int .i64 (d i)) := by
        unfold World.cell?
        rw [hP.blk]
        exact (putArr_at arr q d o n a (q + 1 + i) i (by omega)).trans hdi
      have hfree : wr.frozen? ⟨g, q + 1 + i, none⟩ = false := by simp [World.frozen?, hP.blk]
      have hii : (0 : Int) ≤ (i : Int) := by omega
      have hi4 : (i : Int) < 4 := by omega
      have HDi := Lib.hid hdi
      clear hP hdi
      by_cases ho : (i : Int) = o
      · have e1 : ((i : Int) == o) = true := by simp [ho]
        have HO := Lib.hid ho
        clear ho
        cases n
        · by_cases ha : a = 3
          · subst ha
            by_cases h0 : i = 0
            · have hz : ¬ (0 : Int) < (i : Int) := by omega
              clear h0
              go_wp2
              go_roundw
              case rel => exact ⟨i + 1, hlt, by go_num, HP.out.set 3 (by unfold putI; rw [if_neg (by simp [HO.out]), if_neg (fun h => hz h.2)])⟩
              case measure => simp [intOf]; omega
            · have hpos : (0 : Int) < (i : Int) := by omega
              go_wp2
              go_roundw
              case rel => exact ⟨i + 1, hlt, by go_num, HP.out.set2 3 2 (by unfold putI; rw [if_neg (by simp [HO.out]), if_pos ⟨rfl, hpos⟩])⟩
              case measure => simp [intOf]; omega
          · have e3 : (a == 3) = false := by simp [ha]
            have HA := Lib.hid ha
            clear ha
            go_wp2
            go_roundw
            case rel => exact ⟨i + 1, hlt, by go_num, HP.out.set a (by unfold putI; rw [if_neg (by simp [HO.out]), if_neg (fun h => HA.out h.1)])⟩
            case measure => simp [intOf]; omega
        · go_wp2
          go_roundw
          case rel => exact ⟨i + 1, hlt, by go_num, HP.out.skip HDi.out (by unfold putI; rw [if_pos (by simp [HO.out])])⟩
          case measure => simp [intOf]; omega
      · have e1 : ((i : Int) == o) = false := by simp [ho]
        have HO := Lib.hid ho
        clear ho
        cases n
        · go_wp2
          go_roundw
          case rel => exact ⟨i + 1, hlt, by go_num, HP.out.skip HDi.out (by unfold putI; rw [if_pos (by simp [HO.out])])⟩
          case measure => simp [intOf]; omega
        · by_cases ha : a = 3
          · subst ha
            by_cases h0 : i = 0
            · have hz : ¬ (0 : Int) < (i : Int) := by omega
              clear h0
              go_wp2
              go_roundw
              case rel => exact ⟨i + 1, hlt, by go_num, HP.out.set 3 (by unfold putI; rw [if_neg (by simp [HO.out]), if_neg (fun h => hz h.2)])⟩
              case measure => simp [intOf]; omega
            · have hpos : (0 : Int) < (i : Int) := by omega
              go_wp2
              go_roundw
              case rel => exact ⟨i + 1, hlt, by go_num, HP.out.set2 3 2 (by unfold putI; rw [if_neg (by simp [HO.out]), if_pos ⟨rfl, hpos⟩])⟩
              case measure => simp [intOf]; omega
          · have e3 : (a == 3) = false := by simp [ha]
            have HA := Lib.hid ha
            clear ha
            go_wp2
            go_roundw
            case rel => exact ⟨i + 1, hlt, by go_num, HP.out.set a (by unfold putI; rw [if_neg (by simp [HO.out]), if_neg (fun h => HA.out h.1)])⟩
            case measure => simp [intOf]; omega
    · obtain rfl : i = 4 := by omega
      clear hP
      go_wp2
      go_end0
      exact ⟨rfl, HP.out⟩
end Go.Proofs.YtpighkpdnifejaaDoor

namespace Go.Rb
open Go.RowKit Go.Ev
def vbytes (l : List UInt8) : List Value := l.map fun c => .int .u8 (c.toNat : Int)
/-- What append reads: a text or a slice that reads as m. -/
structure Src (P : Program) (w : World) (v : Value) (m : List UInt8) : Prop where
  len : ∀ w' : World, (Builtin.lenOf v).run P w' = .ok m.length w'
  read : ∀ w' : World, w'.heap = w.heap → (Builtin.firstCells 1 m.length v).run P w' = .ok (vbytes m).toArray w'
theorem Src.str (P : Program) (w : World) (s : ByteArray) : Src P w (.string s) s.data.toList := by
  refine ⟨fun w' => by simp [Builtin.lenOf], fun w' _ => ?_⟩
  simp only [Builtin.firstCells, Sem.run_pure]
  congr 1
  apply Array.ext'
  simp [vbytes, ByteArray.extract, ByteArray.copySlice]
  exact List.take_of_length_le (by simp)
theorem Src.row {P : Program} {w : World} {b cap c : Nat} {l : List UInt8} (h : RowB 5 w b cap l) : Src P w (.slice (some ⟨b, 0, none⟩) l.length c) l := by
  refine ⟨fun w' => rfl, fun w' hw => ?_⟩
  refine run_firstCells_some w' 1 _ _ l.length c (vbytes l) (by simp [vbytes]) fun j v hj => ?_
  have ha : (⟨b, 0, none⟩ : Addr).add j = ⟨b, j, none⟩ := by unfold Addr.add; split <;> simp_all
  rw [ha]
  simp only [vbytes, List.getElem?_map, Option.map_eq_some_iff] at hj
  obtain ⟨c, hc, rfl⟩ := hj
  have := h.cell hc
  simpa [World.cell?, hw] using this
/-- Cells written over. -/
theorem run_stores' {P : Program} (b el : Nat) (fr : Nat × Nat) : ∀ (vs : List Value) (off i : Nat) (w : World) (arr : Array Value), w.heap[b]? = some (.cells arr el fr) → off + i + vs.length ≤ arr.size →
    (∀ i, i < arr.size → ¬ (fr.1 ≤ i ∧ i < fr.2)) → (∀ v ∈ vs, v.oneCell' = true) →
    ∃ w' arr', (storeCells ⟨b, off, none⟩ vs i).run P w = .ok () w' ∧ w'.heap[b]? = some (.cells arr' el fr) ∧ arr'.size = arr.size ∧ (∀ j, arr'[j]? = if off + i ≤ j ∧ j < off + i + vs.length then vs[j - (off + i)]? else arr[j]?) ∧
      (∀ k, k ≠ b → w'.heap[k]? = w.heap[k]?) ∧ w'.heap.size = w.heap.size ∧ w'.os = w.os ∧ w'.tape = w.tape ∧ w'.output = w.output
  | [], off, i, w, arr, hb, _, _, _ => ⟨w, arr, rfl, hb, rfl, fun j => by rw [if_neg (by simp <;> omega)], fun _ _ => rfl, rfl, rfl, rfl, rfl⟩
  | v :: vs, off, i, w, arr, hb, hl, hf, h1 => by
    simp only [List.length_cons] at hl
    have hcell : w.cell? ⟨b, off + i, none⟩ = some arr[off + i] := by simp [World.cell?, hb]
    have hfz : w.frozen? ⟨b, off + i, none⟩ = false := by
      simp only [World.frozen?, hb]
      have := hf (off + i) (by omega)
      cases h : decide (fr.1 ≤ off + i) && decide (off + i < fr.2)
      · rfl
      · simp at h; exact absurd h this
    have hb1 : (w.setCell ⟨b, off + i, none⟩ v).heap[b]? = some (.cells (arr.setIfInBounds (off + i) v) el fr) := by
      simp [World.setCell, Array.getElem?_modify, hb]
    obtain ⟨w', arr', e1, e2, e3, e4, e5, e6, e7, e8, e9⟩ := run_stores' b el fr vs off (i + 1) (w.setCell ⟨b, off + i, none⟩ v) (arr.setIfInBounds (off + i) v) hb1 (by simp; omega) (by simpa using hf) (fun u hu => h1 u (by simp [hu]))
    refine ⟨w', arr', ?_, e2, by simpa using e3, fun j => ?_, fun k hk => ?_, by simpa using e6, e7, e8, e9⟩
    · unfold storeCells
      simp only [Sem.run_bind]
      rw [add_off, run_store P w _ v .plain (h1 v (by simp)), hcell]
      simp only [hfz, Bool.false_eq_true, if_false, Result.andThen_ok]
      exact e1
    · rw [e4 j, Array.getElem?_setIfInBounds]
      simp only [List.length_cons]
      by_cases c1 : off + (i + 1) ≤ j ∧ j < off + (i + 1) + vs.length
      · rw [if_pos c1, if_pos (by omega), show j - (off + i) = (j - (off + (i + 1))) + 1 from by omega, List.getElem?_cons_succ]
      · rw [if_neg c1]
        by_cases c2 : off + i = j
        · rw [if_pos c2, if_pos (by omega), if_pos (by omega), show j - (off + i) = 0 from by omega]; rfl
        · rw [if_neg c2, if_neg (by omega)]
    · rw [e5 k hk]
      simp only [World.setCell, Array.getElem?_modify]
      rw [if_neg (by omega)]
theorem run_append_row {P : Program} {ts : Array TypeId} {ty t u : TypeId} {d : TypeDesc} {i : TypeInfo} {w : World} {b cap B : Nat} {l m : List UInt8} {v : Value}
    (h0 : ts[0]? = some t) (h1 : ts[1]? = some u) (ht : P.underlying t = some (.slice 5)) (hu : P.underlying u = some d) (hd : ∀ k, d ≠ .int k)
    (hi : P.info? 5 = some i) (hz0 : i.zero = some (.int .u8 0)) (hz1 : i.size = 1) (hz2 : i.bytes = 1)
    (hr : RowB 5 w b cap l) (hs : Src P w v m) (hB : B ≤ b) (hcap : cap ≤ 9223372036854775807) (hbd : l.length + m.length ≤ 1000000) :
    ∃ b' cap' w', (Builtin.append_ ts ty #[.slice (some ⟨b, 0, none⟩) l.length cap, v]).run P w = .ok (.slice (some ⟨b', 0, none⟩) (l.length + m.length) cap') w' ∧
      RowB 5 w' b' cap' (l ++ m) ∧ Below B w w' ∧ B ≤ b' ∧ cap' ≤ 9223372036854775807 ∧ l.length + m.length ≤ cap' := by
  have hr0 := hr
  obtain ⟨arr, lo, hi', hh, hmk, hsz, hle, hat⟩ := hr
  have hb : b < w.heap.size := (Array.getElem?_eq_some_iff.1 hh).1
  have hsrc := hs.read
  rw [← hz1] at hsrc
  by_cases hfit : l.length + m.length ≤ cap
  · have hrun := append_fits (P := P) (w := w) (ty := ty) (base := some ⟨b, 0, none⟩) (sLen := l.length) (sCap := cap) h0 h1 ht hu hd hi hs.len (hsrc w rfl) hfit
    have hadd : (⟨b, 0, none⟩ : Addr).add (l.length * i.size) = ⟨b, l.length, none⟩ := by
      rw [hz1]; unfold Addr.add; split <;> simp_all
    obtain ⟨w', arr', e1, e2, e3, e4, e5, e6, e7, e8, e9⟩ := run_stores' b 5 (lo, hi') (P := P) (vbytes m) l.length 0 w arr hh (by simp [vbytes]; omega) (fun j hj hc => by
        simp only at hc
        omega) (by simp [vbytes, Value.oneCell'])
    simp only [hadd, e1, Result.andThen_ok] at hrun
    refine ⟨b, cap, w', hrun, ⟨arr', lo, hi', e2, hmk, e3.trans hsz, by simpa using hfit, fun j c hj => ?_⟩, ⟨e7, e8, e9, by omega, fun k hk => e5 k (by omega)⟩, hB, hcap, hfit⟩
    rw [e4 j]
    have hjl := (List.getElem?_eq_some_iff.1 hj).1
    simp at hjl
    by_cases hlt : j < l.length
    · rw [if_neg (by omega)]
      rw [List.getElem?_append_left hlt] at hj
      exact hat j c hj
    · rw [if_pos (by simp [vbytes]; omega)]
      rw [List.getElem?_append_right (by omega)] at hj
      simp only [vbytes, List.getElem?_map, Nat.add_zero, hj, Option.map_some]
  · have hold := (Src.row (P := P) (c := cap) hr0).read
    rw [← hz1] at hold
    have hrun := append_grows (P := P) (w := w) (ty := ty) (base := some ⟨b, 0, none⟩) (sLen := l.length) (sCap := cap) (us := vbytes l) h0 h1 ht hu hd hi hz0 hs.len (hsrc w.drew rfl) (hold w.drew rfl) (by omega) (by rw [hz2]; omega) (by omega)
    have hge := grownCap_ge w (l.length + m.length) cap 5
    have hmx := grownCap_le_maxLen w (l.length + m.length) cap 5 (by unfold maxLen; omega)
    unfold maxLen at hmx
    refine ⟨w.heap.size, _, _, hrun, ⟨_, 0, 0, heap_alloc_new w.drew _, .inr rfl, ?_, by simpa using hge, fun j c hj => ?_⟩, (Below.refl _ _).drew.alloc (by show B ≤ w.heap.size; omega) _, by omega, by omega, hge⟩
    · simp [vbytes, Builtin.zeroCells, Value.cells]
      omega
    · have hjl := (List.getElem?_eq_some_iff.1 hj).1
      simp at hjl
      have e : (vbytes l).toArray ++ (vbytes m).toArray = (vbytes (l ++ m)).toArray := by simp [vbytes]
      rw [e, Array.getElem?_append_left (by simp [vbytes]; omega), List.getElem?_toArray]
      simp only [vbytes, List.getElem?_map, hj, Option.map_some]
end Go.Rb

namespace Go.Proofs.YtpighkpdnifejaaDoor
open Go.RowKit Go.Lib Go.Tx Go.Pol
def stpCells (s : Stp) : List Value := [.string ⟨s.src.toArray⟩, .int .i64 s.d0, .int .i64 s.d1, .int .i64 s.d2, .int .i64 s.d3]
/-- Steps of the call's own. -/
def StepsC (B : Nat) (w : World) (v : Value) (ls : List Stp) : Prop := w.ownsRow B 47 5 v ls.length (ls.flatMap stpCells)
theorem stp_len (ls : List Stp) : (ls.flatMap stpCells).length = ls.length * 5 := by
  induction ls with
  | nil => rfl
  | cons s ls ih => simp [stpCells, ih]; omega
theorem StepsC.shape {B : Nat} {w : World} {v : Value} {ls : List Stp} (h : StepsC B w v ls) : ∃ p c, v = .slice p ls.length c := by
  rcases h.2 with ⟨a, b⟩ | ⟨g, cap, cur, a, _⟩
  · exact ⟨none, 0, by rw [a, b]⟩
  · exact ⟨_, _, a⟩
theorem plain_any (s : ByteArray) (w : World) :
    Calls Tryd.prog 32 #[.string s] w fun e w' => e = .returned (.agg #[.string s, .int .i64 1, .int .i64 2, .int .i64 2, .int .i64 2]) ∧ Below w.heap.size w w' := by
  go_enter Tryd.func32, Tryd.ntmps32
  go_wp2
  exact bodyPost_ret (v := .agg #[.string s, .int .i64 1, .int .i64 2, .int .i64 2, .int .i64 2]) (by simp [results, Tryd.results32, go_sem]) rfl ⟨rfl, (Below.refl _ _).alloc (Nat.le_refl _) _⟩
/-- What put leaves of the last step's row. -/
theorem putArr_get (arr : Array Value) (q : Nat) (d : Nat → Int) (o : Int) (n : Bool) (a : Int) (i : Nat) : ∀ m, i < m → q + 1 + m ≤ arr.size → (putArr arr q d o n a m)[q + 1 + i]? = some (.int .i64 (putI i (d i) o n a))
  | 0, h, _ => by omega
  | m + 1, h, hs => by
    unfold putArr
    rw [Array.getElem?_setIfInBounds]
    by_cases hm : m = i
    · subst hm
      rw [if_pos rfl, putArr_size, if_pos (by omega)]
    · rw [if_neg (by omega)]
      exact putArr_get arr q d o n a i m (by omega) (by omega)
def dOf (s : Stp) (i : Nat) : Int := if i = 0 then s.d0 else if i = 1 then s.d1 else if i = 2 then s.d2 else s.d3
theorem flat_at (l0 : List Stp) (s : Stp) (i : Nat) (hi : i < 5) : ((l0 ++ [s]).flatMap stpCells)[l0.length * 5 + i]? = (stpCells s)[i]? := by
  rw [List.flatMap_append, List.getElem?_append_right (by rw [stp_len]; omega), stp_len]
  have e : l0.length * 5 + i - l0.length * 5 = i := by omega
  rw [e]
  simp
theorem StepsC.put {B : Nat} {w w' : World} {v : Value} {l0 : List Stp} {s : Stp} {g cap : Nat} {arr : Array Value} {o : Int} {n : Bool} {a : Int}
    (hv : v = .slice (some ⟨g, 0, none⟩) (l0 ++ [s]).length cap) (hB : B ≤ g) (hc1 : (l0 ++ [s]).length ≤ cap) (hc2 : cap ≤ maxLen) (hsz : arr.size = cap * 5) (hat : arr.toList.take ((l0 ++ [s]).length * 5) = (l0 ++ [s]).flatMap stpCells)
    (hp : PutA w w' g (l0.length * 5) arr 47 (dOf s) o n a 4) : StepsC B w' v (l0 ++ [putS s o n a]) := by
  have hln : (l0 ++ [putS s o n a]).length = (l0 ++ [s]).length := by simp
  have hl1 : (l0 ++ [s]).length = l0.length + 1 := by simp
  refine ⟨by rw [stp_len], .inr ⟨g, cap, _, by rw [hv, hln], hB, hp.blk, by rw [hln]; exact hc1, hc2, by rw [putArr_size]; exact hsz, ?_⟩⟩
  apply List.ext_getElem?
  intro j
  rw [hln]
  by_cases hj : j < (l0 ++ [s]).length * 5
  · rw [List.getElem?_take_of_lt hj, Array.getElem?_toList]
    have hold : arr[j]? = ((l0 ++ [s]).flatMap stpCells)[j]? := by rw [← hat, List.getElem?_take_of_lt hj, Array.getElem?_toList]
    by_cases hj2 : j < l0.length * 5 + 1
    · rw [putArr_at _ _ _ _ _ _ _ _ (.inl hj2), hold]
      by_cases hj3 : j < l0.length * 5
      · rw [List.flatMap_append, List.flatMap_append, List.getElem?_append_left (by rw [stp_len]; exact hj3), List.getElem?_append_left (by rw [stp_len]; exact hj3)]
      · have : j = l0.length * 5 + 0 := by omega
        rw [this, flat_at _ _ _ (by omega), flat_at _ _ _ (by omega)]
        rfl
    · obtain ⟨i, hi⟩ : ∃ i, j = l0.length * 5 + 1 + i := ⟨j - (l0.length * 5 + 1), by omega⟩
      have hi4 : i < 4 := by omega
      rw [hi, putArr_get _ _ _ _ _ _ i 4 hi4 (by rw [hsz]; omega), show l0.length * 5 + 1 + i = l0.length * 5 + (i + 1) from by omega, flat_at _ _ _ (by omega)]
      have hii : i = 0 ∨ i = 1 ∨ i = 2 ∨ i = 3 := by omega
      rcases hii with rfl | rfl | rfl | rfl <;> rfl
  · rw [List.getElem?_eq_none (by rw [List.length_take]; omega), List.getElem?_eq_none (by rw [stp_len, hln]; omega)]
theorem PutA.bel {B : Nat} {w wr : World} {g q : Nat} {arr : Array Value} {e : TypeId} {d : Nat → Int} {o : Int} {n : Bool} {a : Int} {i : Nat} (h : PutA w wr g q arr e d o n a i) (hB : B ≤ g) : Below B w wr :=
  ⟨h.os, h.tape, h.output, by rw [h.size]; exact Nat.le_refl _, fun k hk => h.rest k (by omega)⟩
end Go.Proofs.YtpighkpdnifejaaDoor

namespace Go.Proofs.YtpighkpdnifejaaDoor
open Go.RowKit Go.Lib Go.Tx Go.Pol
theorem info_parts' {x : Option TypeInfo} {z : Option Value} {n m : Nat} (h : x.map (fun i => (i.zero, i.size, i.bytes)) = some (z, n, m)) : ∃ i, x = some i ∧ i.zero = z ∧ i.size = n ∧ i.bytes = m := by
  cases x with
  | none => cases h
  | some i => simp at h; exact ⟨i, rfl, h.1, h.2.1, h.2.2⟩
theorem brackP_eq (x : List UInt8) (ws : List (List UInt8)) (i first : Nat) (l : List Stp) (count : Nat) : brackP x ws i first l count =
  if openW x ≠ [] ∧ (ruleP (openW x)).2.2.2 = false then .error (i + 1)
  else if closedW x then
    if (if openW x = [] then count else count + 1) = 0 then .error (i + 1)
    else lineP ws (i + 1) (if openW x = [] then l else putLast l (ruleP (openW x)).1 (ruleP (openW x)).2.1 (ruleP (openW x)).2.2.1) true
  else match ws with
    | [] => .error (first + 1)
    | y :: ws => brackP y ws (i + 1) first (if openW x = [] then l else putLast l (ruleP (openW x)).1 (ruleP (openW x)).2.1 (ruleP (openW x)).2.2.1) (if openW x = [] then count else count + 1) := by
  conv => lhs; rw [brackP.eq_def]
  cases ws <;> rfl
theorem ext_tail (X : ByteArray) : (X.extract 1 X.size).data.toList = X.data.toList.tail := by
  simp [ByteArray.extract, ByteArray.copySlice, List.extract, List.drop_one]
  exact List.take_of_length_le (by simp)
theorem ext_init (X : ByteArray) (m : Nat) (h : X.size = m + 1) : (X.extract 0 m).data.toList = X.data.toList.dropLast := by
  simp [ByteArray.extract, ByteArray.copySlice, List.extract, List.dropLast_eq_take]
  rw [show X.size - 1 = m from by omega]
  try omega
theorem last_at (X : ByteArray) (m : Nat) (h : X.size = m + 1) : X.data.toList.getLast? = some (X[m]'(by omega)) := by
  rw [List.getLast?_eq_getElem?]
  have hl : X.data.toList.length = X.size := rfl
  rw [hl, show X.size - 1 = m from by omega, List.getElem?_eq_getElem (by rw [hl]; omega)]
  rfl
def LineR (w : World) (r : Except Nat (List Stp)) (e : Ending) (w' : World) : Prop := match r with
  | .error c => e = .returned (.tuple #[.slice none 0 0, .int .i64 (c : Int)]) ∧ Below w.heap.size w w' ∧ 1 ≤ c
  | .ok l => ∃ v, e = .returned (.tuple #[v, .int .i64 0]) ∧ StepsC w.heap.size w' v l ∧ Below w.heap.size w w'
theorem LineR.bad {w w' : World} {r : Except Nat (List Stp)} {c : Nat} (h : r = .error c) (hb : Below w.heap.size w w') (hc : 1 ≤ c) : LineR w r (.returned (.tuple #[.slice none 0 0, .int .i64 (c : Int)])) w' := by subst h; exact ⟨rfl, hb, hc⟩
theorem LineR.good {w w' : World} {r : Except Nat (List Stp)} {l : List Stp} {v : Value} (h : r = .ok l) (hs : StepsC w.heap.size w' v l) (hb : Below w.heap.size w w') : LineR w r (.returned (.tuple #[v, .int .i64 0])) w' := by subst h; exact ⟨v, rfl, hs, hb⟩
theorem lineP_nil (i : Nat) (l : List Stp) (r : Bool) : lineP [] i l r = if l.length = 0 then .error 1 else .ok l := by rw [lineP]
theorem lineP_cons (x : List UInt8) (ws : List (List UInt8)) (i : Nat) (l : List Stp) (r : Bool) : lineP (x :: ws) i l r = if x.head? = some 91 then (if l.length = 0 ∨ r = true then .error (i + 1) else brackP x.tail ws i i l 0) else if okSrc x = false then .error (i + 1) else if l.length = 8 then .error (i + 1) else lineP ws (i + 1) (l ++ [plainS x]) false := by rw [lineP]
/-- The words of a line, as the walk reads them. -/
def WrdsAt (w : World) (p : Option Addr) (ws : List (List UInt8)) : Prop := ∀ (i : Nat) (l : List UInt8), ws[i]? = some l → ∃ g X, p = some ⟨g, 0, none⟩ ∧ w.cell? ⟨g, i, none⟩ = some (.string X) ∧ X.data.toList = l
theorem stp_new (w : World) (s : Stp) (e : TypeId) : ∀ (j : Nat) u, (stpCells s)[j]? = some u → (w.alloc (.cells (stpCells s).toArray e)).cell? ((⟨w.heap.size, 0, none⟩ : Addr).add j) = some u := by
  intro j u h
  have ha : (⟨w.heap.size, 0, none⟩ : Addr).add j = ⟨w.heap.size, j, none⟩ := by unfold Addr.add; split <;> simp_all
  rw [ha]
  unfold World.cell?
  rw [heap_alloc_new]
  simpa using h
theorem newN (w : World) (xs : List Value) (e : TypeId) : ∀ (j : Nat) u, xs[j]? = some u → (w.alloc (.cells xs.toArray e)).cell? ((⟨w.heap.size, 0, none⟩ : Addr).add j) = some u := by
  intro j u h
  have ha : (⟨w.heap.size, 0, none⟩ : Addr).add j = ⟨w.heap.size, j, none⟩ := by unfold Addr.add; split <;> simp_all
  rw [ha]
  unfold World.cell?
  rw [heap_alloc_new]
  simpa using h
theorem StepsC.push {B : Nat} {w : World} {v : Value} {l : List Stp} {x : List UInt8} {X : ByteArray} {n : Nat} (h : w.ownsRow B 47 5 v (n + 1) (l.flatMap stpCells ++ [.string X, .int .i64 1, .int .i64 2, .int .i64 2, .int .i64 2])) (hn : l.length = n) (hX : X.data.toList = x) : StepsC B w v (l ++ [plainS x]) := by
  have hx : X = ⟨x.toArray⟩ := by rw [← hX]
  unfold StepsC
  rw [List.length_append, hn, List.flatMap_append]
  rw [hx] at h
  exact h
/-- The last step may be put at. -/
theorem StepsC.last {B : Nat} {w : World} {v : Value} {ls : List Stp} {n0 : Nat} (h : StepsC B w v ls) (hn : ls.length = n0 + 1) :
    ∃ g cap, v = .slice (some ⟨g, 0, none⟩) (n0 + 1) cap ∧ B ≤ g ∧ n0 + 1 ≤ cap ∧ cap ≤ maxLen ∧ ∀ (o : Int) (n : Bool) (a : Int), Calls Tryd.prog 34 #[.pointer (some ⟨g, n0 * 5, none⟩), .int .i64 o, .bool n, .int .i64 a] w fun en w' => en = .returned (.tuple #[]) ∧ StepsC B w' v (putLast ls o n a) ∧ Below B w w' := by
  obtain ⟨l0, s, rfl⟩ : ∃ l0 s, ls = l0 ++ [s] := by
    rcases List.eq_nil_or_concat ls with rfl | ⟨l0, s, rfl⟩
    · simp at hn
    · exact ⟨l0, s, by simp⟩
  have hl0 : l0.length = n0 := by simpa using hn
  rcases h.2 with ⟨_, b⟩ | ⟨g, cap, arr, hv, hB, hg, hc1, hc2, hsz, hat⟩
  · rw [hn] at b; cases b
  · refine ⟨g, cap, by rw [hv, hn], hB, by rw [← hn]; exact hc1, hc2, fun o n a => ?_⟩
    have hq : ∀ i, i < 4 → arr[l0.length * 5 + 1 + i]? = some (.int .i64 (dOf s i)) := fun i hi => by
      have hj : l0.length * 5 + 1 + i < (l0 ++ [s]).length * 5 := by simp; omega
      have : arr[l0.length * 5 + 1 + i]? = ((l0 ++ [s]).flatMap stpCells)[l0.length * 5 + 1 + i]? := by rw [← hat, List.getElem?_take_of_lt hj, Array.getElem?_toList]
      rw [this, show l0.length * 5 + 1 + i = l0.length * 5 + (i + 1) from by omega, flat_at _ _ _ (by omega)]
      have hii : i = 0 ∨ i = 1 ∨ i = 2 ∨ i = 3 := by omega
      rcases hii with rfl | rfl | rfl | rfl <;> rfl
    rw [← hl0]
    refine (put_any w g (l0.length * 5) arr _ (dOf s) o n a hg hq).mono ?_
    rintro en w' ⟨he, hp⟩
    have hpl : putLast (l0 ++ [s]) o n a = l0 ++ [putS s o n a] := by simp [putLast]
    rw [hpl]
    exact ⟨he, StepsC.put hv hB hc1 hc2 hsz hat hp, hp.bel hB⟩
theorem StepsC.below {B : Nat} {w w' : World} {v : Value} {ls : List Stp} (h : StepsC B w v ls) (hb : Below w.heap.size w w') : StepsC B w' v ls := own_below h hb
theorem StepsC.later {B : Nat} {w : World} {v : Value} {ls : List Stp} {n0 n : Nat} (h : StepsC B w v ls) (hn : ls.length = n) (h1 : n = n0 + 1) :
    ∃ g cap, v = .slice (some ⟨g, 0, none⟩) n cap ∧ n ≤ cap ∧ ∀ W, Below w.heap.size w W → ∀ (o : Int) (n : Bool) (a : Int), Calls Tryd.prog 34 #[.pointer (some ⟨g, n0 * 5, none⟩), .int .i64 o, .bool n, .int .i64 a] W fun en w' => en = .returned (.tuple #[]) ∧ StepsC B w' v (putLast ls o n a) ∧ Below B W w' := by
  subst h1
  obtain ⟨g, cap, hv, _, hc, _, _⟩ := h.last hn
  refine ⟨g, cap, hv, hc, fun W hW o n a => ?_⟩
  obtain ⟨g2, cap2, hv2, _, _, _, hp⟩ := (h.below hW).last hn
  rw [hv] at hv2
  cases hv2
  exact hp o n a
set_option maxHeartbeats 8000000 in
set_option maxRecDepth 100000 in
theorem line_any (p : Option Addr) (cp : Nat) (ws : List (List UInt8)) (w : World) (hlt : ∀ g q, p = some ⟨g, q, none⟩ → g < w.heap.size) (hv : WrdsAt w p ws) (hw : ws.length ≤ 1000) (h1 : 1 ≤ ws.length) (hne : ∀ x ∈ ws, x ≠ [] ∧ x.length ≤ 1000000) (N : Nat) (hN : ws.length = N) :
    Calls Tryd.prog 21 #[.slice p N cp] w (LineR w (lineP (ws.drop 1) 1 [] false)) := by
  obtain ⟨ANS, hA⟩ : ∃ r, lineP (ws.drop 1) 1 [] false = r := ⟨_, rfl⟩
  rw [hA]
  have HA0 := Lib.hid hA
  have HV : Hid (∀ wr, Below w.heap.size w wr → ∀ i, i < N → ∃ g X x, p = some ⟨g, 0, none⟩ ∧ wr.cell? ⟨g, i, none⟩ = some (.string X) ∧ X.data.toList = x ∧ ws.drop i = x :: ws.drop (i + 1) ∧ 0 < X.size ∧ X.size ≤ 1000000) := Lib.hid (fun wr hb i hi => by
    have hg : ws[i]? = some ws[i] := List.getElem?_eq_getElem (by omega)
    obtain ⟨g, X, hp, hc, hx⟩ := hv i _ hg
    obtain ⟨n1, n2⟩ := hne _ (List.getElem_mem (by omega : i < ws.length))
    have hXs : X.size = ws[i].length := by rw [← hx]; rfl
    exact ⟨g, X, _, hp, (hb.cell (p := ⟨g, i, none⟩) (hlt g 0 hp)).trans hc, hx, List.drop_eq_getElem_cons (by omega), by rw [hXs]; exact List.length_pos_iff.2 n1, by rw [hXs]; exact n2⟩)
  have HN : Hid (ws.length = N) := Lib.hid hN
  have hN1 : N ≤ 1000 := by omega
  have hN2 : 1 ≤ N := by omega
  obtain ⟨i9, hi, hz0, hz1, hz2⟩ := info_parts' (show (Tryd.prog.info? 47).map (fun i => (i.zero, i.size, i.bytes)) = some (some (.agg #[.string ⟨#[]⟩, .int .i64 0, .int .i64 0, .int .i64 0, .int .i64 0]), 5, 48) by kernel_rfl)
  clear hA hv hne hlt hw h1 hN
  go_enter Tryd.func21, Tryd.ntmps21
  go_wp2
  go_loopw [4, 5, 6] (fun lv rv iv wr => ∃ (i : Nat) (l : List Stp) (r : Bool), 1 ≤ i ∧ i ≤ N ∧ rv = .bool r ∧ iv = .int .i64 i ∧ StepsC w.heap.size wr lv l ∧ Below w.heap.size w wr ∧ l.length ≤ 8 ∧ ANS = lineP (ws.drop i) i l r) (fun _ _ iv _ => N - (intOf iv).toNat)
  case atStart => exact ⟨1, [], false, Nat.le_refl _, hN2, rfl, rfl, World.ownsRow_nil _ _ _ _, Below.refl _ _, by decide, HA0.out.symm⟩
  case round =>
    obtain ⟨i, l, r, hi1, hiN, rfl, rfl, hS, hB, hl8, hA⟩ := hrel
    obtain ⟨lp, lc, rfl⟩ := hS.shape
    have HS := Lib.hid hS
    have HB := Lib.hid hB
    clear hS hB
    by_cases hlt : i < N
    · obtain ⟨g, X, x, rfl, hcell, hXx, hdr, hX0, hXs⟩ := HV.out _ HB.out i hlt
      rw [hdr, lineP_cons] at hA
      have hhead := head_at X hX0
      rw [hXx] at hhead
      obtain ⟨c, hc⟩ : ∃ c : UInt8, X[0] = c := ⟨_, rfl⟩
      rw [hc] at hhead
      have hii : (0 : Int) ≤ (i : Int) := by omega
      have him : (i : Int) < (N : Int) := by omega
      have HXx := Lib.hid hXx
      clear hXx hdr
      by_cases h91 : c = 91
      · have e1 : ((c.toNat : Int) != 91) = false := by rw [h91]; rfl
        rw [hhead, if_pos (by rw [h91])] at hA
        clear h91 hhead
        obtain ⟨n1, hn1⟩ : ∃ n1, l.length = n1 := ⟨_, rfl⟩
        rw [hn1] at hA hl8 ⊢
        have HN1 := Lib.hid hn1
        clear hn1
        by_cases hz : n1 = 0
        · rw [if_pos (.inl hz)] at hA
          have HA := Lib.hid hA
          rw [hz]
          clear hA hz
          go_wp2
          go_ret2
          exact LineR.bad HA.out HB.out (by omega)
        · have e0 : ((n1 : Int) == 0) = false := by simp; omega
          cases r with
          | true =>
            rw [if_pos (.inr rfl)] at hA
            have HA := Lib.hid hA
            clear hA hz
            go_wp2
            go_ret2
            exact LineR.bad HA.out HB.out (by omega)
          | false =>
            rw [if_neg (by simp; exact hz), ← HXx.out, ← ext_tail] at hA
            have HA := Lib.hid hA
            have HZ := Lib.hid hz
            have hYs : (X.extract 1 X.size).size ≤ 1000000 := by rw [ByteArray.size_extract]; omega
            have hx1 : (1 : Int) ≤ (X.size : Int) := by omega
            have HYs := Lib.hid hYs
            clear hA hz hYs
            obtain ⟨n0, hn0⟩ : ∃ n0, n1 = n0 + 1 := ⟨n1 - 1, by have := HZ.out; omega⟩
            have HN0 := Lib.hid hn0
            have hs1 : (n1 : Int) - 1 = (n0 : Int) := by omega
            have hs2 : (0 : Int) ≤ (n0 : Int) := by omega
            have hs3 : (n0 : Int) < (n1 : Int) := by omega
            clear hn0
            go_wp2
            go_loopw [6, 8, 9] (fun iv cv xv wr2 => ∃ (i2 : Nat) (l2 : List Stp) (count : Nat) (Y : ByteArray), i ≤ i2 ∧ i2 < N ∧ iv = .int .i64 i2 ∧ cv = .int .i64 count ∧ count ≤ i2 ∧ xv = .string Y ∧ Y.size ≤ 1000000 ∧ StepsC w.heap.size wr2 (.slice lp n1 lc) l2 ∧ l2.length = n1 ∧ Below w.heap.size w wr2 ∧ ANS = brackP Y.data.toList (ws.drop (i2 + 1)) i2 i l2 count) (fun iv _ _ _ => N - (intOf iv).toNat)
            case atStart => exact ⟨i, l, 0, X.extract 1 X.size, Nat.le_refl _, hlt, rfl, rfl, Nat.zero_le _, rfl, HYs.out, by have := HS.out; rw [HN1.out] at this; exact this, HN1.out, HB.out, HA.out⟩
            case round =>
              obtain ⟨i2, l2, count, Y, hii2, hi2, rfl, rfl, hct, rfl, hY, hS2, hL2, hB2, hA2⟩ := hrel
              have HS2 := Lib.hid hS2
              have HL2 := Lib.hid hL2
              have HB2 := Lib.hid hB2
              rw [brackP_eq] at hA2
              clear hS2 hL2 hB2
              have hi20 : (0 : Int) ≤ (i2 : Int) := by omega
              have hi2N : (i2 : Int) < (N : Int) := by omega
              by_cases hy0 : Y.size = 0
              · obtain rfl : Y = ⟨#[]⟩ := by
                  apply ByteArray.ext
                  exact Array.eq_empty_of_size_eq_zero hy0
                simp only [show (⟨#[]⟩ : ByteArray).data.toList = [] from rfl, show openW [] = [] from rfl, show closedW [] = false from rfl, ne_eq, not_true_eq_false, false_and, if_false, Bool.false_eq_true, if_true] at hA2
                by_cases hlast : i2 + 1 < N
                · obtain ⟨g2, X2, x2, hg2, hcell2, hXx2, hdr2, _, hXs2⟩ := HV.out _ HB2.out (i2 + 1) hlast
                  cases hg2
                  rw [hdr2] at hA2
                  have HA2 := Lib.hid hA2
                  have HX2 := Lib.hid hXx2
                  have hge : ¬ (N : Int) ≤ (i2 : Int) + 1 := by omega
                  clear hA2 hXx2 hdr2
                  go_wp2
                  go_roundw
                  case rel => exact ⟨i2 + 1, l2, count, X2, by omega, hlast, by go_num, rfl, by omega, rfl, hXs2, HS2.out, HL2.out, HB2.out, by rw [HX2.out]; exact HA2.out⟩
                  case measure => simp [intOf]; omega
                · rw [List.drop_of_length_le (by rw [HN.out]; omega)] at hA2
                  have HA2 := Lib.hid hA2
                  have hge : (N : Int) ≤ (i2 : Int) + 1 := by omega
                  clear hA2
                  go_wp2
                  go_ret2
                  exact LineR.bad HA2.out HB2.out (by omega)
              · obtain ⟨m, hm⟩ : ∃ m, Y.size = m + 1 := ⟨Y.size - 1, by omega⟩
                have hla := last_at Y m hm
                obtain ⟨dd, hdd⟩ : ∃ dd : UInt8, Y[m]'(by omega) = dd := ⟨_, rfl⟩
                rw [hdd] at hla
                obtain ⟨gs, cap, hsv, hcap1, hput⟩ := HS2.out.later HL2.out HN0.out
                cases hsv
                have HPut := Lib.hid hput
                have hcap0 : n1 ≤ lc := hcap1
                clear hput hy0
                by_cases h93 : dd = 93
                · have e93 : ((dd.toNat : Int) == 93) = true := by rw [h93]; try rfl
                  have hop : openW Y.data.toList = (Y.extract 0 m).data.toList := by unfold openW; rw [hla, h93, if_pos rfl, ext_init Y m hm]
                  have hcl : closedW Y.data.toList = true := by unfold closedW; rw [hla, h93]; try rfl
                  rw [hop, hcl, if_pos (rfl : true = true)] at hA2
                  clear h93 hla hop hcl
                  by_cases hm0 : m = 0
                  · have hze : Y.extract 0 m = ⟨#[]⟩ := by
                      apply ByteArray.ext
                      apply Array.eq_empty_of_size_eq_zero
                      show (Y.extract 0 m).size = 0
                      rw [ByteArray.size_extract]; omega
                    have hzl : (Y.extract 0 m).data.toList = [] := by rw [hze]; try rfl
                    rw [if_neg (fun h => h.1 hzl), if_pos hzl, if_pos hzl] at hA2
                    clear hzl hm0
                    by_cases hc0 : count = 0
                    · rw [if_pos hc0] at hA2
                      have HA2 := Lib.hid hA2
                      have hcq : ((count : Int) == 0) = true := by simp [hc0]
                      clear hA2 hc0
                      go_wp2
                      go_ret2
                      exact LineR.bad HA2.out HB2.out (by omega)
                    · rw [if_neg hc0] at hA2
                      have HA2 := Lib.hid hA2
                      have hcq : ((count : Int) == 0) = false := by simp; omega
                      clear hA2 hc0
                      go_wp2
                      go_roundw
                      case rel => exact ⟨i2 + 1, l2, true, by omega, by omega, rfl, by go_num, HS2.out, HB2.out, by rw [HL2.out]; omega, HA2.out⟩
                      case measure => simp [intOf]; omega
                  · have hzn : (Y.extract 0 m).data.toList ≠ [] := by
                      intro e
                      have : (Y.extract 0 m).size = 0 := by show (Y.extract 0 m).data.size = 0; rw [← Array.length_toList, e]; try rfl
                      rw [ByteArray.size_extract] at this
                      omega
                    have hzs : (Y.extract 0 m).size ≤ 1000000 := by rw [ByteArray.size_extract]; omega
                    obtain ⟨Z, hZ⟩ : ∃ Z, Y.extract 0 m = Z := ⟨_, rfl⟩
                    rw [hZ] at hA2 hzn hzs
                    have hq1 : ¬ Z.toList = [] := by rw [Lib.toList_data]; exact hzn
                    have hq2 : (!Z.toList.isEmpty) = true := by simp [hq1]
                    have HRu := Lib.hid (rule_any Z · hzs)
                    obtain ⟨R, hR⟩ : ∃ R, ruleP Z.data.toList = R := ⟨_, rfl⟩
                    rw [hR] at hA2 HRu
                    obtain ⟨ro, rn, ra, rok⟩ := R
                    dsimp only at hA2
                    have HNe := Lib.hid hzn
                    clear hzn hR hm0 hzs
                    cases rok with
                    | false =>
                      rw [if_pos ⟨HNe.out, rfl⟩] at hA2
                      have HA2 := Lib.hid hA2
                      clear hA2
                      go_wp2_with (go_at_call 33; refine (HRu.out _).mono ?_; rintro e w5 ⟨rfl, hb5⟩; have HB5 := Lib.hid (HB2.out.trans (hb5.mono HB2.out.size)); clear hb5)
                      go_ret2
                      exact LineR.bad HA2.out HB5.out (by omega)
                    | true =>
                      rw [if_neg (fun h => by cases h.2), if_neg HNe.out, if_neg (by omega), if_neg HNe.out] at hA2
                      have HPl2 : Hid ((putLast l2 ro rn ra).length = n1) := Lib.hid (by rw [putLast_len]; exact HL2.out)
                      have HA2 := Lib.hid hA2
                      have hcq : ((count : Int) + 1 == 0) = false := by simp; omega
                      clear hA2
                      go_wp2_with (first | (go_at_call 33; refine (HRu.out _).mono ?_; rintro e w5 ⟨rfl, hb5⟩; have HB5 := Lib.hid hb5; clear hb5) | (go_at_call 34; refine (HPut.out _ HB5.out _ _ _).mono ?_; rintro e w6 ⟨rfl, hs6, hb6⟩; have HS6 := Lib.hid hs6; have HB6 := Lib.hid ((HB2.out.trans (HB5.out.mono HB2.out.size)).trans hb6); clear hs6 hb6))
                      go_roundw
                      case rel => exact ⟨i2 + 1, putLast l2 ro rn ra, true, by omega, by omega, rfl, by go_num, HS6.out, HB6.out, by rw [HPl2.out]; omega, HA2.out⟩
                      case measure => simp [intOf]; omega
                · have e93 : ((dd.toNat : Int) == 93) = false := by
                    simp only [beq_eq_false_iff_ne, ne_eq]
                    intro e
                    exact h93 (by apply UInt8.toNat_inj.1; show dd.toNat = 93; omega)
                  have hop : openW Y.data.toList = Y.data.toList := by unfold openW; rw [hla, if_neg (fun e => h93 (Option.some.inj e))]
                  have hcl : closedW Y.data.toList = false := by unfold closedW; rw [hla]; exact decide_eq_false (fun e => h93 (Option.some.inj e))
                  have hne : Y.data.toList ≠ [] := by intro e; rw [e] at hla; cases hla
                  rw [hop, hcl] at hA2
                  have hq1 : ¬ Y.toList = [] := by rw [Lib.toList_data]; exact hne
                  have hq2 : (!Y.toList.isEmpty) = true := by simp [hq1]
                  have HRu := Lib.hid (rule_any Y · hY)
                  obtain ⟨R, hR⟩ : ∃ R, ruleP Y.data.toList = R := ⟨_, rfl⟩
                  rw [hR] at hA2 HRu
                  obtain ⟨ro, rn, ra, rok⟩ := R
                  dsimp only at hA2
                  have HNe := Lib.hid hne
                  clear hla h93 hop hcl hne hR
                  cases rok with
                  | false =>
                    rw [if_pos ⟨HNe.out, rfl⟩] at hA2
                    have HA2 := Lib.hid hA2
                    clear hA2
                    go_wp2_with (go_at_call 33; refine (HRu.out _).mono ?_; rintro e w5 ⟨rfl, hb5⟩; have HB5 := Lib.hid (HB2.out.trans (hb5.mono HB2.out.size)); clear hb5)
                    go_ret2
                    exact LineR.bad HA2.out HB5.out (by omega)
                  | true =>
                    rw [if_neg (fun h => by cases h.2), if_neg (by decide), if_neg HNe.out, if_neg HNe.out] at hA2
                    have HPl2 : Hid ((putLast l2 ro rn ra).length = n1) := Lib.hid (by rw [putLast_len]; exact HL2.out)
                    by_cases hlast : i2 + 1 < N
                    · have HA2 := Lib.hid hA2
                      have hge : ¬ (N : Int) ≤ (i2 : Int) + 1 := by omega
                      clear hA2
                      go_upto_region 30 with (first | (go_at_call 33; refine (HRu.out _).mono ?_; rintro e w5 ⟨rfl, hb5⟩; have HB5 := Lib.hid hb5; clear hb5) | (go_at_call 34; refine (HPut.out _ HB5.out _ _ _).mono ?_; rintro e w6 ⟨rfl, hs6, hb6⟩; have HS6 := Lib.hid hs6; have HB6 := Lib.hid ((HB2.out.trans (HB5.out.mono HB2.out.size)).trans hb6); clear hs6 hb6))
                      obtain ⟨g2, X2, x2, hg2, hcell2, hXx2, hdr2, _, hXs2⟩ := HV.out _ HB6.out (i2 + 1) hlast
                      cases hg2
                      have hA3 := HA2.out
                      rw [hdr2] at hA3
                      have HA3 := Lib.hid hA3
                      have HX2 := Lib.hid hXx2
                      clear hA3 hXx2 hdr2
                      go_wp2
                      go_roundw
                      case rel => exact ⟨i2 + 1, putLast l2 ro rn ra, count + 1, X2, by omega, hlast, by go_num, by go_num, by omega, rfl, hXs2, HS6.out, HPl2.out, HB6.out, by rw [HX2.out]; exact HA3.out⟩
                      case measure => simp [intOf]; omega
                    · rw [List.drop_of_length_le (by rw [HN.out]; omega)] at hA2
                      have HA2 := Lib.hid hA2
                      have hge : (N : Int) ≤ (i2 : Int) + 1 := by omega
                      clear hA2
                      go_wp2_with (first | (go_at_call 33; refine (HRu.out _).mono ?_; rintro e w5 ⟨rfl, hb5⟩; have HB5 := Lib.hid hb5; clear hb5) | (go_at_call 34; refine (HPut.out _ HB5.out _ _ _).mono ?_; rintro e w6 ⟨rfl, hs6, hb6⟩; have HS6 := Lib.hid hs6; have HB6 := Lib.hid ((HB2.out.trans (HB5.out.mono HB2.out.size)).trans hb6); clear hs6 hb6))
                      go_ret2
                      exact LineR.bad HA2.out HB6.out (by omega)
      · have e1 : ((c.toNat : Int) != 91) = true := by
          simp only [bne_iff_ne, ne_eq]
          intro e
          exact h91 (by apply UInt8.toNat_inj.1; show c.toNat = 91; omega)
        have HSo : Hid (∀ W, Calls Tryd.prog 31 #[.string X] W fun e w' => e = .returned (.bool (okSrc x)) ∧ W = w') := Lib.hid (fun W => by have := source_any X W hXs; rw [HXx.out] at this; exact this)
        rw [hhead, if_neg (fun e => h91 (Option.some.inj e))] at hA
        have HPl := Lib.hid (plain_any X)
        clear h91 hhead
        by_cases hok : okSrc x = false
        · rw [if_pos hok] at hA
          have HA := Lib.hid hA
          rw [hok] at HSo
          clear hA hok
          go_wp2_with (go_at_call 31; refine (HSo.out _).mono ?_; rintro e w2 ⟨rfl, rfl⟩)
          go_ret2
          exact LineR.bad HA.out HB.out (by omega)
        · rw [if_neg hok] at hA
          have hok2 : okSrc x = true := by simpa using hok
          rw [hok2] at HSo
          clear hok hok2
          by_cases h8 : l.length = 8
          · rw [if_pos h8] at hA
            have HA := Lib.hid hA
            have H8 := Lib.hid h8
            rw [h8]
            clear hA h8
            go_wp2_with (go_at_call 31; refine (HSo.out _).mono ?_; rintro e w2 ⟨rfl, rfl⟩)
            go_ret2
            exact LineR.bad HA.out HB.out (by omega)
          · rw [if_neg h8] at hA
            have HA := Lib.hid hA
            obtain ⟨n1, hn1⟩ : ∃ n1, l.length = n1 := ⟨_, rfl⟩
            rw [hn1] at h8 hl8 ⊢
            have HN1 := Lib.hid hn1
            have e8 : ((n1 : Int) == 8) = false := by simp; omega
            have H8 := Lib.hid h8
            clear hA h8 hn1
            have HSn : Hid (wr.ownsRow w.heap.size 47 5 (.slice lp n1 lc) n1 (l.flatMap stpCells)) := Lib.hid (by have := HS.out; unfold StepsC at this; rw [HN1.out] at this; exact this)
            go_wp2_with (first | (go_at_call 31; refine (HSo.out _).mono ?_; rintro e w2 ⟨rfl, rfl⟩) | (go_at_call 32; refine (HPl.out _).mono ?_; rintro e w3 ⟨rfl, hb3⟩; have HB3 := Lib.hid hb3; clear hb3) | (at_builtin; refine wpList_append_own _ rfl _ _ 25 rfl w.heap.size 47 i9 (.agg #[.string ⟨#[]⟩, .int .i64 0, .int .i64 0, .int .i64 0, .int .i64 0]) 5 48 Tryd.underlying25 hi hz0 hz1 hz2 rfl (by decide) _ _ _ rfl ((own_below HSn.out HB3.out).alloc _) ⟨w3.heap.size, 0, none⟩ 1 1 [.string X, .int .i64 1, .int .i64 2, .int .i64 2, .int .i64 2] rfl rfl (newN w3 [.string X, .int .i64 1, .int .i64 2, .int .i64 2, .int .i64 2] _) (by simp [Value.oneCell']) (by unfold maxLen; omega) (by omega) (by have := HB3.out.size; have := HB.out.size; show w.heap.size ≤ (w3.heap.push _).size; simp; omega) ?_; intro v' w5 hown5 hg5 _; have HO5 := Lib.hid hown5; have HG5 := Lib.hid hg5; clear hown5 hg5))
            go_roundw
            case rel => exact ⟨i + 1, l ++ [plainS x], false, by omega, hlt, rfl, by go_num, StepsC.push HO5.out HN1.out HXx.out, (((HB.out.trans (HB3.out.mono HB.out.size)).alloc (by have := HB3.out.size; have := HB.out.size; omega) _).grown HG5.out (by have := HB3.out.size; have := HB.out.size; show w.heap.size ≤ (w3.heap.push _).size; simp; omega) (fun g hg => (HSn.out.lt g hg).1)), by rw [List.length_append, HN1.out]; have := H8.out; simp; omega, HA.out⟩
            case measure => simp [intOf]; omega
    · obtain rfl : i = N := by omega
      rw [List.drop_of_length_le (by rw [HN.out]; exact Nat.le_refl _), lineP_nil] at hA
      by_cases h0 : l.length = 0
      · rw [if_pos h0] at hA
        have HA := Lib.hid hA
        rw [h0]
        clear hA h0
        go_wp2
        go_ret2
        exact LineR.bad (c := 1) HA.out HB.out (Nat.le_refl 1)
      · rw [if_neg h0] at hA
        have HA := Lib.hid hA
        obtain ⟨n1, hn1⟩ : ∃ n1, l.length = n1 := ⟨_, rfl⟩
        rw [hn1] at h0 HS ⊢
        have e0 : ((n1 : Int) == 0) = false := by simp; omega
        clear hA h0
        go_wp2
        go_ret2
        exact LineR.good HA.out HS.out HB.out
end Go.Proofs.YtpighkpdnifejaaDoor

namespace Go.Tx
open Go.Lib
def ust (l : List UInt8) (k : Nat) : List UInt8 × List (List UInt8) := (hashCut (l.take k)).foldl (stepW blankN) ([], [])
theorem take_succ' (l : List UInt8) (k : Nat) (b : UInt8) (h : l[k]? = some b) : l.take (k + 1) = l.take k ++ [b] := by
  have hk := (List.getElem?_eq_some_iff.1 h).1
  rw [List.take_succ_eq_append_getElem hk]
  rw [List.getElem?_eq_getElem hk] at h
  cases h
  rfl
theorem ust_rest {l : List UInt8} {k : Nat} {b : UInt8} (h : l[k]? = some b) (hr : (35 : UInt8) ∈ l.take k ∨ b = 35) : ust l (k + 1) = ust l k := by
  unfold ust
  rw [take_succ' l k b h, hashCut_snoc, if_pos hr]
theorem ust_step {l : List UInt8} {k : Nat} {b : UInt8} (h : l[k]? = some b) (h1 : ¬ (35 : UInt8) ∈ l.take k) (h2 : ¬ b = 35) : ust l (k + 1) = stepW blankN (ust l k) b := by
  unfold ust
  rw [take_succ' l k b h, hashCut_snoc, if_neg (by rintro (h | h) <;> contradiction), hashCut_none _ h1, List.foldl_append]
  rfl
theorem stepW_len {u : List UInt8 × List (List UInt8)} {c : UInt8} : (stepW blankN u c).1.length ≤ u.1.length + 1 ∧ (stepW blankN u c).2.length ≤ u.2.length + 1 := by
  unfold stepW
  split
  · split <;> simp
  · simp
theorem fold_len (l : List UInt8) : ∀ u : List UInt8 × List (List UInt8), (l.foldl (stepW blankN) u).1.length ≤ u.1.length + l.length ∧ (l.foldl (stepW blankN) u).2.length ≤ u.2.length + l.length := by
  induction l with
  | nil => intro u; simp
  | cons c l ih =>
    intro u
    have h1 := ih (stepW blankN u c)
    have h2 := @stepW_len u c
    simp only [List.foldl_cons, List.length_cons]
    omega
theorem takeWhile_len' {α : Type} (p : α → Bool) : ∀ l : List α, (l.takeWhile p).length ≤ l.length
  | [] => Nat.le_refl _
  | x :: l => by
    unfold List.takeWhile
    split
    · simp; exact takeWhile_len' p l
    · simp
theorem ust_len (l : List UInt8) (k : Nat) : (ust l k).1.length ≤ k ∧ (ust l k).2.length ≤ k := by
  have h1 := fold_len (hashCut (l.take k)) ([], [])
  have h2 : (hashCut (l.take k)).length ≤ (l.take k).length := takeWhile_len' _ _
  have h3 := List.length_take_le k l
  unfold ust
  simp only [List.length_nil, Nat.zero_add] at h1
  omega
/-- What holds at the head of a round. -/
structure OneI (l : List UInt8) (w : World) (k : Nat) (rest word lv : Value) (wr : World) (s : ByteArray) : Prop where
  rest : rest = .bool (decide ((35 : UInt8) ∈ l.take k))
  word : word = .string s
  text : s.data.toList = (ust l k).1
  row : StrC w.heap.size wr lv (ust l k).2
  fine : (l.take k).any forB = false
  bel : Go.RowKit.Below w.heap.size w wr
theorem any_snoc {l : List UInt8} {k : Nat} {b : UInt8} (h : l[k]? = some b) (h1 : (l.take k).any forB = false) (h2 : forB b = false) : (l.take (k + 1)).any forB = false := by
  rw [take_succ' l k b h, List.any_append, h1]
  simp [h2]
theorem mem_snoc {l : List UInt8} {k : Nat} {b : UInt8} (h : l[k]? = some b) : ((35 : UInt8) ∈ l.take (k + 1)) ↔ ((35 : UInt8) ∈ l.take k ∨ b = 35) := by
  rw [take_succ' l k b h, List.mem_append]
  simp
  constructor
  · rintro (h | h)
    · exact .inl h
    · exact .inr h.symm
  · rintro (h | h)
    · exact .inl h
    · exact .inr h.symm
end Go.Tx
namespace Go.Proofs.YtpighkpdnifejaaDoor
open Go.RowKit Go.Lib Go.Tx Go.Proofs
theorem blank_any (c : UInt8) (w : World) :
    Calls Tryd.prog 49 #[.int .u8 (c.toNat : Int)] w fun e w' => e = .returned (.bool (blankN c.toNat)) ∧ w = w' := by
  by_cases h1 : c = 32
  · subst h1
    go_enter Tryd.func49, Tryd.ntmps49
    go_wp2
    all_goals (go_ret; exact ⟨rfl, rfl⟩)
  by_cases h2 : c = 9
  · subst h2
    go_enter Tryd.func49, Tryd.ntmps49
    go_wp2
    all_goals (go_ret; exact ⟨rfl, rfl⟩)
  by_cases h3 : c = 13
  · subst h3
    go_enter Tryd.func49, Tryd.ntmps49
    go_wp2
    all_goals (go_ret; exact ⟨rfl, rfl⟩)
  have t1 : ¬ c.toNat = 32 := fun h => h1 (UInt8.toNat_inj.1 h)
  have t2 : ¬ c.toNat = 9 := fun h => h2 (UInt8.toNat_inj.1 h)
  have t3 : ¬ c.toNat = 13 := fun h => h3 (UInt8.toNat_inj.1 h)
  have e0 : blankN c.toNat = false := by simp [blankN, t1, t2, t3]
  have e1 : ((c.toNat : Int) == 32) = false := by rw [beq_eq_false_iff_ne]; omega
  have e2 : ((c.toNat : Int) == 9) = false := by rw [beq_eq_false_iff_ne]; omega
  have e3 : ((c.toNat : Int) == 13) = false := by rw [beq_eq_false_iff_ne]; omega
  clear h1 h2 h3 t1 t2 t3
  have E0 := Lib.hid e0
  clear e0
  go_enter Tryd.func49, Tryd.ntmps49
  go_wp2
  all_goals (go_ret; exact ⟨ret_bool E0.out.symm, rfl⟩)
theorem info9o : (Tryd.prog.info? 9).map (fun i => (i.zero, i.size, i.bytes)) = some (some (.string ⟨#[]⟩), 1, 16) := by kernel_rfl
end Go.Proofs.YtpighkpdnifejaaDoor

namespace Go.Proofs.YtpighkpdnifejaaDoor
open Go.RowKit Go.Lib Go.Tx Go.Proofs
theorem idx10 (a : Option Addr) (n c : Nat) (l : List UInt8) (b2 : Nat) (w : World) (h : BA w a n c l) (h2 : w.cell? ⟨b2, 0, none⟩ = some (.int .u8 10)) :
    Calls Tryd.prog 37 #[.slice a n c, .slice (some ⟨b2, 0, none⟩) 1 1] w fun e w' => e = .returned (.int .i64 (Lib.indexByte l 10)) ∧ ∃ q, w' = w.drewN q := by
  have hlen := h.len
  cases a with
  | none =>
    have := h.none rfl
    have hcap := h.cap
    obtain rfl : c = 0 := by omega
    obtain rfl : n = 0 := by omega
    obtain rfl : l = [] := List.eq_nil_of_length_eq_zero hlen
    refine (Tryd.bytes_Index_one_nil b2 0 1 10 w h2).mono ?_
    rintro e w' ⟨rfl, rfl⟩
    exact ⟨rfl, 0, rfl⟩
  | some x =>
    have := Tryd.bytes_Index_one_at x n c b2 0 1 (l.map fun b => (b.toNat : Int)) 10 w (by simpa using hlen) (fun i hi => by
      have hil : i < l.length := by omega
      rw [h.cell x rfl i _ (List.getElem?_eq_getElem hil)]
      simp [hil]) h2
    have e1 : Lib.bytesOf (l.map fun b => (b.toNat : Int)) = l := by
      simp [Lib.bytesOf, Function.comp_def]
    rw [e1] at this
    refine this.mono ?_
    rintro e w' ⟨rfl, rfl⟩
    exact ⟨rfl, 0, rfl⟩
theorem _root_.Go.Tx.BA.take {w : World} {a : Option Addr} {n c : Nat} {l : List UInt8} (h : BA w a n c l) {i : Nat} (hi : i ≤ n) : BA w a i c (l.take i) :=
  ⟨by rw [List.length_take, h.len]; omega, Nat.le_trans hi h.cap, h.max, h.none, fun x hx j b hj => h.cell x hx j b (by
    rw [List.getElem?_take] at hj
    split at hj
    · exact hj
    · cases hj)⟩
theorem add_add (x : Addr) (i j : Nat) : (x.add i).add j = x.add (i + j) := by
  unfold Addr.add
  by_cases h1 : i = 0
  · subst h1; simp
  · by_cases h2 : j = 0
    · subst h2; simp [h1]
    · simp [h1, h2]; omega
theorem _root_.Go.Tx.BA.from {w : World} {a : Option Addr} {n c : Nat} {l : List UInt8} (h : BA w a n c l) {j : Nat} (hj : j ≤ n) : BA w (if c = j then a else a.map fun x => x.add j) (n - j) (c - j) (l.drop j) := by
  have hcap := h.cap
  have hmax := h.max
  refine ⟨by rw [List.length_drop, h.len], by omega, by omega, fun ha => ?_, fun x hx k b hk => ?_⟩
  · split at ha
    · omega
    · have : a = none := by simpa using ha
      have := h.none this
      omega
  · rw [List.getElem?_drop] at hk
    have hlt := (List.getElem?_eq_some_iff.1 hk).1
    rw [h.len] at hlt
    split at hx
    · omega
    · cases a with
      | none => simp at hx
      | some y =>
        simp at hx
        subst hx
        rw [add_add]
        exact h.cell y rfl _ b hk
theorem cut10_yes (a : Option Addr) (n c : Nat) (l : List UInt8) (b2 i : Nat) (w : World) (h : BA w a n c l) (h2 : w.cell? ⟨b2, 0, none⟩ = some (.int .u8 10)) (hn : n ≤ 1000000) (hi : Lib.indexByte l 10 = i) :
    Calls Tryd.prog 25 #[.slice a n c, .slice (some ⟨b2, 0, none⟩) 1 1] w fun e w' => e = .returned (.tuple #[.slice a i c, .slice (if c = i + 1 then a else a.map fun x => x.add (i + 1)) (n - (i + 1)) (c - (i + 1)), .bool true]) ∧ ∃ q, w' = w.drewN q := by
  have hlt := indexByte_lt l 10
  have hlt : i < n := by
    rw [hi, h.len] at hlt
    rcases hlt with hlt | hlt
    · omega
    · rw [hlt] at hi; simp [Lib.indexByte] at hi
  have := Tryd.bytes_Cut_of a (some ⟨b2, 0, none⟩) n c 1 1 (Lib.indexByte l 10) w h.cap (Lib.indexByte_ge _ _) (by rw [hi]; omega) (by omega) (idx10 a n c l b2 w h h2)
  rw [hi] at this
  have e1 : Lib.cutV a n c 1 (i : Int) = .tuple #[.slice a i c, .slice (if c = i + 1 then a else a.map fun x => x.add (i + 1)) (n - (i + 1)) (c - (i + 1)), .bool true] := by
    unfold Lib.cutV Lib.fromV
    rw [if_pos (by omega)]
    simp
  rw [e1] at this
  exact this
theorem cut10_no (a : Option Addr) (n c : Nat) (l : List UInt8) (b2 : Nat) (w : World) (h : BA w a n c l) (h2 : w.cell? ⟨b2, 0, none⟩ = some (.int .u8 10)) (hn : n ≤ 1000000) (hi : Lib.indexByte l 10 < 0) :
    Calls Tryd.prog 25 #[.slice a n c, .slice (some ⟨b2, 0, none⟩) 1 1] w fun e w' => e = .returned (.tuple #[.slice a n c, .slice none 0 0, .bool false]) ∧ ∃ q, w' = w.drewN q := by
  have := Tryd.bytes_Cut_of a (some ⟨b2, 0, none⟩) n c 1 1 (Lib.indexByte l 10) w h.cap (Lib.indexByte_ge _ _) (by omega) (by omega) (idx10 a n c l b2 w h h2)
  have e1 : Lib.cutV a n c 1 (Lib.indexByte l 10) = .tuple #[.slice a n c, .slice none 0 0, .bool false] := by
    unfold Lib.cutV
    rw [if_neg (by omega)]
  rw [e1] at this
  exact this
theorem info68 : (Tryd.prog.info? 53).map (fun i => (i.zero, i.size, i.bytes)) = some (some (.agg #[.int .i64 0, .slice none 0 0]), 2, 32) := by kernel_rfl
theorem _root_.Go.Tx.BA.nil (w : World) : BA w none 0 0 [] := ⟨rfl, Nat.le_refl _, by decide, fun _ => rfl, fun x hx => by cases hx⟩
def LinesR (w : World) (T : List (Nat × List (List UInt8))) (e : Ending) (w' : World) : Prop := ∃ v, e = .returned v ∧ LinesAt w.heap.size w' v T ∧ Below w.heap.size w w'
theorem new_cells (w : World) (x y : Value) (e : TypeId) : ∀ j u, [x, y][j]? = some u → (w.alloc (.cells #[x, y] e)).cell? ((⟨w.heap.size, 0, none⟩ : Addr).add j) = some u := by
  intro j u hj
  have ha : (⟨w.heap.size, 0, none⟩ : Addr).add j = ⟨w.heap.size, j, none⟩ := by unfold Addr.add; split <;> simp_all
  rw [ha, World.cell?_alloc_new]
  simpa using hj
def lenOfV : Value → Nat
  | .slice _ n _ => n
  | _ => 0
/-- What holds at the head of each round. -/
structure LI (w : World) (l0 : List UInt8) (body told no : Value) (wr : World) (a : Option Addr) (n c N : Nat) (l : List UInt8) (T : List (Nat × List (List UInt8))) : Prop where
  body : body = .slice a n c
  no : no = .int .i64 N
  ba : BA w a n c l
  old : ∀ x, a = some x → x.block < w.heap.size
  told : LinesAt w.heap.size wr told T
  all : toldG 1 [] l0 = T ++ toldG N [] l
  few : T.length + 1 ≤ N
  sum : N + n ≤ l0.length + 1
  bel : Below w.heap.size w wr
theorem words_none (a : Option Addr) (n c : Nat) (l : List UInt8) (w : World) (h : BA w a n c l) (hw : wordsOf l = []) :
    Calls Tryd.prog 26 #[.slice a n c] w fun e w' => ∃ p, e = .returned (.slice p 0 0) ∧ Below w.heap.size w w' := by
  refine (words_any a n c l w h).mono ?_
  rintro e w' ⟨v, rfl, hs, hb⟩
  obtain ⟨p, rfl⟩ := hs.shape
  rw [hw]
  exact ⟨p, rfl, hb⟩
theorem words_some (a : Option Addr) (n c : Nat) (l : List UInt8) (w : World) (h : BA w a n c l) (hw : ¬ wordsOf l = []) :
    Calls Tryd.prog 26 #[.slice a n c] w fun e w' => ∃ p k, e = .returned (.slice p k k) ∧ 0 < k ∧ Hid (Strs w.heap.size w' (.slice p k k) (wordsOf l)) ∧ Below w.heap.size w w' := by
  refine (words_any a n c l w h).mono ?_
  rintro e w' ⟨v, rfl, hs, hb⟩
  obtain ⟨p, rfl⟩ := hs.shape
  exact ⟨p, _, rfl, List.length_pos_iff.2 hw, Lib.hid hs, hb⟩
theorem tell_none {no : Nat} {l : List UInt8} (h : wordsOf l = []) : tell no l = [] := by simp [tell, h]
theorem tell_some {no : Nat} {l : List UInt8} (h : ¬ wordsOf l = []) : tell no l = [(no, wordsOf l)] := by simp [tell, h]
theorem told_end (N : Nat) : toldG N [] [] = [] := by simp [toldG, tell_none wordsOf_nil]
/-- The world behind a cut and the words of a line. -/
theorem bel_words {w wr w3 : World} {o : Obj} {q : Nat} (hbel : Below w.heap.size w wr) (hb3 : Below ((wr.alloc o).drewN q).heap.size ((wr.alloc o).drewN q) w3) : Below w.heap.size w w3 :=
  (below_drewN' (hbel.alloc hbel.size o) q).trans (hb3.mono (by have := hbel.size; show w.heap.size ≤ (wr.heap.push o).size; simp; omega))
set_option maxHeartbeats 2000000 in
set_option maxRecDepth 100000 in
theorem lines_any (a : Option Addr) (n c : Nat) (l : List UInt8) (w : World) (h : BA w a n c l) (hold : ∀ x, a = some x → x.block < w.heap.size) (hn : n ≤ 1000000) :
    Calls Tryd.prog 14 #[.slice a n c] w (LinesR w (toldG 1 [] l)) := by
  obtain ⟨i0, hi, hz0, hz1, hz2⟩ := info_parts info68
  have hsum := h.len
  have HS := Lib.hid hsum
  clear hsum
  go_enter Tryd.func14, Tryd.ntmps14
  go_wp2
  go_loopw [0, 3, 4] (fun body told no wr => ∃ a n c N l' T, LI w l body told no wr a n c N l' T) (fun body _ _ _ => lenOfV body)
  case atStart => exact ⟨a, n, c, 1, l, [], rfl, rfl, h, hold, LinesAt.nil _ _, rfl, by simp, by rw [HS.out]; omega, Below.refl _ _⟩
  case round =>
    clear h hold
    obtain ⟨a', n', c', N, l', T, hL⟩ := hrel
    obtain ⟨rfl, rfl, hba, hold, htold, hall, hfew, hsum, hbel⟩ := hL
    have hw0 := hbel.size
    by_cases hpos : 0 < n'
    · have hn' : n' ≤ 1000000 := by have := HS.out; omega
      have hN : N ≤ 1000001 := by have := HS.out; omega
      have HBA : Hid (∀ o, BA (wr.alloc o) a' n' c' l') := Lib.hid fun o => hba.below (hbel.alloc hbel.size o) hold
      have HQ : Hid (∀ o q, BA ((wr.alloc o).drewN q) a' n' c' l') := Lib.hid fun o q => hba.below (below_drewN' (hbel.alloc hbel.size o) q) hold
      have hcap := hba.cap
      have hmax := hba.max
      obtain ⟨xs, hown, hent⟩ := htold
      have HE := Lib.hid hent
      have HO := Lib.hid hown
      have HALL := Lib.hid hall
      have HLEN := Lib.hid hba.len
      clear hent hown hall
      by_cases hidx : Lib.indexByte l' 10 < 0
      · have HI := Lib.hid hidx
        clear hidx
        by_cases hws : wordsOf l' = []
        · have HW := Lib.hid hws
          clear hws hba
          go_wp2_with (first | (go_at_call 25; refine (cut10_no a' n' c' l' wr.heap.size _ (HBA.out _) (World.cell?_alloc_new _ _ _ _) hn' HI.out).mono ?_; rintro e w2 ⟨rfl, q, rfl⟩) | (go_at_call 26; refine (words_none a' n' c' l' _ (HQ.out _ _) HW.out).mono ?_; rintro e w3 ⟨p, rfl, hb3⟩))
          go_roundw
          case rel => exact ⟨none, 0, 0, N + 1, [], T, rfl, by go_num, BA.nil w, (fun x hx => by cases hx), (show LinesAt w.heap.size wr _ T from ⟨xs, HO.out, HE.out⟩).below (bel_words (Below.refl _ _) hb3), by rw [HALL.out, toldG_no _ _ _ HI.out, List.nil_append, tell_none HW.out, told_end], by omega, by omega, bel_words hbel hb3⟩
          case measure => exact hpos
        · have HW := Lib.hid hws
          clear hws hba
          go_wp2_with (first | (go_at_call 25; refine (cut10_no a' n' c' l' wr.heap.size _ (HBA.out _) (World.cell?_alloc_new _ _ _ _) hn' HI.out).mono ?_; rintro e w2 ⟨rfl, q, rfl⟩) | (go_at_call 26; refine (words_some a' n' c' l' _ (HQ.out _ _) HW.out).mono ?_; rintro e w3 ⟨p, k, rfl, hk, hs, hb3⟩) | (at_builtin; refine wpList_append_own _ rfl _ _ 50 rfl w.heap.size 53 i0 (.agg #[.int .i64 0, .slice none 0 0]) 2 32 Tryd.underlying50 hi hz0 hz1 hz2 rfl (by decide) _ _ _ rfl ((own_below (own_drewN (HO.out.alloc _) q) hb3).alloc _) ⟨w3.heap.size, 0, none⟩ 1 1 [.int .i64 N, .slice p k k] rfl rfl (new_cells _ _ _ _) (by simp [Value.oneCell']) (by unfold maxLen; omega) (by omega) (by have := (bel_words hbel hb3).size; show w.heap.size ≤ (w3.heap.push _).size; simp; omega) ?_; intro v' w5 hown5 hg5 _))
          go_roundw
          case rel => exact ⟨none, 0, 0, N + 1, [], T ++ [(N, wordsOf l')], rfl, by go_num, BA.nil w, (fun x hx => by cases hx), LinesAt.push ((own_below (own_drewN (HO.out.alloc _) q) hb3).alloc _) (fun i no ws h => by obtain ⟨x1, wv, x2, x3⟩ := HE.out i no ws h; exact ⟨x1, wv, x2, (x3.below (bel_words (Below.refl _ _) hb3)).below (Below.alloc (Below.refl _ _) (Nat.le_refl _) _)⟩) ((hs.out.base (by show w.heap.size ≤ (wr.heap.push _).size; simp; omega)).below (Below.alloc (Below.refl _ _) (Nat.le_refl _) _)) hown5 hg5, by rw [HALL.out, toldG_no _ _ _ HI.out, List.nil_append, tell_some HW.out, told_end, List.append_nil], by simp; omega, by omega, ((bel_words hbel hb3).alloc (bel_words hbel hb3).size _).grown hg5 (by have := (bel_words hbel hb3).size; show w.heap.size ≤ (w3.heap.push _).size; simp; omega) (fun g hg => (HO.out.lt g hg).1)⟩
          case measure => exact hpos
      · obtain ⟨i, hi'⟩ : ∃ i : Nat, Lib.indexByte l' 10 = i := ⟨(Lib.indexByte l' 10).toNat, by omega⟩
        have hlt : i < n' := by
          have h1 := indexByte_lt l' 10
          have h2 := HLEN.out
          rcases h1 with h1 | h1
          · omega
          · rw [h1] at h2; simp at h2; omega
        have HI := Lib.hid hi'
        have HF := Lib.hid (hba.from (j := i + 1) hlt)
        have HOLD : Hid (∀ x, (if c' = i + 1 then a' else a'.map fun x => x.add (i + 1)) = some x → x.block < w.heap.size) := Lib.hid (by
          intro x hx
          split at hx
          · exact hold x hx
          · cases a' with
            | none => simp at hx
            | some y =>
              simp at hx
              subst hx
              have : (y.add (i + 1)).block = y.block := by unfold Addr.add; split <;> rfl
              rw [this]
              exact hold y rfl)
        have HLT := Lib.hid hlt
        clear hidx hi' hba
        by_cases hws : wordsOf (l'.take i) = []
        · have HW := Lib.hid hws
          clear hws
          go_wp2_with (first | (go_at_call 25; refine (cut10_yes a' n' c' l' wr.heap.size i _ (HBA.out _) (World.cell?_alloc_new _ _ _ _) hn' HI.out).mono ?_; rintro e w2 ⟨rfl, q, rfl⟩) | (go_at_call 26; refine (words_none a' i c' (l'.take i) _ ((HQ.out _ _).take (Nat.le_of_lt HLT.out)) HW.out).mono ?_; rintro e w3 ⟨p, rfl, hb3⟩))
          go_roundw
          case rel => exact ⟨_, _, _, N + 1, _, T, rfl, by go_num, HF.out, HOLD.out, (show LinesAt w.heap.size wr _ T from ⟨xs, HO.out, HE.out⟩).below (bel_words (Below.refl _ _) hb3), by rw [HALL.out, toldG_nl i _ _ _ HI.out, List.nil_append, tell_none HW.out, List.nil_append], by omega, by omega, bel_words hbel hb3⟩
          case measure => simp only [lenOfV]; omega
        · have HW := Lib.hid hws
          clear hws
          go_wp2_with (first | (go_at_call 25; refine (cut10_yes a' n' c' l' wr.heap.size i _ (HBA.out _) (World.cell?_alloc_new _ _ _ _) hn' HI.out).mono ?_; rintro e w2 ⟨rfl, q, rfl⟩) | (go_at_call 26; refine (words_some a' i c' (l'.take i) _ ((HQ.out _ _).take (Nat.le_of_lt HLT.out)) HW.out).mono ?_; rintro e w3 ⟨p, k, rfl, hk, hs, hb3⟩) | (at_builtin; refine wpList_append_own _ rfl _ _ 50 rfl w.heap.size 53 i0 (.agg #[.int .i64 0, .slice none 0 0]) 2 32 Tryd.underlying50 hi hz0 hz1 hz2 rfl (by decide) _ _ _ rfl ((own_below (own_drewN (HO.out.alloc _) q) hb3).alloc _) ⟨w3.heap.size, 0, none⟩ 1 1 [.int .i64 N, .slice p k k] rfl rfl (new_cells _ _ _ _) (by simp [Value.oneCell']) (by unfold maxLen; omega) (by omega) (by have := (bel_words hbel hb3).size; show w.heap.size ≤ (w3.heap.push _).size; simp; omega) ?_; intro v' w5 hown5 hg5 _))
          go_roundw
          case rel => exact ⟨_, _, _, N + 1, _, T ++ [(N, wordsOf (l'.take i))], rfl, by go_num, HF.out, HOLD.out, LinesAt.push ((own_below (own_drewN (HO.out.alloc _) q) hb3).alloc _) (fun i no ws h => by obtain ⟨x1, wv, x2, x3⟩ := HE.out i no ws h; exact ⟨x1, wv, x2, (x3.below (bel_words (Below.refl _ _) hb3)).below (Below.alloc (Below.refl _ _) (Nat.le_refl _) _)⟩) ((hs.out.base (by show w.heap.size ≤ (wr.heap.push _).size; simp; omega)).below (Below.alloc (Below.refl _ _) (Nat.le_refl _) _)) hown5 hg5, by rw [HALL.out, toldG_nl i _ _ _ HI.out, List.nil_append, tell_some HW.out, List.append_assoc], by simp; omega, by omega, ((bel_words hbel hb3).alloc (bel_words hbel hb3).size _).grown hg5 (by have := (bel_words hbel hb3).size; show w.heap.size ≤ (w3.heap.push _).size; simp; omega) (fun g hg => (HO.out.lt g hg).1)⟩
          case measure => simp only [lenOfV]; omega
    · have HALL := Lib.hid hall
      have HT := Lib.hid htold
      obtain rfl : l' = [] := List.eq_nil_of_length_eq_zero (by have := hba.len; omega)
      clear hall htold hba
      go_wp2
      go_ret
      exact ⟨_, rfl, by rw [HALL.out, told_end, List.append_nil]; exact HT.out, hbel⟩
end Go.Proofs.YtpighkpdnifejaaDoor

namespace Go.Proofs.YtpighkpdnifejaaDoor
open Go.RowKit Go.Lib Go.Tx
theorem ret_num {l : List UInt8} {m a : Int} {b : Bool} (h : numRes l m = (a, b)) : Ending.returned (.tuple #[.int .i64 a, .bool b]) = .returned (.tuple #[.int .i64 (numRes l m).1, .bool (numRes l m).2]) := by rw [h]
theorem head_eq (s : ByteArray) (h1 : 1 ≤ s.size) : s.data.toList.head? = some s[0] := by
  rw [List.head?_eq_getElem?]
  have : s.data.toList.length = s.size := rfl
  rw [List.getElem?_eq_getElem (by omega)]
  rfl
theorem u8_48 (c : UInt8) : ((c.toNat : Int) == 48) = (c == 48) := by
  by_cases h : c = 48
  · subst h; rfl
  · rw [beq_eq_false_iff_ne.2 h, beq_eq_false_iff_ne]
    intro h2
    exact h (UInt8.toNat_inj.1 (by show c.toNat = 48; omega))
theorem size_len (s : ByteArray) : s.data.toList.length = s.size := rfl
end Go.Proofs.YtpighkpdnifejaaDoor

namespace Go.Tx
def okN (l : List UInt8) : Bool := (numRes l 255).2
def byN (l : List UInt8) : UInt8 := UInt8.ofNat (numRes l 255).1.toNat
def fourP (p : List (List UInt8)) : Option (List UInt8) := if p.length = 4 ∧ p.all okN = true then some (p.map byN) else none
theorem numRes_bd (l : List UInt8) (h : okN l = true) : 0 ≤ (numRes l 255).1 ∧ (numRes l 255).1 ≤ 255 := by
  unfold okN at h
  unfold numRes at h ⊢
  split
  · simp
  · split
    · simp
    · rename_i h1 h2
      simp
      omega
theorem byN_int (l : List UInt8) (h : okN l = true) : ((byN l).toNat : Int) = (numRes l 255).1 := by
  have := numRes_bd l h
  unfold byN
  simp
  omega
def u8V (l : List UInt8) : List Value := l.map fun c => .int .u8 (c.toNat : Int)
end Go.Tx
namespace Go.Proofs.YtpighkpdnifejaaDoor
open Go.RowKit Go.Lib Go.Tx
def FourR (w : World) (r : Option (List UInt8)) (e : Ending) (w' : World) : Prop := e = .returned (.tuple #[.string ⟨(r.getD []).toArray⟩, .bool r.isSome]) ∧ Below w.heap.size w w'
theorem info5 : (Tryd.prog.info? 5).map (fun i => (i.zero, i.size, i.bytes)) = some (some (.int .u8 0), 1, 1) := by kernel_rfl
theorem byte_cell (w : World) (x : Int) (e : TypeId) : ∀ j u, [Value.int .u8 x][j]? = some u → (w.alloc (.cells #[.int .u8 x] e)).cell? ((⟨w.heap.size, 0, none⟩ : Addr).add j) = some u := by
  intro j u hj
  have ha : (⟨w.heap.size, 0, none⟩ : Addr).add j = ⟨w.heap.size, j, none⟩ := by unfold Addr.add; split <;> simp_all
  rw [ha, World.cell?_alloc_new]
  simpa using hj
/-- string(b) of a row of bytes of the call's own. -/
theorem own_str {w : World} {B : Nat} {v : Value} {l : List UInt8} (h : w.ownsRow B 5 1 v l.length (u8V l)) : (convert 22 9 v).run Tryd.prog w = .ok (.string ⟨l.toArray⟩) w := by
  rcases h.2 with ⟨rfl, h2⟩ | ⟨g, cap, cur, rfl, _⟩
  · obtain rfl : l = [] := List.eq_nil_of_length_eq_zero h2
    rw [run_convert_bytes_string w 22 9 5 none 0 0 Tryd.underlying22 Tryd.underlying5 Tryd.underlying9]
    rfl
  · refine run_convert_bytes_back w 22 9 5 ⟨g, 0, none⟩ cap l Tryd.underlying22 Tryd.underlying5 Tryd.underlying9 fun j hj => ?_
    have ha : (⟨g, 0, none⟩ : Addr).add j = ⟨g, j, none⟩ := by unfold Addr.add; split <;> simp_all
    rw [ha, h.cellAt j (by omega)]
    simp [u8V, hj]
theorem fourP_no {p : List (List UInt8)} {k : Nat} {l : List UInt8} (h : p[k]? = some l) (hn : okN l = false) : fourP p = none := by
  unfold fourP
  rw [if_neg]
  rintro ⟨_, h2⟩
  rw [List.all_eq_true] at h2
  have := h2 l (List.mem_of_getElem? h)
  rw [hn] at this
  cases this
theorem own_push {w' : World} {B k : Nat} {v' : Value} {P : List (List UInt8)} {l : List UInt8} {x : Int} (hl : P[k]? = some l) (hx : ((byN l).toNat : Int) = x)
    (h : w'.ownsRow B 5 1 v' (k + 1) (u8V ((P.take k).map byN) ++ [.int .u8 x])) : w'.ownsRow B 5 1 v' (k + 1) (u8V ((P.take (k + 1)).map byN)) := by
  have hk := (List.getElem?_eq_some_iff.1 hl).1
  have e : P.take (k + 1) = P.take k ++ [l] := by
    rw [List.take_succ_eq_append_getElem hk]
    rw [List.getElem?_eq_getElem hk] at hl
    cases hl
    rfl
  rw [e]
  unfold u8V at h ⊢
  rw [List.map_append, List.map_append]
  rw [← hx] at h
  exact h
theorem all_push {P : List (List UInt8)} {k : Nat} {l : List UInt8} (hl : P[k]? = some l) (h : (P.take k).all okN = true) (ho : okN l = true) : (P.take (k + 1)).all okN = true := by
  have hk := (List.getElem?_eq_some_iff.1 hl).1
  have e : P.take (k + 1) = P.take k ++ [l] := by
    rw [List.take_succ_eq_append_getElem hk]
    rw [List.getElem?_eq_getElem hk] at hl
    cases hl
    rfl
  rw [e, List.all_append, h]
  simp [ho]
end Go.Proofs.YtpighkpdnifejaaDoor

namespace Go.Tx
/-- Digits before a text, until nothing is left of the number. -/
def decG (k : Nat) (s : List UInt8) : List UInt8 :=
  if h : k = 0 then (if s = [] then [48] else s) else decG (k / 10) (UInt8.ofNat (48 + k % 10) :: s)
termination_by k
decreasing_by omega
theorem decG_zero (s : List UInt8) (h : ¬ s = []) : decG 0 s = s := by unfold decG; simp [h]
theorem decG_pos {k : Nat} (s : List UInt8) (h : 0 < k) : decG k s = decG (k / 10) (UInt8.ofNat (48 + k % 10) :: s) := by
  rw [decG, dif_neg (by omega)]
theorem decG_nil : decG 0 [] = decG (0 / 10) (UInt8.ofNat (48 + 0 % 10) :: []) := by
  show decG 0 [] = decG 0 [48]
  rw [decG_zero [48] (by simp)]
  unfold decG; simp
def emptyN : Value → Nat
  | .string s => 1 - s.size
  | _ => 0
end Go.Tx
namespace Go.Proofs.YtpighkpdnifejaaDoor
open Go.RowKit Go.Lib Go.Tx
theorem toList_data (s : ByteArray) : s.toList = s.data.toList := by
  exact Go.Lib.toList_data s
theorem byte_str (w : World) (c : UInt8) : (convert 22 9 (.slice (some ⟨w.heap.size, 0, none⟩) 1 1)).run Tryd.prog (w.alloc (.cells #[.int .u8 (c.toNat : Int)] 5)) = .ok (.string ⟨#[c]⟩) (w.alloc (.cells #[.int .u8 (c.toNat : Int)] 5)) := by
  have := run_convert_bytes_back (P := Tryd.prog) (w.alloc (.cells #[.int .u8 (c.toNat : Int)] 5)) 22 9 5 ⟨w.heap.size, 0, none⟩ 1 [c] Tryd.underlying22 Tryd.underlying5 Tryd.underlying9 (fun j hj => by
    have ha : (⟨w.heap.size, 0, none⟩ : Addr).add j = ⟨w.heap.size, j, none⟩ := by unfold Addr.add; split <;> simp_all
    rw [ha, World.cell?_alloc_new]
    have : j = 0 := by simpa using hj
    subst this
    rfl)
  exact this
def TextR (w : World) (l : List UInt8) (e : Ending) (w' : World) : Prop := e = .returned (.string ⟨l.toArray⟩) ∧ Below w.heap.size w w'
end Go.Proofs.YtpighkpdnifejaaDoor

namespace Go.Proofs.YtpighkpdnifejaaDoor
open Go.RowKit Go.Lib Go.Tx Go.Proofs
def OneR (w : World) (ws : List (List UInt8)) (e : Ending) (w' : World) : Prop := ∃ v, e = .returned v ∧ StrC w.heap.size w' v ws ∧ Below w.heap.size w w'
theorem one_long (a : Option Addr) (n c : Nat) (l : List UInt8) (w : World) (h : BA w a n c l) (hn : 512 < n) :
    Calls Tryd.prog 30 #[.slice a n c] w (OneR w (wordsOf l)) := by
  have hb : Hid (wordsOf l = []) := Lib.hid (by have := h.len; simp [wordsOf, badSeg, this, hn])
  have hcap := h.cap
  have hmax := h.max
  go_enter Tryd.func30, Tryd.ntmps30
  go_wp2
  go_ret
  exact ⟨_, rfl, by rw [hb.out]; exact World.ownsRow_nil _ _ _ _, Below.refl _ _⟩
/-- A foreign byte in it. -/
theorem words_for {l : List UInt8} {k : Nat} {b : UInt8} (h : l[k]? = some b) (hb : forB b = true) : wordsOf l = [] := by
  have : l.any forB = true := any_yes l k b h hb
  simp [wordsOf, badSeg, this]
theorem nil_own (B : Nat) (w : World) (ws : List (List UInt8)) (h : ws = []) : StrC B w (.slice none 0 0) ws := by
  subst h; exact World.ownsRow_nil _ _ _ _
theorem forB_hi {c : UInt8} (h : 127 ≤ (c.toNat : Int)) : forB c = true := by
  have : 127 ≤ c.toNat := by omega
  simp [forB, this]
theorem forB_lo {c : UInt8} (h : (c.toNat : Int) < 32) (hb : blankN c.toNat = false) : forB c = true := by
  have : c.toNat < 32 := by omega
  simp [forB, this, hb]
theorem forB_blank {c : UInt8} (h : (c.toNat : Int) < 127) (hb : blankN c.toNat = true) : forB c = false := by
  have : ¬ 127 ≤ c.toNat := by omega
  simp [forB, this, hb]
theorem forB_mid {c : UInt8} (h : (c.toNat : Int) < 127) (h2 : 32 ≤ (c.toNat : Int)) : forB c = false := by
  have h1 : ¬ 127 ≤ c.toNat := by omega
  have h3 : ¬ c.toNat < 32 := by omega
  simp [forB, h1, h3]
/-- The sign, or what stands behind it: nothing turns. -/
theorem _root_.Go.Tx.OneI.stay {l : List UInt8} {w wr : World} {k : Nat} {rest word lv : Value} {s : ByteArray} {b : UInt8} (h : OneI l w k rest word lv wr s) (hb : l[k]? = some b) (hf : forB b = false) (hr : (35 : UInt8) ∈ l.take k ∨ b = 35) : OneI l w (k + 1) (.bool true) word lv wr s :=
  ⟨by rw [decide_eq_true ((mem_snoc hb).2 hr)], h.word, by rw [ust_rest hb hr]; exact h.text, by rw [ust_rest hb hr]; exact h.row, any_snoc hb h.fine hf, h.bel⟩
theorem _root_.Go.Tx.OneI.start (l : List UInt8) (w : World) : OneI l w 0 (.bool false) (.string ⟨#[]⟩) (.slice none 0 0) w ⟨#[]⟩ :=
  ⟨by simp, rfl, rfl, World.ownsRow_nil _ _ _ _, rfl, Below.refl _ _⟩
/-- A blank, no word open. -/
theorem _root_.Go.Tx.OneI.blank0 {l : List UInt8} {w wr : World} {k : Nat} {rest word lv : Value} {s : ByteArray} {b : UInt8} (h : OneI l w k rest word lv wr s) (hb : l[k]? = some b) (hf : forB b = false) (hr : ¬ (35 : UInt8) ∈ l.take k) (h35 : ¬ b = 35) (hbl : blankN b.toNat = true) (hs : s.data.toList = []) : OneI l w (k + 1) (.bool false) (.string ⟨#[]⟩) lv wr ⟨#[]⟩ := by
  have hu : (ust l k).1 = [] := by rw [← h.text]; exact hs
  have e := (ust_step hb hr h35).trans (stepW_nil hbl hu)
  exact ⟨by rw [decide_eq_false (fun hm => by rcases (mem_snoc hb).1 hm with h | h <;> contradiction)], rfl, by rw [e], by rw [e]; exact h.row, any_snoc hb h.fine hf, h.bel⟩
/-- A blank behind a word. -/
theorem _root_.Go.Tx.OneI.blank1 {l : List UInt8} {w wr w' : World} {k : Nat} {rest word lv lv' : Value} {s : ByteArray} {b : UInt8} (h : OneI l w k rest word lv wr s) (hb : l[k]? = some b) (hf : forB b = false) (hr : ¬ (35 : UInt8) ∈ l.take k) (h35 : ¬ b = 35) (hbl : blankN b.toNat = true) (hs : ¬ s.data.toList = [])
    (ho : w'.ownsRow w.heap.size 9 1 lv' ((ust l k).2.length + 1) ((ust l k).2.map strV ++ [.string s])) (hbel : Below w.heap.size w w') : OneI l w (k + 1) (.bool false) (.string ⟨#[]⟩) lv' w' ⟨#[]⟩ := by
  have hu : ¬ (ust l k).1 = [] := by rw [← h.text]; exact hs
  have e := (ust_step hb hr h35).trans (stepW_end hbl hu)
  have hv : Value.string s = strV (ust l k).1 := by rw [← h.text]; unfold strV; simp
  refine ⟨by rw [decide_eq_false (fun hm => by rcases (mem_snoc hb).1 hm with h | h <;> contradiction)], rfl, by rw [e], ?_, any_snoc hb h.fine hf, hbel⟩
  rw [e]
  unfold StrC
  rw [List.length_append, List.map_append]
  rw [hv] at ho
  exact ho
/-- A letter. -/
theorem _root_.Go.Tx.OneI.letter {l : List UInt8} {w wr w' : World} {k : Nat} {rest word lv : Value} {s : ByteArray} {b : UInt8} (h : OneI l w k rest word lv wr s) (hb : l[k]? = some b) (hf : forB b = false) (hr : ¬ (35 : UInt8) ∈ l.take k) (h35 : ¬ b = 35) (hbl : ¬ blankN b.toNat = true)
    (hbel : Below wr.heap.size wr w') : OneI l w (k + 1) (.bool false) (.string (s ++ ⟨#[b]⟩)) lv w' (s ++ ⟨#[b]⟩) := by
  have e := (ust_step hb hr h35).trans (stepW_in hbl)
  refine ⟨by rw [decide_eq_false (fun hm => by rcases (mem_snoc hb).1 hm with h | h <;> contradiction)], rfl, ?_, ?_, any_snoc hb h.fine hf, h.bel.trans (hbel.mono h.bel.size)⟩
  · rw [e]; simp [h.text]
  · rw [e]; exact own_below h.row hbel
end Go.Proofs.YtpighkpdnifejaaDoor

namespace Go.Proofs.YtpighkpdnifejaaDoor
open Go.RowKit Go.Lib Go.Tx Go.Proofs
theorem words_end {l : List UInt8} (h1 : (l.take l.length).any forB = false) (h2 : l.length ≤ 512) : wordsOf l = closeW (ust l l.length) := by
  rw [List.take_length] at h1
  unfold wordsOf badSeg ust
  rw [h1, decide_eq_false (by omega), List.take_length]
  rfl
set_option maxHeartbeats 4000000 in
set_option maxRecDepth 100000 in
theorem one_ok (a : Option Addr) (n c : Nat) (l : List UInt8) (w : World) (h : BA w a n c l) (hold : ∀ x, a = some x → x.block < w.heap.size) (hn : n ≤ 512) :
    Calls Tryd.prog 30 #[.slice a n c] w (OneR w (wordsOf l)) := by
  obtain ⟨i9, hi, hz0, hz1, hz2⟩ := info_parts info9o
  have hcap := h.cap
  have hmax := h.max
  have HL := Lib.hid h.len
  have HBA := Lib.hid h
  have HOLD := Lib.hid hold
  clear h hold
  go_enter Tryd.func30, Tryd.ntmps30
  go_wp2
  go_loopw [3, 4, 5, 6] (fun lv word rest i wr => ∃ k s, k ≤ n ∧ i = .int .i64 (k : Nat) ∧ OneI l w k rest word lv wr s) (fun _ _ _ i _ => n - (intOf i).toNat)
  case atStart => exact ⟨0, _, Nat.zero_le _, rfl, Go.Tx.OneI.start l w⟩
  case round =>
    obtain ⟨k, s, hk, rfl, hI⟩ := hrel
    have hul := ust_len l k
    have hsz : s.size ≤ 512 := by
      have h1 : s.data.toList.length = s.size := rfl
      rw [hI.text] at h1
      omega
    have hul2 : (ust l k).2.length ≤ 512 := by omega
    have hws := hI.bel.size
    clear hul
    have hrest := hI.rest
    have hword := hI.word
    subst hrest hword
    have HI := Lib.hid hI
    clear hI
    by_cases hlt : k < n
    · obtain ⟨b, hb⟩ : ∃ b, l[k]? = some b := ⟨_, List.getElem?_eq_getElem (by rw [HL.out]; exact hlt)⟩
      obtain ⟨x, rfl⟩ : ∃ x, a = some x := by
        cases a with
        | none => have := HBA.out.none rfl; omega
        | some x => exact ⟨x, rfl⟩
      have hcell := (HBA.out.below HI.out.bel HOLD.out).cell x rfl k b hb
      have HK := Lib.hid hb
      clear hb
      by_cases h127 : 127 ≤ (b.toNat : Int)
      · go_wp2
        go_ret
        exact ⟨_, rfl, nil_own _ _ _ (words_for HK.out (forB_hi h127)), HI.out.bel⟩
      · have h127 : (b.toNat : Int) < 127 := by omega
        by_cases h32 : (b.toNat : Int) < 32
        · cases hbl : blankN b.toNat with
          | false =>
            have HB := Lib.hid hbl
            clear hbl
            go_wp2_with (go_at_call 49; refine (blank_any b _).mono ?_; rw [HB.out]; rintro e w' ⟨rfl, rfl⟩)
            go_ret
            exact ⟨_, rfl, nil_own _ _ _ (words_for HK.out (forB_lo h32 HB.out)), HI.out.bel⟩
          | true =>
            have HB := Lib.hid hbl
            have HF := Lib.hid (forB_blank h127 hbl)
            clear hbl
            cases hd : decide ((35 : UInt8) ∈ l.take k) with
            | true =>
              have HM := Lib.hid (of_decide_eq_true hd)
              clear hd
              go_wp2_with (go_at_call 49; refine (blank_any b _).mono ?_; rw [HB.out]; rintro e w' ⟨rfl, rfl⟩)
              go_roundw
              case rel => exact ⟨k + 1, _, hlt, by go_num, HI.out.stay HK.out HF.out (.inl HM.out)⟩
              case measure => simp [intOf]; omega
            | false =>
              have HM := Lib.hid (of_decide_eq_false hd)
              clear hd
              have e35 : ((b.toNat : Int) == 35) = false := by rw [beq_eq_false_iff_ne]; omega
              have H35 : Hid (¬ b = 35) := Lib.hid (by rintro rfl; revert h32; decide)
              by_cases hs : s.data.toList = []
              · have e1 : s.toList = [] := by rw [toList_data]; exact hs
                have HS := Lib.hid hs
                clear hs
                go_wp2_with (go_at_call 49; refine (blank_any b _).mono ?_; rw [HB.out]; rintro e w' ⟨rfl, rfl⟩)
                go_roundw
                case rel => exact ⟨k + 1, _, hlt, by go_num, HI.out.blank0 HK.out HF.out HM.out H35.out HB.out HS.out⟩
                case measure => simp [intOf]; omega
              · have e1 : ¬ s.toList = [] := by rw [toList_data]; exact hs
                have e2 : s.toList.isEmpty = false := by cases hh : s.toList with | nil => exact absurd hh e1 | cons x y => rfl
                have HS := Lib.hid hs
                clear hs
                go_wp2_with (first | (go_at_call 49; refine (blank_any b _).mono ?_; rw [HB.out]; rintro e w' ⟨rfl, rfl⟩) | (at_builtin; refine wpList_append_own _ rfl _ _ 44 rfl w.heap.size 9 i9 (.string ⟨#[]⟩) 1 16 Tryd.underlying44 hi hz0 hz1 hz2 rfl (by decide) _ _ _ rfl (HI.out.row.alloc _) ⟨wr.heap.size, 0, none⟩ 1 1 [.string s] rfl rfl (one_cell _ _ _) (by simp [Value.oneCell']) (by unfold maxLen; omega) (by omega) (by show w.heap.size ≤ (wr.heap.push _).size; simp; omega) ?_; intro v' w5 hown5 hg5 _))
                go_roundw
                case rel => exact ⟨k + 1, _, hlt, by go_num, HI.out.blank1 HK.out HF.out HM.out H35.out HB.out HS.out hown5 ((HI.out.bel.alloc HI.out.bel.size _).grown hg5 (by show w.heap.size ≤ (wr.heap.push _).size; have := HI.out.bel.size; simp; omega) (fun g hg => (HI.out.row.lt g hg).1))⟩
                case measure => simp [intOf]; omega
        · have h32 : 32 ≤ (b.toNat : Int) := by omega
          have HF := Lib.hid (forB_mid h127 h32)
          cases hd : decide ((35 : UInt8) ∈ l.take k) with
          | true =>
            have HM := Lib.hid (of_decide_eq_true hd)
            clear hd
            go_wp2
            go_roundw
            case rel => exact ⟨k + 1, _, hlt, by go_num, HI.out.stay HK.out HF.out (.inl HM.out)⟩
            case measure => simp [intOf]; omega
          | false =>
            have HM := Lib.hid (of_decide_eq_false hd)
            clear hd
            by_cases h35 : b = 35
            · have e35 : ((b.toNat : Int) == 35) = true := by subst h35; rfl
              have H35 := Lib.hid h35
              clear h35
              go_wp2
              go_roundw
              case rel => exact ⟨k + 1, _, hlt, by go_num, HI.out.stay HK.out HF.out (.inr H35.out)⟩
              case measure => simp [intOf]; omega
            · have e35 : ((b.toNat : Int) == 35) = false := by rw [beq_eq_false_iff_ne]; intro h; exact h35 (UInt8.toNat_inj.1 (by show b.toNat = 35; omega))
              have H35 := Lib.hid h35
              clear h35
              cases hbl : blankN b.toNat with
              | true =>
                have HB := Lib.hid hbl
                clear hbl
                by_cases hs : s.data.toList = []
                · have e1 : s.toList = [] := by rw [toList_data]; exact hs
                  have HS := Lib.hid hs
                  clear hs
                  go_wp2_with (go_at_call 49; refine (blank_any b _).mono ?_; rw [HB.out]; rintro e w' ⟨rfl, rfl⟩)
                  go_roundw
                  case rel => exact ⟨k + 1, _, hlt, by go_num, HI.out.blank0 HK.out HF.out HM.out H35.out HB.out HS.out⟩
                  case measure => simp [intOf]; omega
                · have e1 : ¬ s.toList = [] := by rw [toList_data]; exact hs
                  have e2 : s.toList.isEmpty = false := by cases hh : s.toList with | nil => exact absurd hh e1 | cons x y => rfl
                  have HS := Lib.hid hs
                  clear hs
                  go_wp2_with (first | (go_at_call 49; refine (blank_any b _).mono ?_; rw [HB.out]; rintro e w' ⟨rfl, rfl⟩) | (at_builtin; refine wpList_append_own _ rfl _ _ 44 rfl w.heap.size 9 i9 (.string ⟨#[]⟩) 1 16 Tryd.underlying44 hi hz0 hz1 hz2 rfl (by decide) _ _ _ rfl (HI.out.row.alloc _) ⟨wr.heap.size, 0, none⟩ 1 1 [.string s] rfl rfl (one_cell _ _ _) (by simp [Value.oneCell']) (by unfold maxLen; omega) (by omega) (by show w.heap.size ≤ (wr.heap.push _).size; simp; omega) ?_; intro v' w5 hown5 hg5 _))
                  go_roundw
                  case rel => exact ⟨k + 1, _, hlt, by go_num, HI.out.blank1 HK.out HF.out HM.out H35.out HB.out HS.out hown5 ((HI.out.bel.alloc HI.out.bel.size _).grown hg5 (by show w.heap.size ≤ (wr.heap.push _).size; have := HI.out.bel.size; simp; omega) (fun g hg => (HI.out.row.lt g hg).1))⟩
                  case measure => simp [intOf]; omega
              | false =>
                have HB := Lib.hid hbl
                clear hbl
                have hbs := byte_str wr b
                go_wp2_with (go_at_call 49; refine (blank_any b _).mono ?_; rw [HB.out]; rintro e w' ⟨rfl, rfl⟩)
                go_roundw
                case rel => exact ⟨k + 1, _, hlt, by go_num, HI.out.letter HK.out HF.out HM.out H35.out (by rw [HB.out]; decide) ((Below.refl _ _).alloc (Nat.le_refl _) _)⟩
                case measure => simp [intOf]; omega
    · obtain rfl : k = n := by omega
      have hend : Hid (wordsOf l = closeW (ust l k)) := Lib.hid (by
        have h1 := HI.out.fine
        have h2 := HL.out
        subst h2
        exact words_end h1 hn)
      by_cases hs : s.data.toList = []
      · have e1 : s.toList = [] := by rw [toList_data]; exact hs
        have HS := Lib.hid hs
        clear hs
        go_wp2
        go_ret
        exact ⟨_, rfl, by rw [hend.out]; unfold closeW; rw [if_pos (by rw [← HI.out.text]; exact HS.out)]; exact HI.out.row, HI.out.bel⟩
      · have e1 : ¬ s.toList = [] := by rw [toList_data]; exact hs
        have e2 : s.toList.isEmpty = false := by cases hh : s.toList with | nil => exact absurd hh e1 | cons x y => rfl
        have HS := Lib.hid hs
        clear hs
        go_wp2_with (at_builtin; refine wpList_append_own _ rfl _ _ 44 rfl w.heap.size 9 i9 (.string ⟨#[]⟩) 1 16 Tryd.underlying44 hi hz0 hz1 hz2 rfl (by decide) _ _ _ rfl (HI.out.row.alloc _) ⟨wr.heap.size, 0, none⟩ 1 1 [.string s] rfl rfl (one_cell _ _ _) (by simp [Value.oneCell']) (by unfold maxLen; omega) (by omega) (by show w.heap.size ≤ (wr.heap.push _).size; simp; omega) ?_; intro v' w5 hown5 hg5 _)
        go_ret
        refine ⟨_, rfl, ?_, (HI.out.bel.alloc HI.out.bel.size _).grown hg5 (by show w.heap.size ≤ (wr.heap.push _).size; have := HI.out.bel.size; simp; omega) (fun g hg => (HI.out.row.lt g hg).1)⟩
        rw [hend.out]
        unfold closeW
        rw [if_neg (by rw [← HI.out.text]; exact HS.out)]
        unfold StrC
        rw [List.length_append, List.map_append]
        have hv : Value.string s = strV (ust l k).1 := by rw [← HI.out.text]; unfold strV; simp
        rw [hv] at hown5
        exact hown5
theorem one_any (a : Option Addr) (n c : Nat) (l : List UInt8) (w : World) (h : BA w a n c l) (hold : ∀ x, a = some x → x.block < w.heap.size) :
    Calls Tryd.prog 30 #[.slice a n c] w (OneR w (wordsOf l)) := by
  by_cases hn : 512 < n
  · exact one_long a n c l w h hn
  · exact one_ok a n c l w h hold (by omega)
end Go.Proofs.YtpighkpdnifejaaDoor

namespace Go.Tx
open Go.RowKit
theorem StrC.of {B : Nat} {w : World} {v : Value} {ws : List (List UInt8)} (h : Strs B w v ws) : StrC B w v ws := by
  rcases h with ⟨rfl, rfl⟩ | ⟨A, rfl, _, h⟩
  · exact World.ownsRow_nil _ _ _ _
  · exact h
theorem StrC.grown {E B : Nat} {v : Value} {ws : List (List UInt8)} {w w' : World} {row : Option Nat} (hE : E ≠ 9) (h : StrC B w v ws) (hg : w.grownBy w' row) (hr : ∀ g, row = some g → ∃ cur fr, w.heap[g]? = some (.cells cur E fr)) : StrC B w' v ws := by
  refine World.ownsRow.kept h hg ?_
  rcases h.2 with ⟨a, _⟩ | ⟨A, cap, cur, a, _, hh, _⟩
  · left; rw [a]; rfl
  · right
    rw [a]
    cases row with
    | none => simp [Value.ownBlock]
    | some g =>
      simp only [Value.ownBlock, ne_eq, Option.some.injEq]
      rintro rfl
      obtain ⟨cur', fr, hc⟩ := hr A rfl
      rw [hc] at hh
      cases hh
      exact hE rfl
def LinesC (E B : Nat) (w : World) (v : Value) (T : List (Nat × List (List UInt8))) : Prop :=
  ∃ xs, w.ownsRow B E 2 v T.length xs ∧ ∀ (i no : Nat) (ws : List (List UInt8)), T[i]? = some (no, ws) → xs[2 * i]? = some (.int .i64 (no : Int)) ∧ ∃ wv, xs[2 * i + 1]? = some wv ∧ StrC B w wv ws
theorem LinesC.of {B : Nat} {w : World} {v : Value} {T : List (Nat × List (List UInt8))} (h : LinesAt B w v T) : LinesC 53 B w v T := by
  obtain ⟨xs, h1, h2⟩ := h
  refine ⟨xs, h1, fun i no ws hi => ?_⟩
  obtain ⟨a, wv, b, c⟩ := h2 i no ws hi
  exact ⟨a, wv, b, StrC.of c⟩
theorem LinesC.nil (E B : Nat) (w : World) : LinesC E B w (.slice none 0 0) [] := ⟨[], World.ownsRow_nil w B E 2, by simp⟩
theorem LinesC.below {E B : Nat} {v : Value} {T : List (Nat × List (List UInt8))} {w w' : World} (h : LinesC E B w v T) (hb : Below w.heap.size w w') : LinesC E B w' v T := by
  obtain ⟨xs, h1, h2⟩ := h
  refine ⟨xs, own_below h1 hb, fun i no ws hi => ?_⟩
  obtain ⟨a, wv, b, c⟩ := h2 i no ws hi
  exact ⟨a, wv, b, own_below c hb⟩
theorem LinesC.shape {E B : Nat} {v : Value} {T : List (Nat × List (List UInt8))} {w : World} (h : LinesC E B w v T) : ∃ p c, v = .slice p T.length c := by
  obtain ⟨xs, h1, _⟩ := h
  rcases h1.2 with ⟨a, b⟩ | ⟨g, cap, cur, a, _⟩
  · exact ⟨none, 0, by rw [a, b]⟩
  · exact ⟨_, _, a⟩
theorem LinesC.push {E B : Nat} (hE : E ≠ 9) {v v' wv : Value} {T : List (Nat × List (List UInt8))} {w w' : World} {xs : List Value} {no : Nat} {ws : List (List UInt8)}
    (h1 : w.ownsRow B E 2 v T.length xs) (h2 : ∀ (i no : Nat) (ws : List (List UInt8)), T[i]? = some (no, ws) → xs[2 * i]? = some (.int .i64 (no : Int)) ∧ ∃ wv, xs[2 * i + 1]? = some wv ∧ StrC B w wv ws)
    (hs : StrC B w wv ws) (ho : w'.ownsRow B E 2 v' (T.length + 1) (xs ++ [.int .i64 (no : Int), wv])) (hg : w.grownBy w' v.ownBlock) : LinesC E B w' v' (T ++ [(no, ws)]) := by
  have hr : ∀ g, v.ownBlock = some g → ∃ cur fr, w.heap[g]? = some (.cells cur E fr) := by
    intro g hg
    rcases h1.2 with ⟨a, _⟩ | ⟨g', cap, cur, a, _, c, _⟩
    · rw [a] at hg; cases hg
    · rw [a] at hg
      cases hg
      exact ⟨cur, _, c⟩
  have hlen : xs.length = T.length * 2 := h1.1
  refine ⟨_, by simpa using ho, fun i no' ws' hi => ?_⟩
  by_cases hlt : i < T.length
  · rw [List.getElem?_append_left hlt] at hi
    obtain ⟨a, wv', b, c⟩ := h2 i no' ws' hi
    exact ⟨by rw [List.getElem?_append_left (by omega)]; exact a, wv', by rw [List.getElem?_append_left (by omega)]; exact b, c.grown hE hg hr⟩
  · have hle : i < (T ++ [(no, ws)]).length := (List.getElem?_eq_some_iff.1 hi).1
    have : i = T.length := by simp at hle; omega
    subst this
    rw [List.getElem?_append_right (Nat.le_refl _), Nat.sub_self] at hi
    cases hi
    refine ⟨?_, wv, ?_, hs.grown hE hg hr⟩
    · rw [List.getElem?_append_right (by omega), show 2 * T.length - xs.length = 0 from by omega]; rfl
    · rw [List.getElem?_append_right (by omega), show 2 * T.length + 1 - xs.length = 1 from by omega]; rfl
theorem LinesC.read {E B : Nat} {w : World} {v : Value} {T : List (Nat × List (List UInt8))} (h : LinesC E B w v T) :
    ∃ p cap, v = .slice p T.length cap ∧ T.length ≤ cap ∧ cap ≤ 9223372036854775807 ∧ ∀ (i no : Nat) (ws : List (List UInt8)), T[i]? = some (no, ws) → ∃ g, p = some ⟨g, 0, none⟩ ∧ w.cell? ⟨g, 2 * i, none⟩ = some (.int .i64 (no : Int)) ∧ ∃ q c, w.cell? ⟨g, 2 * i + 1, none⟩ = some (.slice q ws.length c) ∧ StrC B w (.slice q ws.length c) ws := by
  obtain ⟨xs, h1, h2⟩ := h
  rcases h1.2 with ⟨a, b⟩ | ⟨g, cap, cur, a, a2, a3, a4, a5, _⟩
  · refine ⟨none, 0, by rw [a, b], by omega, by omega, fun i no ws hi => ?_⟩
    have := (List.getElem?_eq_some_iff.1 hi).1
    omega
  · subst a
    refine ⟨_, cap, rfl, a4, a5, fun i no ws hi => ?_⟩
    obtain ⟨x, wv, y, z⟩ := h2 i no ws hi
    have hlt : i < T.length := (List.getElem?_eq_some_iff.1 hi).1
    obtain ⟨q, c, rfl⟩ := z.shape
    exact ⟨g, rfl, by rw [h1.cellAt _ (by omega)]; exact x, q, c, by rw [h1.cellAt _ (by omega)]; exact y, z⟩
end Go.Tx

namespace Go.Tx
open Go.RowKit
/-- What holds at the head of a round. -/
structure RI (w : World) (l : List UInt8) (n k N F : Nat) (out no fr : Value) (wr : World) (T : List (Nat × List (List UInt8))) : Prop where
  no : no = .int .i64 (N : Int)
  fr : fr = .int .i64 (F : Int)
  told : LinesC 62 w.heap.size wr out T
  go : k ≤ n → F ≤ k ∧ toldG 1 [] l = T ++ toldG (N + 1) ((l.take k).drop F) (l.drop k)
  done : n < k → toldG 1 [] l = T
  few : T.length ≤ N
  few2 : N ≤ k
  bel : Below w.heap.size w wr
theorem toldG_step {l : List UInt8} {k N F : Nat} {b : UInt8} (h : l[k]? = some b) (hF : F ≤ k) (hb : ¬ b = 10) : toldG N ((l.take k).drop F) (l.drop k) = toldG N ((l.take (k + 1)).drop F) (l.drop (k + 1)) := by
  have hk := (List.getElem?_eq_some_iff.1 h).1
  have e : l.drop k = b :: l.drop (k + 1) := by
    rw [List.drop_eq_getElem_cons hk]
    rw [List.getElem?_eq_getElem hk] at h
    cases h
    rfl
  rw [e, toldG, if_neg hb, take_succ' l k b h, List.drop_append_of_le_length (by rw [List.length_take]; omega)]
theorem toldG_cut {l : List UInt8} {k N F : Nat} {b : UInt8} (h : l[k]? = some b) (hb : b = 10) : toldG N ((l.take k).drop F) (l.drop k) = tell N ((l.take k).drop F) ++ toldG (N + 1) ((l.take (k + 1)).drop (k + 1)) (l.drop (k + 1)) := by
  have hk := (List.getElem?_eq_some_iff.1 h).1
  have e : l.drop k = b :: l.drop (k + 1) := by
    rw [List.drop_eq_getElem_cons hk]
    rw [List.getElem?_eq_getElem hk] at h
    cases h
    rfl
  have e2 : (l.take (k + 1)).drop (k + 1) = [] := List.drop_of_length_le (by rw [List.length_take]; omega)
  rw [e, toldG, if_pos hb, e2]
theorem toldG_last {l : List UInt8} {n N F : Nat} (h : l.length = n) : toldG N ((l.take n).drop F) (l.drop n) = tell N ((l.take n).drop F) := by
  have e : l.drop n = [] := List.drop_of_length_le (by omega)
  rw [e]
  rfl
theorem RI.start (w : World) (l : List UInt8) (n : Nat) : RI w l n 0 0 0 (.slice none 0 0) (.int .i64 0) (.int .i64 0) w [] :=
  ⟨rfl, rfl, LinesC.nil _ _ _, fun _ => ⟨Nat.le_refl _, by simp⟩, fun h => by omega, Nat.zero_le _, Nat.le_refl _, Below.refl _ _⟩
theorem RI.skip {w wr : World} {l : List UInt8} {n k N F : Nat} {out no fr : Value} {T : List (Nat × List (List UInt8))} {b : UInt8} (h : RI w l n k N F out no fr wr T) (hl : l.length = n) (hb : l[k]? = some b) (h10 : ¬ b = 10) : RI w l n (k + 1) N F out no fr wr T := by
  have hk := (List.getElem?_eq_some_iff.1 hb).1
  obtain ⟨h1, h2⟩ := h.go (by omega)
  exact ⟨h.no, h.fr, h.told, fun _ => ⟨by omega, by rw [h2, toldG_step hb h1 h10]⟩, fun h => by omega, h.few, by have := h.few2; omega, h.bel⟩
/-- A line ends; nothing is told of it. -/
theorem RI.none {w wr w' : World} {l : List UInt8} {n k N F : Nat} {out no fr : Value} {T : List (Nat × List (List UInt8))} (h : RI w l n k N F out no fr wr T) (hl : l.length = n) (hk : k ≤ n) (hb : k < n → l[k]? = some 10)
    (hw : wordsOf ((l.take k).drop F) = []) (hbel : Below wr.heap.size wr w') : RI w l n (k + 1) (N + 1) (k + 1) out (.int .i64 ((N + 1 : Nat) : Int)) (.int .i64 ((k + 1 : Nat) : Int)) w' T := by
  obtain ⟨h1, h2⟩ := h.go hk
  have ht : tell (N + 1) ((l.take k).drop F) = [] := by simp [tell, hw]
  refine ⟨rfl, rfl, h.told.below hbel, fun h3 => ⟨Nat.le_refl _, ?_⟩, fun h3 => ?_, by have := h.few; omega, by have := h.few2; omega, h.bel.trans (hbel.mono h.bel.size)⟩
  · rw [h2, toldG_cut (hb (by omega)) rfl, ht, List.nil_append]
  · have : k = n := by omega
    subst this
    rw [h2, toldG_last hl, ht, List.append_nil]
/-- A line ends; its words are told. -/
theorem RI.some {w wr w4 w' : World} {l : List UInt8} {n k N F : Nat} {out out' no fr wv : Value} {xs : List Value} {T : List (Nat × List (List UInt8))} (h : RI w l n k N F out no fr wr T) (hl : l.length = n) (hk : k ≤ n) (hb : k < n → l[k]? = some 10)
    (hw : ¬ wordsOf ((l.take k).drop F) = []) (hbel : Below w.heap.size w w') (ht' : LinesC 62 w.heap.size w' out' (T ++ [(N + 1, wordsOf ((l.take k).drop F))])) : RI w l n (k + 1) (N + 1) (k + 1) out' (.int .i64 ((N + 1 : Nat) : Int)) (.int .i64 ((k + 1 : Nat) : Int)) w' (T ++ [(N + 1, wordsOf ((l.take k).drop F))]) := by
  obtain ⟨h1, h2⟩ := h.go hk
  have ht : tell (N + 1) ((l.take k).drop F) = [(N + 1, wordsOf ((l.take k).drop F))] := by simp [tell, hw]
  refine ⟨rfl, rfl, ht', fun h3 => ⟨Nat.le_refl _, ?_⟩, fun h3 => ?_, by have := h.few; simp; omega, by have := h.few2; omega, hbel⟩
  · rw [h2, toldG_cut (hb (by omega)) rfl, ht, List.append_assoc]
  · have : k = n := by omega
    subst this
    rw [h2, toldG_last hl, ht]
end Go.Tx
namespace Go.Proofs.YtpighkpdnifejaaDoor
open Go.RowKit Go.Lib Go.Tx Go.Proofs
theorem one_none (a : Option Addr) (n c : Nat) (l : List UInt8) (w : World) (h : BA w a n c l) (hold : ∀ x, a = some x → x.block < w.heap.size) (hw : wordsOf l = []) :
    Calls Tryd.prog 30 #[.slice a n c] w fun e w' => ∃ p c, e = .returned (.slice p 0 c) ∧ Below w.heap.size w w' := by
  refine (one_any a n c l w h hold).mono ?_
  rintro e w' ⟨v, rfl, hs, hb⟩
  obtain ⟨p, c, rfl⟩ := hs.shape
  rw [hw]
  exact ⟨p, c, rfl, hb⟩
theorem one_some (a : Option Addr) (n c : Nat) (l : List UInt8) (w : World) (h : BA w a n c l) (hold : ∀ x, a = some x → x.block < w.heap.size) (hw : ¬ wordsOf l = []) :
    Calls Tryd.prog 30 #[.slice a n c] w fun e w' => ∃ p k c, e = .returned (.slice p k c) ∧ 0 < k ∧ Hid (StrC w.heap.size w' (.slice p k c) (wordsOf l)) ∧ Below w.heap.size w w' := by
  refine (one_any a n c l w h hold).mono ?_
  rintro e w' ⟨v, rfl, hs, hb⟩
  obtain ⟨p, c, rfl⟩ := hs.shape
  exact ⟨p, _, c, rfl, List.length_pos_iff.2 hw, Lib.hid hs, hb⟩
theorem info69 : (Tryd.prog.info? 62).map (fun i => (i.zero, i.size, i.bytes)) = some (some (.agg #[.int .i64 0, .slice none 0 0]), 2, 32) := by kernel_rfl
def RLinesR (w : World) (T : List (Nat × List (List UInt8))) (e : Ending) (w' : World) : Prop := ∃ v, e = .returned v ∧ LinesC 62 w.heap.size w' v T ∧ Below w.heap.size w w'
set_option maxHeartbeats 2000000 in
set_option maxRecDepth 100000 in
theorem rlines_any (a : Option Addr) (n c : Nat) (l : List UInt8) (w : World) (h : BA w a n c l) (hold : ∀ x, a = some x → x.block < w.heap.size) (hn : n ≤ 1000000) :
    Calls Tryd.prog 18 #[.slice a n c] w (RLinesR w (toldG 1 [] l)) := by
  obtain ⟨i9, hi, hz0, hz1, hz2⟩ := info_parts info69
  have hcap := h.cap
  have hmax := h.max
  have HL := Lib.hid h.len
  have HBA := Lib.hid h
  have HOLD := Lib.hid hold
  clear h hold
  go_enter Tryd.func18, Tryd.ntmps18
  go_wp2
  go_loopw [3, 4, 5, 6] (fun out no fr i wr => ∃ k N F T, k ≤ n + 1 ∧ i = .int .i64 (k : Nat) ∧ RI w l n k N F out no fr wr T) (fun _ _ _ i _ => n + 1 - (intOf i).toNat)
  case atStart => exact ⟨0, 0, 0, [], Nat.zero_le _, rfl, RI.start w l n⟩
  case round =>
    obtain ⟨k, N, F, T, hk, rfl, hI⟩ := hrel
    have hno := hI.no
    have hfr := hI.fr
    subst hno hfr
    have hws := hI.bel.size
    have hfew := hI.few
    have hfew2 := hI.few2
    have HI := Lib.hid hI
    clear hI
    by_cases hlt : k ≤ n
    · have hF := (HI.out.go hlt).1
      by_cases h10 : k < n ∧ l[k]? ≠ some 10
      · obtain ⟨hkn, h10⟩ := h10
        obtain ⟨b, hb⟩ : ∃ b, l[k]? = some b := ⟨_, List.getElem?_eq_getElem (by rw [HL.out]; exact hkn)⟩
        obtain ⟨x, rfl⟩ : ∃ x, a = some x := by
          cases a with
          | none => have := HBA.out.none rfl; omega
          | some x => exact ⟨x, rfl⟩
        have hcell := (HBA.out.below HI.out.bel HOLD.out).cell x rfl k b hb
        have hb10 : ¬ b = 10 := by rintro rfl; exact h10 hb
        have e10 : ((b.toNat : Int) == 10) = false := by rw [beq_eq_false_iff_ne]; intro h; exact hb10 (UInt8.toNat_inj.1 (by show b.toNat = 10; omega))
        have HB := Lib.hid hb
        have H10 := Lib.hid hb10
        clear hb hb10 h10
        go_wp2
        go_roundw
        case rel => exact ⟨k + 1, N, F, T, by omega, by go_num, HI.out.skip HL.out HB.out H10.out⟩
        case measure => simp [intOf]; omega
      · have h10' : k < n → l[k]? = some 10 := fun hkn => Classical.byContradiction fun h => h10 ⟨hkn, h⟩
        have H10 := Lib.hid h10'
        clear h10 h10'
        by_cases hcF : c = F
        · obtain rfl : n = c := by omega
          obtain rfl : k = n := by omega
          obtain rfl : F = k := by omega
          have HS : Hid (BA wr a 0 0 ((l.take F).drop F)) := Lib.hid (by
            have h1 := ((HBA.out.take (Nat.le_refl F)).from (Nat.le_refl F)).below HI.out.bel (fun x hx => by rw [if_pos rfl] at hx; exact HOLD.out x hx)
            rw [if_pos rfl, Nat.sub_self] at h1
            exact h1)
          have HSO : Hid (∀ x, a = some x → x.block < wr.heap.size) := Lib.hid fun x hx => Nat.lt_of_lt_of_le (HOLD.out x hx) hws
          have HW : Hid (wordsOf ((l.take F).drop F) = []) := Lib.hid (by
            have e : (l.take F).drop F = [] := List.drop_of_length_le (by rw [List.length_take]; omega)
            rw [e]; exact wordsOf_nil)
          go_wp2_with (go_at_call 30; refine (one_none a 0 0 ((l.take F).drop F) _ HS.out HSO.out HW.out).mono ?_; rintro e w3 ⟨p, cc, rfl, hb3⟩)
          go_roundw
          case rel => exact ⟨F + 1, N + 1, F + 1, T, by omega, by go_num, HI.out.none HL.out hlt H10.out HW.out hb3⟩
          case measure => simp [intOf]
        · obtain ⟨x, rfl⟩ : ∃ x, a = some x := by
            cases a with
            | none => have := HBA.out.none rfl; omega
            | some x => exact ⟨x, rfl⟩
          have hblk : (x.add F).block = x.block := by unfold Addr.add; split <;> rfl
          have HSO : Hid (∀ y, some (x.add F) = some y → y.block < wr.heap.size) := Lib.hid fun y hy => by
            cases hy
            rw [hblk]
            exact Nat.lt_of_lt_of_le (HOLD.out x rfl) hws
          have HS : Hid (BA wr (some (x.add F)) (k - F) (c - F) ((l.take k).drop F)) := Lib.hid (by
            have h1 := ((HBA.out.take hlt).from hF).below HI.out.bel (fun y hy => by
              rw [if_neg hcF] at hy
              cases hy
              show (x.add F).block < _
              rw [hblk]
              exact HOLD.out x rfl)
            rw [if_neg hcF] at h1
            exact h1)
          clear hblk
          by_cases hkn : k < n
          · have hcell := (HBA.out.below HI.out.bel HOLD.out).cell x rfl k 10 (H10.out hkn)
            by_cases hws0 : wordsOf ((l.take k).drop F) = []
            · have HW := Lib.hid hws0
              clear hws0
              go_wp2_with (go_at_call 30; refine (one_none _ _ _ ((l.take k).drop F) _ HS.out HSO.out HW.out).mono ?_; rintro e w3 ⟨p, cc, rfl, hb3⟩)
              go_roundw
              case rel => exact ⟨k + 1, N + 1, k + 1, T, by omega, by go_num, HI.out.none HL.out hlt H10.out HW.out hb3⟩
              case measure => simp [intOf]; omega
            · have HW := Lib.hid hws0
              clear hws0
              obtain ⟨xs, hown, hent⟩ := HI.out.told
              have HO := Lib.hid hown
              have HE := Lib.hid hent
              clear hown hent
              go_wp2_with (first | (go_at_call 30; refine (one_some _ _ _ ((l.take k).drop F) _ HS.out HSO.out HW.out).mono ?_; rintro e w3 ⟨p, kk, cc, rfl, hkk, hs3, hb3⟩) | (at_builtin; refine wpList_append_own _ rfl _ _ 58 rfl w.heap.size 62 i9 (.agg #[.int .i64 0, .slice none 0 0]) 2 32 Tryd.underlying58 hi hz0 hz1 hz2 rfl (by decide) _ _ _ rfl ((own_below HO.out hb3).alloc _) ⟨w3.heap.size, 0, none⟩ 1 1 [.int .i64 ((N : Int) + 1), .slice p kk cc] rfl rfl (new_cells _ _ _ _) (by simp [Value.oneCell']) (by unfold maxLen; omega) (by omega) (by have := hb3.size; show w.heap.size ≤ (w3.heap.push _).size; simp; omega) ?_; intro v' w5 hown5 hg5 _))
              go_roundw
              case rel => exact ⟨k + 1, N + 1, k + 1, _, by omega, by go_num, HI.out.some (w4 := w3) (wv := .nilFunc) (xs := []) HL.out hlt H10.out HW.out (((HI.out.bel.trans (hb3.mono hws)).alloc (by have := hb3.size; omega) _).grown hg5 (by have := hb3.size; show w.heap.size ≤ (w3.heap.push _).size; simp; omega) (fun g hg => (HO.out.lt g hg).1)) (LinesC.push (by decide) ((own_below HO.out hb3).alloc _) (fun i no ws h => by obtain ⟨x1, wv, x2, x3⟩ := HE.out i no ws h; exact ⟨x1, wv, x2, World.ownsRow.alloc (own_below x3 hb3) _⟩) (World.ownsRow.alloc (own_base hs3.out hws) _) hown5 hg5)⟩
              case measure => simp [intOf]; omega
          · by_cases hws0 : wordsOf ((l.take k).drop F) = []
            · have HW := Lib.hid hws0
              clear hws0
              go_wp2_with (go_at_call 30; refine (one_none _ _ _ ((l.take k).drop F) _ HS.out HSO.out HW.out).mono ?_; rintro e w3 ⟨p, cc, rfl, hb3⟩)
              go_roundw
              case rel => exact ⟨k + 1, N + 1, k + 1, T, by omega, by go_num, HI.out.none HL.out hlt H10.out HW.out hb3⟩
              case measure => simp [intOf]; omega
            · have HW := Lib.hid hws0
              clear hws0
              obtain ⟨xs, hown, hent⟩ := HI.out.told
              have HO := Lib.hid hown
              have HE := Lib.hid hent
              clear hown hent
              go_wp2_with (first | (go_at_call 30; refine (one_some _ _ _ ((l.take k).drop F) _ HS.out HSO.out HW.out).mono ?_; rintro e w3 ⟨p, kk, cc, rfl, hkk, hs3, hb3⟩) | (at_builtin; refine wpList_append_own _ rfl _ _ 58 rfl w.heap.size 62 i9 (.agg #[.int .i64 0, .slice none 0 0]) 2 32 Tryd.underlying58 hi hz0 hz1 hz2 rfl (by decide) _ _ _ rfl ((own_below HO.out hb3).alloc _) ⟨w3.heap.size, 0, none⟩ 1 1 [.int .i64 ((N : Int) + 1), .slice p kk cc] rfl rfl (new_cells _ _ _ _) (by simp [Value.oneCell']) (by unfold maxLen; omega) (by omega) (by have := hb3.size; show w.heap.size ≤ (w3.heap.push _).size; simp; omega) ?_; intro v' w5 hown5 hg5 _))
              go_roundw
              case rel => exact ⟨k + 1, N + 1, k + 1, _, by omega, by go_num, HI.out.some (w4 := w3) (wv := .nilFunc) (xs := []) HL.out hlt H10.out HW.out (((HI.out.bel.trans (hb3.mono hws)).alloc (by have := hb3.size; omega) _).grown hg5 (by have := hb3.size; show w.heap.size ≤ (w3.heap.push _).size; simp; omega) (fun g hg => (HO.out.lt g hg).1)) (LinesC.push (by decide) ((own_below HO.out hb3).alloc _) (fun i no ws h => by obtain ⟨x1, wv, x2, x3⟩ := HE.out i no ws h; exact ⟨x1, wv, x2, World.ownsRow.alloc (own_below x3 hb3) _⟩) (World.ownsRow.alloc (own_base hs3.out hws) _) hown5 hg5)⟩
              case measure => simp [intOf]; omega
    · obtain rfl : k = n + 1 := by omega
      have hend := HI.out.done (by omega)
      have HE := Lib.hid hend
      clear hend
      go_wp2
      go_ret
      exact ⟨_, rfl, by rw [HE.out]; exact HI.out.told, HI.out.bel⟩
end Go.Proofs.YtpighkpdnifejaaDoor

namespace Go.Pol
def dbW : List (List UInt8) := [[], [104, 111, 115, 116, 115, 58], [97, 100, 100, 114, 115, 58], [115, 101, 114, 118, 105, 99, 101, 115, 58], [112, 111, 114, 116, 115, 58]]
def updP (p : Nat → List Stp) (k : Nat) (l : List Stp) : Nat → List Stp := fun j => if j = k then l else p j
/-- A policy's lines: the databases' steps, or line and column of the first fault. -/
def parseP : List (Nat × List (List UInt8)) → (Nat → List Stp) → Except (Nat × Nat) (Nat → List Stp)
  | [], p => .ok p
  | (no, ws) :: T, p =>
    if atV dbW (ws.headD []) < 1 ∨ (p (atV dbW (ws.headD [])).toNat).length > 0 then .error (no, 1)
    else match lineP (ws.drop 1) 1 [] false with
      | .error c => .error (no, c)
      | .ok l => parseP T (updP p (atV dbW (ws.headD [])).toNat l)
end Go.Pol
namespace Go.Proofs.YtpighkpdnifejaaDoor
open Go.RowKit Go.Lib Go.Tx Go.Pol
theorem rwords_any (w : World) : Calls Tryd.prog 20 #[] w fun e w' => e = .returned (.slice (some ⟨w.heap.size, 0, none⟩) 5 5) ∧ w' = w.alloc (.cells (dbW.map fun l => Value.string ⟨l.toArray⟩).toArray 9) := by
  go_enter Tryd.func20, Tryd.ntmps20
  go_wp2
  go_ret
  exact ⟨rfl, rfl⟩
end Go.Proofs.YtpighkpdnifejaaDoor

namespace Go.Tx
open Go.Lib
/-! ### The library's pieces are the document's -/
def pre (x : List UInt8) : List (List UInt8) → List (List UInt8)
  | [] => []
  | h :: t => (x ++ h) :: t
theorem splitG_pre (c : UInt8) (x : List UInt8) : ∀ (l y : List UInt8), splitG c (x ++ y) l = pre x (splitG c y l)
  | [], y => by simp [splitG, pre]
  | d :: l, y => by
    unfold splitG
    split
    · rfl
    · rw [List.append_assoc, splitG_pre c x l (y ++ [d])]
theorem splitK_pre {b c : UInt8} (h : b ≠ c) (k : Nat) (l : List UInt8) : splitK [c] 0 k (b :: l) = pre [b] (splitK [c] 0 k l) := by
  cases k with
  | zero => rfl
  | succ k =>
    have hp : ([c] : List UInt8).isPrefixOf (b :: l) = false := by simp [List.isPrefixOf, Ne.symm h]
    have hix : index (b :: l) [c] = if index l [c] == -1 then -1 else index l [c] + 1 := by rw [index, hp]; simp
    unfold splitK
    by_cases hm : index l [c] = -1
    · rw [hix, hm]; simp [pre]
    · have hge := index_ge l [c]
      obtain ⟨j, hj⟩ : ∃ j : Nat, index l [c] = j := ⟨(index l [c]).toNat, by omega⟩
      have h1 : ((j : Int) == -1) = false := by rw [beq_eq_false_iff_ne]; omega
      have h2 : ((j : Int) + 1 == -1) = false := by rw [beq_eq_false_iff_ne]; omega
      have h3 : ((j : Int) + 1).toNat = j + 1 := by omega
      rw [hix, hj]
      simp [h1, h2, h3, pre]
theorem splitK_one (c : UInt8) : ∀ l : List UInt8, splitK [c] 0 (count l [c]) l = splitL c l
  | [] => by
    have : count ([] : List UInt8) [c] = 0 := by rw [count_one]; rfl
    rw [this]; rfl
  | b :: l => by
    by_cases h : b = c
    · subst h
      have hix : index (b :: l) [b] = 0 := by rw [index]; simp [List.isPrefixOf]
      rw [count_cons_eq, Nat.add_comm, splitK, hix, splitL, splitG, if_pos rfl]
      simp only [List.take_zero, List.length_singleton]
      have := splitK_one b l
      simpa [splitL] using this
    · rw [count_cons_ne b c l h, splitK_pre h, splitK_one c l, splitL, splitL, splitG, if_neg h]
      exact (splitG_pre c [b] l []).symm
theorem split_pieces (s : ByteArray) (c : UInt8) : (splitB ⟨#[c]⟩ 0 (countB s ⟨#[c]⟩) s).map Value.string = (splitL c s.data.toList).map fun l => Value.string ⟨l.toArray⟩ := by
  have h := splitB_data ⟨#[c]⟩ 0 (countB s ⟨#[c]⟩) s
  have h2 : countB s ⟨#[c]⟩ = count s.data.toList [c] := rfl
  rw [h2] at h ⊢
  have h3 := splitK_one c s.data.toList
  have h4 : (ByteArray.data ⟨#[c]⟩).toList = [c] := rfl
  rw [h4, h3] at h
  rw [← h, List.map_map]
  rfl
theorem split_count (s : ByteArray) (c : UInt8) : countB s ⟨#[c]⟩ + 1 = (splitL c s.data.toList).length := by
  have h := splitB_all ⟨#[c]⟩ (Nat.le_refl 1) 0 _ s rfl
  have h2 := congrArg List.length (split_pieces s c)
  simp only [List.length_map] at h2
  omega
/-! ### A rune that is foreign is a byte that is -/
theorem idxFrom_any (p : Nat → Bool) (hp : ∀ x, 128 ≤ x → p x = true) (s : ByteArray) : ∀ (f pos : Nat), s.size - pos ≤ f →
    decide (0 ≤ idxFuncFrom p true s f pos) = (s.data.toList.drop pos).any fun b => p b.toNat
  | 0, pos, h => by
    have e : s.data.toList.drop pos = [] := List.drop_of_length_le (by rw [← size_eq]; omega)
    simp [idxFuncFrom, e]
  | f + 1, pos, h => by
    unfold idxFuncFrom
    by_cases hlt : pos < s.size
    · rw [if_pos hlt]
      have hd : s.data.toList.drop pos = s[pos] :: s.data.toList.drop (pos + 1) := List.drop_eq_getElem_cons (by rw [← size_eq]; exact hlt)
      rw [hd, List.any_cons]
      by_cases ha : s[pos].toNat < 128
      · rw [decode_ascii s pos hlt ha]
        simp only
        by_cases hb : p s[pos].toNat = true
        · rw [if_pos hb, hb]; simp
        · have hb' : p s[pos].toNat = false := by simpa using hb
          rw [if_neg hb, hb', Bool.false_or]
          exact idxFrom_any p hp s f (pos + 1) (by omega)
      · obtain ⟨h1, h2⟩ := decode_high s pos hlt (by omega)
        rw [if_pos (hp _ h1), hp _ (by omega)]
        simp
    · have e : s.data.toList.drop pos = [] := List.drop_of_length_le (by rw [← size_eq]; omega)
      rw [if_neg hlt, e]; simp
theorem idx_anyR (p : Nat → Bool) (hp : ∀ x, 128 ≤ x → p x = true) (s : ByteArray) : decide (0 ≤ idxFunc p true s) = s.data.toList.any fun b => p b.toNat := by
  exact idxFrom_any p hp s s.size 0 (by omega)
/-! ### Names -/
/-- What labels are made of, by number. -/
def sign (x : Nat) : Bool := (decide (97 ≤ x) && decide (x ≤ 122)) || (decide (65 ≤ x) && decide (x ≤ 90)) || (decide (48 ≤ x) && decide (x ≤ 57)) || decide (x = 45) || decide (x = 95)
theorem sign_high (x : Nat) (h : 128 ≤ x) : sign x = false := by
  simp only [sign, Bool.or_eq_false_iff, Bool.and_eq_false_iff, decide_eq_false_iff_not]
  omega
def labelB (l : List UInt8) : Bool := decide (l ≠ []) && decide (l.length ≤ 63) && l.all fun b => sign b.toNat
def nameB (l : List UInt8) : Bool := decide (l.length ≤ 253) && (splitL 46 l).all labelB
/-- Without a point at its end. -/
def bare (l : List UInt8) : List UInt8 := trimSuffix l [46]
def isRoot (l : List UInt8) : Bool := hasSuffix l [46]
def cleanV (l : List UInt8) : Value := if nameB (bare l) = true then .tuple #[.string ⟨((bare l).map low).toArray⟩, .bool (isRoot l), .bool true] else .tuple #[.string ⟨#[]⟩, .bool false, .bool false]
theorem bare_len (l : List UInt8) : (bare l).length ≤ l.length := by
  unfold bare trimSuffix
  split
  · simp
  · exact Nat.le_refl _
theorem noLabel (l : List UInt8) : (decide (l = []) || (decide (63 < l.length) || l.any fun b => !sign b.toNat)) = !labelB l := by
  have h1 : (decide (63 < l.length)) = !decide (l.length ≤ 63) := by by_cases h : l.length ≤ 63 <;> simp [h] <;> omega
  have h2 : (l.any fun b => !sign b.toNat) = !(l.all fun b => sign b.toNat) := by simp [List.any_eq_not_all_not]
  rw [h1, h2]
  unfold labelB
  by_cases h : l = [] <;> simp [h]
end Go.Tx

namespace Go.Pol
open Go.Tx
theorem low_eq61 (c : UInt8) : (low c = 61) ↔ c = 61 := by
  constructor
  · intro h
    by_cases h1 : 65 ≤ (c.toNat : Int) ∧ (c.toNat : Int) ≤ 90
    · have := low_up c h1.1 h1.2
      rw [h] at this
      have h2 : ((61 : UInt8).toNat : Int) = 61 := rfl
      omega
    · have : low c = c := by unfold low; rw [if_neg h1]
      rw [← this, h]
  · rintro rfl; decide
theorem ib_cons (x : UInt8) (b : List UInt8) : Lib.indexByte (x :: b) 61 = if x == 61 then 0 else if Lib.indexByte b 61 == -1 then -1 else Lib.indexByte b 61 + 1 := rfl
theorem splitG_low : ∀ (b cur : List UInt8), splitG 61 cur (b.map low) =
    if 0 ≤ Lib.indexByte b 61 then (cur ++ (b.take (Lib.indexByte b 61).toNat).map low) :: splitL 61 ((b.drop ((Lib.indexByte b 61).toNat + 1)).map low) else [cur ++ b.map low]
  | [], cur => by simp [splitG, Lib.indexByte]
  | x :: b, cur => by
    have ih := splitG_low b
    rw [List.map_cons, splitG]
    by_cases hx : x = 61
    · subst hx
      have : low 61 = 61 := by decide
      rw [if_pos this]
      simp [Lib.indexByte, splitL]
    · rw [if_neg (fun h => hx ((low_eq61 x).1 h)), ih]
      have hge := Lib.indexByte_ge b 61
      rw [ib_cons]
      have hb : (x == 61) = false := by simpa using hx
      rw [hb]
      simp only [Bool.false_eq_true, if_false]
      by_cases hi : Lib.indexByte b 61 = -1
      · simp [hi]
      · have hi2 : (Lib.indexByte b 61 == -1) = false := by simpa using hi
        rw [hi2]
        simp only [Bool.false_eq_true, if_false]
        rw [if_pos (by omega), if_pos (by omega)]
        have e : (Lib.indexByte b 61 + 1).toNat = (Lib.indexByte b 61).toNat + 1 := by omega
        rw [e]
        simp
theorem splitL_low (b : List UInt8) : splitL 61 (b.map low) =
    if 0 ≤ Lib.indexByte b 61 then ((b.take (Lib.indexByte b 61).toNat).map low) :: splitL 61 ((b.drop ((Lib.indexByte b 61).toNat + 1)).map low) else [b.map low] := by
  have := splitG_low b []
  simpa [splitL] using this
theorem atG_not (s : List UInt8) : ∀ (ls : List (List UInt8)) (k : Nat), (∀ x ∈ ls, x ≠ s) → atG s ls k = -1
  | [], k, _ => rfl
  | x :: ls, k, h => by
    unfold atG
    rw [if_neg (h x (by simp))]
    exact atG_not s ls (k + 1) (fun y hy => h y (by simp [hy]))
theorem mem_index {b : List UInt8} (h : 0 ≤ Lib.indexByte b 61) : (61 : UInt8) ∈ b := by
  induction b with
  | nil => simp [Lib.indexByte] at h
  | cons x b ih =>
    rw [ib_cons] at h
    by_cases hx : x = 61
    · simp [hx]
    · have hb : (x == 61) = false := by simpa using hx
      rw [hb] at h
      simp only [Bool.false_eq_true, if_false] at h
      have hge := Lib.indexByte_ge b 61
      by_cases hi : Lib.indexByte b 61 = -1
      · simp [hi] at h
      · exact List.mem_cons_of_mem _ (ih (by omega))
theorem act_eq {y : List UInt8} (h : 0 ≤ Lib.indexByte y 61) : atV actW (y.map low) = -1 := by
  have hm : (61 : UInt8) ∈ y.map low := List.mem_map.2 ⟨61, mem_index h, by decide⟩
  refine atG_not _ _ _ (fun x hx e => ?_)
  have hall : ∀ x ∈ actW, ¬ (61 : UInt8) ∈ x := by decide
  exact hall x hx (by rw [e]; exact hm)
def outN (l : List UInt8) : Int := atV outW (l.map low)
def actN (l : List UInt8) : Int := if atV actW (l.map low) < 1 then 0 else atV actW (l.map low)
theorem outN_bd (l : List UInt8) : -1 ≤ outN l ∧ outN l ≤ 3 := by
  have := atV_bd outW (l.map low)
  have h : (outW.length : Int) = 4 := rfl
  unfold outN; omega
theorem actN_bd (l : List UInt8) : 0 ≤ actN l ∧ actN l ≤ 3 := by
  have := atV_bd actW (l.map low)
  have h : (actW.length : Int) = 4 := rfl
  unfold actN; split <;> omega
def cutE (l : List UInt8) : List UInt8 × List UInt8 := ((Lib.cut l [61]).1, (Lib.cut l [61]).2.1)
/-- The rule, as the program reads it: the outcome, whether it is turned round, the action. -/
def rOut (l : List UInt8) : Int := outN (cutE (bareR l)).1
def rAct (l : List UInt8) : Int := actN (cutE (bareR l)).2
def rOK (l : List UInt8) : Bool := decide (0 ≤ rOut l) && decide (0 < rAct l)
theorem rule_same (l : List UInt8) : (ruleP l).2.2.2 = rOK l ∧ (rOK l = true → ruleP l = (rOut l, notR l, rAct l, true)) := by
  have hs := splitL_low (bareR l)
  have hi1 := Lib.index_one (bareR l) 61
  by_cases h : 0 ≤ Lib.indexByte (bareR l) 61
  · rw [if_pos h] at hs
    have hc : cutE (bareR l) = ((bareR l).take (Lib.indexByte (bareR l) 61).toNat, (bareR l).drop ((Lib.indexByte (bareR l) 61).toNat + 1)) := by
      unfold cutE Lib.cut
      rw [hi1, if_pos h]
      rfl
    have hs2 := splitL_low ((bareR l).drop ((Lib.indexByte (bareR l) 61).toNat + 1))
    have ho : rOut l = atV outW (((bareR l).take (Lib.indexByte (bareR l) 61).toNat).map low) := by unfold rOut outN; rw [hc]
    have ha : rAct l = if atV actW (((bareR l).drop ((Lib.indexByte (bareR l) 61).toNat + 1)).map low) < 1 then 0 else atV actW (((bareR l).drop ((Lib.indexByte (bareR l) 61).toNat + 1)).map low) := by unfold rAct actN; rw [hc]
    by_cases h2 : 0 ≤ Lib.indexByte ((bareR l).drop ((Lib.indexByte (bareR l) 61).toNat + 1)) 61
    · rw [if_pos h2] at hs2
      rw [hs2] at hs
      have hlen := (splitG_len 61 ((((bareR l).drop ((Lib.indexByte (bareR l) 61).toNat + 1)).drop ((Lib.indexByte ((bareR l).drop ((Lib.indexByte (bareR l) 61).toNat + 1)) 61).toNat + 1)).map low) []).1
      have hp : ruleP l = (0, false, 0, false) := by
        unfold ruleP
        rw [hs]
        split
        · rename_i e
          have := congrArg List.length e
          simp [splitL] at this
          simp [splitG] at hlen
          rw [this] at hlen
          simp at hlen
        · rfl
      have hr : rAct l = 0 := by rw [ha, act_eq h2]; rfl
      have : rOK l = false := by unfold rOK; rw [hr]; simp
      rw [hp, this]
      exact ⟨rfl, fun h => by cases h⟩
    · rw [if_neg h2] at hs2
      rw [hs2] at hs
      have hp : ruleP l = (atV outW (((bareR l).take (Lib.indexByte (bareR l) 61).toNat).map low), notR l, atV actW (((bareR l).drop ((Lib.indexByte (bareR l) 61).toNat + 1)).map low), decide (0 ≤ atV outW (((bareR l).take (Lib.indexByte (bareR l) 61).toNat).map low)) && decide (0 < atV actW (((bareR l).drop ((Lib.indexByte (bareR l) 61).toNat + 1)).map low))) := by
        unfold ruleP; rw [hs]
      have hq : rOK l = (decide (0 ≤ atV outW (((bareR l).take (Lib.indexByte (bareR l) 61).toNat).map low)) && decide (0 < atV actW (((bareR l).drop ((Lib.indexByte (bareR l) 61).toNat + 1)).map low))) := by
        unfold rOK
        rw [ho]
        congr 1
        rw [ha]
        apply decide_eq_decide.2
        split <;> omega
      refine ⟨by rw [hp, hq], fun hk => ?_⟩
      rw [hp, ← hq, hk, ho, ha]
      have : ¬ atV actW (((bareR l).drop ((Lib.indexByte (bareR l) 61).toNat + 1)).map low) < 1 := by
        rw [hq] at hk
        have := (Bool.and_eq_true _ _ ▸ hk).2
        have := of_decide_eq_true this
        omega
      rw [if_neg this]
  · rw [if_neg h] at hs
    have hc : cutE (bareR l) = (bareR l, []) := by
      unfold cutE Lib.cut
      rw [hi1, if_neg h]
    have hp : ruleP l = (0, false, 0, false) := by
      unfold ruleP
      rw [hs]
    have hr : rAct l = 0 := by unfold rAct; rw [hc]; exact (by decide : actN [] = 0)
    have : rOK l = false := by unfold rOK; rw [hr]; simp
    rw [hp, this]
    exact ⟨rfl, fun h => by cases h⟩
/-- What a word of a bracket makes of a step. -/
def stp1 (s : Stp) (x : List UInt8) : Stp := if openW x = [] then s else putS s (rOut (openW x)) (notR (openW x)) (rAct (openW x))
/-- A bracket's words, from number i on. -/
def brk (s : Stp) (r : Bool) (x : List UInt8) : List (List UInt8) → Nat → Except Nat (Stp × Nat)
  | ws, i =>
    if openW x ≠ [] ∧ rOK (openW x) = false then .error i
    else if closedW x then (if (r || decide (openW x ≠ [])) = false then .error i else .ok (stp1 s x, i + 1))
    else match ws with
      | [] => .error 0
      | y :: ws => brk (stp1 s x) (r || decide (openW x ≠ [])) y ws (i + 1)
def brkR (first : Nat) (l0 : List Stp) (W : List (List UInt8)) (i : Nat) : Except Nat (Stp × Nat) → Except Nat (List Stp)
  | .error c => .error (first + c + 1)
  | .ok (s', n) => lineP (W.drop (n - i)) (first + n) (l0 ++ [s']) true
theorem brk_eq (s : Stp) (r : Bool) (x : List UInt8) (ws : List (List UInt8)) (i : Nat) : brk s r x ws i = if openW x ≠ [] ∧ rOK (openW x) = false then .error i
    else if closedW x then (if (r || decide (openW x ≠ [])) = false then .error i else .ok (stp1 s x, i + 1))
    else match ws with
      | [] => .error 0
      | y :: ws => brk (stp1 s x) (r || decide (openW x ≠ [])) y ws (i + 1) := by
  cases ws <;> rw [brk]
theorem brk_lt : ∀ (ws : List (List UInt8)) (s : Stp) (r : Bool) (x : List UInt8) (i : Nat) (s' : Stp) (n : Nat), brk s r x ws i = .ok (s', n) → i < n ∧ n ≤ i + 1 + ws.length
  | ws, s, r, x, i, s', n, h => by
    rw [brk_eq] at h
    split at h
    · cases h
    · split at h
      · split at h
        · cases h
        · cases h; omega
      · match ws, h with
        | [], h => cases h
        | y :: ws, h =>
          have := brk_lt ws _ _ _ _ _ _ h
          simp only [List.length_cons]
          omega
theorem putLast_one (l0 : List Stp) (s : Stp) (x : List UInt8) (hok : openW x ≠ [] → rOK (openW x) = true) :
    (if openW x = [] then l0 ++ [s] else putLast (l0 ++ [s]) (ruleP (openW x)).1 (ruleP (openW x)).2.1 (ruleP (openW x)).2.2.1) = l0 ++ [stp1 s x] := by
  unfold stp1
  by_cases h : openW x = []
  · rw [if_pos h, if_pos h]
  · rw [if_neg h, if_neg h, (rule_same (openW x)).2 (hok h)]
    simp [putLast]
theorem brack_brk (first : Nat) (l0 : List Stp) : ∀ (ws : List (List UInt8)) (s : Stp) (x : List UInt8) (i cnt : Nat),
    brackP x ws (first + i) first (l0 ++ [s]) cnt = brkR first l0 (x :: ws) i (brk s (decide (cnt ≠ 0)) x ws i)
  | ws, s, x, i, cnt => by
    rw [Go.Proofs.YtpighkpdnifejaaDoor.brackP_eq, brk_eq]
    have hr := (rule_same (openW x)).1
    rw [hr]
    by_cases h1 : openW x ≠ [] ∧ rOK (openW x) = false
    · rw [if_pos h1, if_pos h1]; rfl
    · rw [if_neg h1, if_neg h1]
      have hok : openW x ≠ [] → rOK (openW x) = true := fun h => by
        cases hb : rOK (openW x) with
        | true => rfl
        | false => exact absurd ⟨h, hb⟩ h1
      have hpl := putLast_one l0 s x hok
      have hcnt : decide ((if openW x = [] then cnt else cnt + 1) ≠ 0) = (decide (cnt ≠ 0) || decide (openW x ≠ [])) := by
        by_cases h : openW x = [] <;> simp [h]
      rw [hpl]
      by_cases h2 : closedW x = true
      · rw [if_pos h2, if_pos h2]
        by_cases h3 : (if openW x = [] then cnt else cnt + 1) = 0
        · rw [if_pos h3, ← hcnt, h3]
          rfl
        · rw [if_neg h3, ← hcnt, if_neg (by simp only [decide_eq_false_iff_not]; exact fun h => h h3)]
          have : i + 1 - i = 1 := by omega
          simp [brkR, this, Nat.add_assoc]
      · rw [if_neg h2, if_neg h2]
        match ws with
        | [] => rfl
        | y :: ws =>
          have ih := brack_brk first l0 ws (stp1 s x) y (i + 1) (if openW x = [] then cnt else cnt + 1)
          show brackP y ws (first + i + 1) first (l0 ++ [stp1 s x]) (if openW x = [] then cnt else cnt + 1) = _
          rw [show first + i + 1 = first + (i + 1) from by omega, ih, hcnt]
          show _ = brkR first l0 (x :: y :: ws) i (brk (stp1 s x) (decide (cnt ≠ 0) || decide (openW x ≠ [])) y ws (i + 1))
          cases hb : brk (stp1 s x) (decide (cnt ≠ 0) || decide (openW x ≠ [])) y ws (i + 1) with
          | error c => rfl
          | ok q =>
            obtain ⟨s', n⟩ := q
            have := brk_lt _ _ _ _ _ _ _ hb
            have e : n - i = (n - (i + 1)) + 1 := by omega
            simp only [brkR]
            rw [e]
            rfl
end Go.Pol

namespace Go.Tx
open Go.RowKit Go.Rb
theorem LinesAt.read {B : Nat} {w : World} {v : Value} {T : List (Nat × List (List UInt8))} (h : LinesAt B w v T) (h0 : 0 < T.length) :
    ∃ g cap, v = .slice (some ⟨g, 0, none⟩) T.length cap ∧ T.length ≤ cap ∧ cap ≤ 9223372036854775807 ∧ B ≤ g ∧ ∀ (i no : Nat) (ws : List (List UInt8)), T[i]? = some (no, ws) → w.cell? ⟨g, 2 * i, none⟩ = some (.int .i64 (no : Int)) ∧ ∃ p, w.cell? ⟨g, 2 * i + 1, none⟩ = some (.slice p ws.length ws.length) ∧ Strs B w (.slice p ws.length ws.length) ws := by
  obtain ⟨xs, h1, h2⟩ := h
  rcases h1.2 with ⟨a, b⟩ | ⟨g, cap, cur, a, a2, a3, a4, a5, _⟩
  · omega
  · subst a
    refine ⟨g, cap, rfl, a4, a5, a2, fun i no ws hi => ?_⟩
    obtain ⟨x, wv, y, z⟩ := h2 i no ws hi
    have hlt : i < T.length := (List.getElem?_eq_some_iff.1 hi).1
    obtain ⟨p, rfl⟩ := z.shape
    exact ⟨by rw [h1.cellAt _ (by omega)]; exact x, p, by rw [h1.cellAt _ (by omega)]; exact y, z⟩
theorem ba_row {w : World} {b cap : Nat} {l : List UInt8} (h : RowB 5 w b cap l) (hc : cap ≤ 9223372036854775807) : BA w (some ⟨b, 0, none⟩) l.length cap l := by
  have hl : l.length ≤ cap := by obtain ⟨_, _, _, _, _, _, h4, _⟩ := h; exact h4
  refine ⟨rfl, hl, hc, (fun h => by cases h), fun x hx j c hj => ?_⟩
  cases hx
  have ha : (⟨b, 0, none⟩ : Addr).add j = ⟨b, j, none⟩ := by unfold Addr.add; split <;> simp_all
  rw [ha]
  exact h.cell hj
theorem row_made {P : Program} {src dst : TypeId} (s : ByteArray) (w : World) (hm : s.size ≤ maxLen) (hs : P.underlying src = some .string) (hd : P.underlying dst = some (.slice 5)) (he : P.underlying 5 = some (.int .u8)) :
    ∃ (cap : Nat) (o : Obj), (convert src dst (.string s)).run P w = .ok (.slice (some ⟨w.heap.size, 0, none⟩) s.size cap) (w.drew.alloc o) ∧ s.size ≤ cap ∧ cap ≤ 9223372036854775807 ∧ RowB 5 (w.alloc o) w.heap.size cap s.data.toList := by
  have hge := grownCap_ge w s.size 0 5
  have hle := grownCap_le_maxLen w s.size 0 5 hm
  unfold maxLen at hle
  have hsz : s.data.size = s.size := rfl
  have hC : (bytesRow s (grownCap w s.size 0 5)).size = grownCap w s.size 0 5 := by simp [bytesRow, hsz]; omega
  refine ⟨grownCap w s.size 0 5, _, run_bytes_of_string w src dst 5 s hs hd he, hge, by omega, _, _, _, heap_alloc_new w _, .inl (by rw [hC]; exact Nat.le_refl _), hC, by simpa [hsz] using hge, fun j c hj => ?_⟩
  have hj' : j < s.data.size := by
    have := (List.getElem?_eq_some_iff.1 hj).1
    simpa using this
  rw [bytesRow_at s _ j hj']
  rw [Array.getElem?_toList, Array.getElem?_eq_getElem hj'] at hj
  cases hj
  rfl
theorem lines_one {B : Nat} {w : World} {v : Value} {a : Nat} {ws : List (List UInt8)} (h : LinesAt B w v [(a, ws)]) :
    ∃ g cap, v = .slice (some ⟨g, 0, none⟩) 1 cap ∧ 1 ≤ cap ∧ w.cell? ⟨g, 0, none⟩ = some (.int .i64 (a : Int)) := by
  obtain ⟨g, cap, h1, h2, _, _, h3⟩ := h.read (by simp)
  exact ⟨g, cap, h1, h2, (h3 0 a ws rfl).1⟩
theorem lines_two {B : Nat} {w : World} {v : Value} {a b : Nat} {ws us : List (List UInt8)} (h : LinesAt B w v [(a, ws), (b, us)]) :
    ∃ g cap p, v = .slice (some ⟨g, 0, none⟩) 2 cap ∧ 2 ≤ cap ∧ w.cell? ⟨g, 0, none⟩ = some (.int .i64 (a : Int)) ∧ w.cell? ⟨g, 1, none⟩ = some (.slice p ws.length ws.length) ∧ w.cell? ⟨g, 2, none⟩ = some (.int .i64 (b : Int)) := by
  obtain ⟨g, cap, h1, h2, _, _, h3⟩ := h.read (by simp)
  obtain ⟨x1, p, x2, _⟩ := h3 0 a ws rfl
  exact ⟨g, cap, p, h1, h2, x1, x2, (h3 1 b us rfl).1⟩
theorem bcat (a : List UInt8) (b : Array UInt8) : (⟨a.toArray⟩ : ByteArray) ++ ⟨b⟩ = ⟨(a ++ b.toList).toArray⟩ := by
  apply ByteArray.ext
  simp
end Go.Tx

namespace Go.Pol
def dbN (l : List UInt8) : Int := if atV dbW l < 1 then 0 else atV dbW l
def outU : List (List UInt8) := [[83, 85, 67, 67, 69, 83, 83], [78, 79, 84, 70, 79, 85, 78, 68], [85, 78, 65, 86, 65, 73, 76], [84, 82, 89, 65, 71, 65, 73, 78]]
def rowV (ws : List (List UInt8)) : Array Value := (ws.map fun l => Value.string ⟨l.toArray⟩).toArray
def doneV (o a : Int) : Int := if a = 3 ∧ o ≠ 0 then 2 else a
end Go.Pol
namespace Go.Proofs.YtpighkpdnifejaaDoor
open Go.RowKit Go.Lib Go.Tx Go.Pol
/-- What the program's own tables hold. -/
structure PG (w : World) : Prop where
  db : ∃ t fr, w.heap[0]? = some (.cells (rowV dbW) t fr)
  un : ∃ t fr, w.heap[1]? = some (.cells #[.int .i64 1, .int .i64 2, .int .i64 2, .int .i64 2] t fr)
  out : ∃ t fr, w.heap[2]? = some (.cells (rowV outU) t fr)
  act : ∃ t fr, w.heap[3]? = some (.cells (rowV actW) t fr)
  max : ∃ m, w.cell? ⟨4, 0, none⟩ = some (.int .i64 m)
def PGB (B : Nat) : Prop := 0 < B ∧ 1 < B ∧ 2 < B ∧ 3 < B ∧ 4 < B
theorem PG.lt {w : World} (h : PG w) : PGB w.heap.size := by
  obtain ⟨_, _, h1⟩ := h.db
  obtain ⟨_, _, h2⟩ := h.un
  obtain ⟨_, _, h3⟩ := h.out
  obtain ⟨_, _, h4⟩ := h.act
  obtain ⟨_, h5⟩ := h.max
  exact ⟨(Array.getElem?_eq_some_iff.1 h1).1, (Array.getElem?_eq_some_iff.1 h2).1, (Array.getElem?_eq_some_iff.1 h3).1, (Array.getElem?_eq_some_iff.1 h4).1, block_lt_of_cell h5⟩
theorem PGB.mono {B B' : Nat} (h : PGB B) (hb : B ≤ B') : PGB B' := ⟨Nat.lt_of_lt_of_le h.1 hb, Nat.lt_of_lt_of_le h.2.1 hb, Nat.lt_of_lt_of_le h.2.2.1 hb, Nat.lt_of_lt_of_le h.2.2.2.1 hb, Nat.lt_of_lt_of_le h.2.2.2.2 hb⟩
theorem PG.keep {w w' : World} {B : Nat} (h : PG w) (hb : Below B w w') (hB : PGB B) : PG w' := by
  refine ⟨?_, ?_, ?_, ?_, ?_⟩
  · obtain ⟨t, fr, e⟩ := h.db; exact ⟨t, fr, (hb.block _ hB.1).trans e⟩
  · obtain ⟨t, fr, e⟩ := h.un; exact ⟨t, fr, (hb.block _ hB.2.1).trans e⟩
  · obtain ⟨t, fr, e⟩ := h.out; exact ⟨t, fr, (hb.block _ hB.2.2.1).trans e⟩
  · obtain ⟨t, fr, e⟩ := h.act; exact ⟨t, fr, (hb.block _ hB.2.2.2.1).trans e⟩
  · obtain ⟨m, e⟩ := h.max; exact ⟨m, (hb.cell (p := ⟨4, 0, none⟩) hB.2.2.2.2).trans e⟩
theorem PG.below {w w' : World} (h : PG w) (hb : Below w.heap.size w w') : PG w' := h.keep hb h.lt
theorem PG.alloc {w : World} (h : PG w) (o : Obj) : PG (w.alloc o) := h.below ((Below.refl _ _).alloc (Nat.le_refl _) _)
theorem ix_db (k : Nat) (hk : k < 5) : ∃ x, dbW[k]? = some x ∧ x.length ≤ 20 ∧ ∀ W, (Instr.index 66 (.agg (rowV dbW)) (.int .i64 (k : Int))).run Tryd.prog W = .ok (.string ⟨x.toArray⟩) W := by
  have h : k = 0 ∨ k = 1 ∨ k = 2 ∨ k = 3 ∨ k = 4 := by omega
  rcases h with rfl | rfl | rfl | rfl | rfl <;> exact ⟨_, rfl, by decide, fun W => by kernel_rfl⟩
theorem ix_out (k : Nat) (hk : k < 4) : ∃ x, outU[k]? = some x ∧ x.length ≤ 20 ∧ outW[k]? = some (x.map low) ∧ ∀ W, (Instr.index 101 (.agg (rowV outU)) (.int .i64 (k : Int))).run Tryd.prog W = .ok (.string ⟨x.toArray⟩) W := by
  have h : k = 0 ∨ k = 1 ∨ k = 2 ∨ k = 3 := by omega
  rcases h with rfl | rfl | rfl | rfl <;> exact ⟨_, rfl, by decide, by decide, fun W => by kernel_rfl⟩
theorem ix_act (k : Nat) (hk : k < 4) : ∃ x, actW[k]? = some x ∧ x.length ≤ 20 ∧ ∀ W, (Instr.index 101 (.agg (rowV actW)) (.int .i64 (k : Int))).run Tryd.prog W = .ok (.string ⟨x.toArray⟩) W := by
  have h : k = 0 ∨ k = 1 ∨ k = 2 ∨ k = 3 := by omega
  rcases h with rfl | rfl | rfl | rfl <;> exact ⟨_, rfl, by decide, fun W => by kernel_rfl⟩
theorem sz_db : (Tryd.prog.info? 66).map (·.size) = some (rowV dbW).size := by kernel_rfl
theorem sz_out : (Tryd.prog.info? 101).map (·.size) = some (rowV outU).size := by kernel_rfl
theorem sz_act : (Tryd.prog.info? 101).map (·.size) = some (rowV actW).size := by kernel_rfl
set_option maxHeartbeats 1000000 in
theorem dbOf_any (s : ByteArray) (w : World) (hg : PG w) (hne : s.data.toList ≠ []) :
    Calls Tryd.prog 15 #[.string s] w fun e w' => e = .returned (.int .i64 (dbN s.data.toList)) ∧ w = w' := by
  obtain ⟨t, fr, hdb⟩ := hg.db
  have HNe := Lib.hid hne
  clear hg hne
  go_enter Tryd.func15, Tryd.ntmps15
  go_wp2_with (with_reducible refine wpList_load_row rfl 66 _ rfl 0 rfl t (rowV dbW) fr _ hdb Tryd.underlying66 rfl sz_db ?_)
  go_loop [6] (fun i => ∃ k : Nat, k ≤ 5 ∧ i = .int .i64 k ∧ atV dbW s.data.toList = atG s.data.toList (dbW.drop k) k) (fun i => 5 - (intOf i).toNat)
  case atStart => exact ⟨0, Nat.zero_le _, rfl, rfl⟩
  case round =>
    obtain ⟨k, hk, rfl, hp⟩ := hrel
    by_cases hlt : k < 5
    · obtain ⟨l, hget, _, hix⟩ := ix_db k hlt
      have HP := Lib.hid (at_pos hget hp)
      have HG := Lib.hid hget
      clear hp hget
      by_cases hx : (⟨l.toArray⟩ : ByteArray) = s
      · have HX : Hid (l = s.data.toList) := Lib.hid (by rw [← hx])
        have hk0 : 0 < k := by
          rcases Nat.eq_zero_or_pos k with h | h
          · subst h
            have := HG.out
            have e : l = [] := by cases this; rfl
            exact absurd (HX.out.symm.trans e) HNe.out
          · exact h
        subst hx
        go_wp2
        go_ret
        exact ⟨by unfold dbN; rw [HP.out.1 HX.out, if_neg (by omega)]; rfl, rfl⟩
      · have HX : Hid (¬ l = s.data.toList) := Lib.hid (fun e => hx (by rw [e]))
        have hq : ((⟨l.toArray⟩ : ByteArray).toList == s.toList) = false := by
          rw [Lib.toList_data, Lib.toList_data]
          simpa using HX.out
        have hq2 : (l == s.toList) = false := by
          rw [Lib.toList_data]
          simpa using HX.out
        go_wp2
        go_round
        case rel => exact ⟨k + 1, hlt, by go_num, HP.out.2 HX.out⟩
        case measure => simp [intOf]; omega
    · obtain rfl : k = 5 := by omega
      have HP := Lib.hid (hp.trans (atG_end (Nat.le_refl _)))
      clear hp
      go_wp2
      go_ret
      exact ⟨by unfold dbN; rw [HP.out]; rfl, rfl⟩
theorem done_any (o a : Int) (w : World) : Calls Tryd.prog 68 #[.int .i64 o, .int .i64 a] w fun e w' => e = .returned (.int .i64 (doneV o a)) ∧ w = w' := by
  by_cases h : a = 3
  · subst h
    by_cases h0 : o = 0
    · subst h0
      go_enter Tryd.func68, Tryd.ntmps68
      go_wp2
      go_ret
      exact ⟨rfl, rfl⟩
    · have e1 : (o != 0) = true := by simpa using h0
      have HZ : Hid (doneV o 3 = 2) := Lib.hid (if_pos ⟨rfl, h0⟩)
      clear h0
      go_enter Tryd.func68, Tryd.ntmps68
      go_wp2
      go_ret
      exact ⟨by rw [HZ.out]; rfl, rfl⟩
  · have e1 : (a == 3) = false := by simpa using h
    have HZ : Hid (doneV o a = a) := Lib.hid (if_neg (fun e => h e.1))
    clear h
    go_enter Tryd.func68, Tryd.ntmps68
    go_wp2
    go_ret
    exact ⟨by rw [HZ.out]; rfl, rfl⟩
theorem wrong_any (no col : Int) (v : Value) (w : World) (h1 : 0 ≤ col) (h2 : col ≤ 1000000) :
    Calls Tryd.prog 16 #[.agg #[.int .i64 no, v], .int .i64 col] w fun e w' => e = .returned (.iface 36 (.pointer (some ⟨w.heap.size + 1, 0, none⟩))) ∧
      w' = (w.alloc (.cells #[.int .i64 no, v] 53)).alloc (.cells #[.int .i64 no, .int .i64 (col + 1), .iface 40 (.int .i64 5)] 39) := by
  go_enter Tryd.func16, Tryd.ntmps16
  go_wp2
  go_ret
  exact ⟨rfl, rfl⟩
end Go.Proofs.YtpighkpdnifejaaDoor

namespace Go.Proofs.YtpighkpdnifejaaDoor
open Go.RowKit Go.Ev Go.Fr Go.Lib Go.ChangeShapes Go.Pol
theorem own : ownKnob Tryd.prog.godebug = none := by kernel_rfl
abbrev laidL : List (String × DataW Unit) := Rows.policyParseRow.laid
def strsData {H : Type} (ws : List (List UInt8)) : DataW H := .agg (ws.map fun l => .lit (.string l))
theorem cells_of_strs {H : Type} {enc : TypeId × Value → H} {P : Program} {w : World} {base : Nat} {sp : Nat → Bool} {held : Bool} {fuel : Nat} {t e : TypeId} {n : Nat} {cs : List Value} {zs : List (List UInt8)} {p : List MemPlace}
    (ht : P.underlying t = some (.array n e)) (he : P.underlying e = some .string) (hce : P.cellsOf e = 1) (hct : P.cellsOf t = n)
    (h : DataW.trod enc P w base sp held fuel t cs = some (strsData zs, p)) : cs = zs.map fun z => Value.string ⟨z.toArray⟩ := by
  cases fuel with
  | zero => simp [DataW.trod] at h
  | succ fuel =>
    simp only [DataW.trod, ht, hce, hct, Nat.mul_one] at h
    split at h
    · rename_i hl
      obtain ⟨xs, hm, hx⟩ := Option.map_eq_some_iff.1 h
      have hxs : xs.map (·.1) = zs.map fun z => (DataW.lit (.string z) : DataW H) := by
        have := congrArg Prod.fst hx
        simpa [strsData] using this
      have hxl : xs.length = n := by simpa using mapM_length hm
      have hzl : zs.length = n := by
        have := congrArg List.length hxs
        simp at this
        omega
      apply List.ext_getElem?
      intro i
      by_cases hi : i < n
      · obtain ⟨b, hb, hf⟩ := mapM_at hm i i (by simp [hi])
        obtain ⟨z, hc, rfl, _⟩ := DataW.trod_string he hf
        have h1 : cs[i]? = some (.string z) := by
          have := congrArg (·[0]?) hc
          simpa [List.getElem?_take, List.getElem?_drop] using this
        have h2 : (xs.map (·.1))[i]? = some (DataW.lit (.string z.data.toList) : DataW H) := by simp [hb]
        rw [hxs] at h2
        simp only [List.getElem?_map, Option.map_eq_some_iff, DataW.lit.injEq, Lit.string.injEq] at h2
        obtain ⟨z', hz', hzz⟩ := h2
        rw [h1, List.getElem?_map, hz']
        have : z = ⟨z'.toArray⟩ := by rw [hzz]
        rw [this]
        rfl
      · rw [List.getElem?_eq_none (by omega), List.getElem?_eq_none (by simp; omega)]
    · cases h
theorem strs_at {P : Program} {W : World} {n : String} {g t e m : Nat} {zs : List (List UInt8)} (h : VarReads P W n (strsData zs)) (hg : P.globalNamed n = some g) (hty : (P.globals[g]?).map (·.type) = some t)
    (ht : P.underlying t = some (.array m e)) (he : P.underlying e = some .string) (hce : P.cellsOf e = 1) (hct : P.cellsOf t = m) : ∃ t fr, W.heap[g]? = some (.cells (rowV zs) t fr) := by
  obtain ⟨g', t', cs, fuel, p, h1, h2, h3, h4⟩ := h
  obtain rfl := Option.some.inj (hg.symm.trans h1)
  obtain rfl := Option.some.inj (hty.symm.trans h2)
  have hc := cells_of_strs ht he hce hct h4
  unfold World.var? at h3
  rw [hg] at h3
  simp only [Option.bind_some] at h3
  split at h3
  · rename_i arr elem fr hh
    cases h3
    refine ⟨elem, fr, hh.trans ?_⟩
    have : cs = rowV zs := by
      unfold rowV
      rw [← hc]
    rw [this]
  · cases h3
theorem ints_at {P : Program} {W : World} {n : String} {g t e m : Nat} {k : IntKind} {zs : List Int} (h : VarReads P W n (tabData k zs)) (hg : P.globalNamed n = some g) (hty : (P.globals[g]?).map (·.type) = some t)
    (ht : P.underlying t = some (.array m e)) (he : P.underlying e = some (.int k)) (hce : P.cellsOf e = 1) (hct : P.cellsOf t = m) : ∃ t fr, W.heap[g]? = some (.cells (zs.map fun z => Value.int k z).toArray t fr) := by
  obtain ⟨g', t', cs, fuel, p, h1, h2, h3, h4⟩ := h
  obtain rfl := Option.some.inj (hg.symm.trans h1)
  obtain rfl := Option.some.inj (hty.symm.trans h2)
  have hc := cells_of_tab ht he hce hct h4
  unfold World.var? at h3
  rw [hg] at h3
  simp only [Option.bind_some] at h3
  split at h3
  · rename_i arr elem fr hh
    cases h3
    refine ⟨elem, fr, hh.trans ?_⟩
    have : cs = (zs.map fun z => Value.int k z).toArray := by
      rw [← hc]
    rw [this]
  · cases h3
theorem pg_at (W : World) (hL : laidMetH Tryd.prog laidL W) (hsh : W.ShapedOpen Tryd.prog) : PG W := by
  rw [MakeChecks.laidMetH_plain _ _ _ (by kernel_rfl)] at hL
  refine ⟨?_, ?_, ?_, ?_, ?_⟩
  · exact strs_at (Lib.laidMet.reads hL (n := "concierge/policy.databases") (d := strsData dbW) (.head _)) (by kernel_rfl) (by kernel_rfl) Tryd.underlying66 Tryd.underlying9 (by kernel_rfl) (by kernel_rfl)
  · exact ints_at (k := .i64) (zs := [1, 2, 2, 2]) (Lib.laidMet.reads hL (n := "concierge/policy.unruled") (d := tabData .i64 [1, 2, 2, 2]) (.tail _ (.tail _ (.tail _ (.head _))))) (by kernel_rfl) (by kernel_rfl) Tryd.underlying45 Tryd.underlying3 (by kernel_rfl) (by kernel_rfl)
  · exact strs_at (Lib.laidMet.reads hL (n := "concierge/policy.outcomes") (d := strsData outU) (.tail _ (.head _))) (by kernel_rfl) (by kernel_rfl) Tryd.underlying101 Tryd.underlying9 (by kernel_rfl) (by kernel_rfl)
  · exact strs_at (Lib.laidMet.reads hL (n := "concierge/policy.actions") (d := strsData actW) (.tail _ (.tail _ (.head _)))) (by kernel_rfl) (by kernel_rfl) Tryd.underlying101 Tryd.underlying9 (by kernel_rfl) (by kernel_rfl)
  · exact cell_of_shapedOpen_int (P := Tryd.prog) (g := 4) (t := 3) (zero := #[.int .i64 0]) hsh (of_decide_eq_true (by kernel_rfl)) (by kernel_rfl) rfl (by kernel_rfl) (by kernel_rfl) Tryd.underlying3
end Go.Proofs.YtpighkpdnifejaaDoor

namespace Go.Sl
open Go Go.RowKit Go.ChangeShapes Go.ChangeMaps Go.WideShapes
/-- A slice of texts that came in: all texts up to its capacity. -/
def IsStrs (w : World) (a : Option Addr) (n c : Nat) (ss : List ByteArray) : Prop :=
  (a = none ∧ n = 0 ∧ c = 0 ∧ ss = []) ∨ ∃ x, a = some x ∧ n ≤ c ∧ c ≤ maxLen ∧ ss.length = c ∧ (∀ i, i < ss.length → w.cell? (x.add i) = some (.string (ss.getD i ByteArray.empty))) ∧ ∀ s ∈ ss, s.size ≤ maxLen
/-- A slice of numbers that came in: all numbers up to its capacity. -/
def IsInts (k : IntKind) (w : World) (a : Option Addr) (n c : Nat) (zs : List Int) : Prop :=
  (a = none ∧ n = 0 ∧ c = 0 ∧ zs = []) ∨ ∃ x, a = some x ∧ n ≤ c ∧ c ≤ maxLen ∧ zs.length = c ∧ (∀ i, i < zs.length → w.cell? (x.add i) = some (.int k (zs.getD i 0))) ∧ ∀ z ∈ zs, (Lit.int k z).wf = true
theorem isStrs_of {H : Type} {enc : TypeId × Value → H} {P : Program} {w : World} {t e : TypeId} {a : Option Addr} {n c : Nat} {d : DataW H} {ps : List MemPlace} (ht : P.underlying t = some (.slice e)) (he : P.underlying e = some .string) (hc : P.cellsOf e = 1)
    (h : DataW.Trod enc P w 0 (fun _ => true) true t (.slice a n c) d ps) : ∃ ss, IsStrs w a n c ss := by
  obtain ⟨fuel, hf⟩ := h
  rcases open_strings ht he hc hf with ⟨hcs, _⟩ | ⟨x, l, c', ss, hcs, _, hl, hm, hz, _, hcell, hws⟩
  · simp [Value.cells] at hcs
    obtain ⟨rfl, rfl, rfl⟩ := hcs
    exact ⟨[], .inl ⟨rfl, rfl, rfl, rfl⟩⟩
  · simp [Value.cells] at hcs
    obtain ⟨rfl, rfl, rfl⟩ := hcs
    exact ⟨ss, .inr ⟨_, rfl, hl, hm, by simpa using hz, hcell, hws⟩⟩
theorem isInts_of {H : Type} {enc : TypeId × Value → H} {P : Program} {w : World} {t e : TypeId} {k : IntKind} {a : Option Addr} {n c : Nat} {d : DataW H} {ps : List MemPlace} (ht : P.underlying t = some (.slice e)) (he : P.underlying e = some (.int k)) (hc : P.cellsOf e = 1)
    (h : DataW.Trod enc P w 0 (fun _ => true) true t (.slice a n c) d ps) : ∃ zs, IsInts k w a n c zs := by
  obtain ⟨fuel, hf⟩ := h
  rcases open_ints ht he hc hf with ⟨hcs, _⟩ | ⟨x, l, c', ss, hcs, _, hl, hm, hz, _, hcell, hws⟩
  · simp [Value.cells] at hcs
    obtain ⟨rfl, rfl, rfl⟩ := hcs
    exact ⟨[], .inl ⟨rfl, rfl, rfl, rfl⟩⟩
  · simp [Value.cells] at hcs
    obtain ⟨rfl, rfl, rfl⟩ := hcs
    exact ⟨ss, .inr ⟨_, rfl, hl, hm, by simpa using hz, hcell, hws⟩⟩
end Go.Sl

