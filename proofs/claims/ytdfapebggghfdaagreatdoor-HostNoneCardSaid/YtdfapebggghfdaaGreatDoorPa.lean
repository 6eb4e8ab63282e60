/- Contract of the document's reading of an address. -/
import Derived.Test.YtdfapebggghfdaaGreatDoorGr
import Derived.Laws.CopyOwn
namespace Go.Tx
def ccAt (l : List UInt8) (k : Nat) : Bool := decide (l[k]? = some 58) && decide (l[k + 1]? = some 58)
def dblP (l : List UInt8) (k : Nat) : Option (List UInt8) :=
  match groupsP false (l.take k), groupsP true (l.drop (k + 2)) with
  | some a, some b => if 14 < a.length + b.length then none else some (a ++ List.replicate (16 - a.length - b.length) 0 ++ b)
  | _, _ => none
def parseP (l : List UInt8) : Option (List UInt8) :=
  match fourP (splitL 46 l) with
  | some f => some f
  | none => match (List.range l.length).find? (ccAt l) with
    | some k => dblP l k
    | none => match groupsP true l with
      | some b => if b.length = 16 then some b else none
      | none => none
theorem cc_some {l : List UInt8} {k : Nat} (h : ∀ j, j < k → ccAt l j = false) (hk : ccAt l k = true) : (List.range l.length).find? (ccAt l) = some k := by
  rw [List.find?_range_eq_some]
  refine ⟨hk, ?_, fun j hj => by simp [h j hj]⟩
  unfold ccAt at hk
  simp only [Bool.and_eq_true, decide_eq_true_eq] at hk
  exact List.mem_range.2 (List.getElem?_eq_some_iff.1 hk.1).1
theorem cc_none {l : List UInt8} {k : Nat} (h : ∀ j, j < k → ccAt l j = false) (hk : l.length ≤ k + 1) : (List.range l.length).find? (ccAt l) = none := by
  rw [List.find?_eq_none]
  intro j hj
  have hj := List.mem_range.1 hj
  by_cases hjk : j < k
  · simp [h j hjk]
  · have : l[j + 1]? = none := List.getElem?_eq_none (by omega)
    simp [ccAt, this]
theorem cc_step {l : List UInt8} {k : Nat} (h : ∀ j, j < k → ccAt l j = false) (hk : ccAt l k = false) : ∀ j, j < k + 1 → ccAt l j = false := fun j hj => by
  by_cases e : j = k
  · rw [e]; exact hk
  · exact h j (by omega)
end Go.Tx
namespace Go.Proofs.YtdfapebggghfdaaGreatDoor
open Go.RowKit Go.Lib Go.Tx Go.Rb Go.Ev
theorem parse_four (s : ByteArray) (f : List UInt8) (w : World) (hn : s.size ≤ 100000) (hf : fourP (splitL 46 s.data.toList) = some f) :
    Calls Tryz.prog 24 #[.string s] w (FourR w (parseP s.data.toList)) := by
  have HX : Hid (parseP s.data.toList = some f) := Lib.hid (by unfold parseP; rw [hf])
  have HF := Lib.hid hf
  clear hf
  go_enter Tryz.func24, Tryz.ntmps24
  go_wp2_with (go_at_call 36; refine (four_any s _ (by omega)).mono ?_; rw [HF.out]; rintro e w3 ⟨rfl, hb3⟩; simp only [Option.getD_some, Option.isSome_some])
  go_ret2
  unfold FourR
  rw [HX.out]
  exact ⟨rfl, hb3⟩
theorem ext_take (s : ByteArray) (k : Nat) : (s.extract 0 k).data.toList = s.data.toList.take k := by
  simp [ByteArray.extract, ByteArray.copySlice, List.extract]
theorem ext_from (s : ByteArray) (k : Nat) : (s.extract k s.size).data.toList = s.data.toList.drop k := by
  simp [ByteArray.extract, ByteArray.copySlice, List.extract]
  apply List.take_of_length_le
  simp
theorem groupsR_none {w w' : World} {r : Option (List UInt8)} {e : Ending} (h : r = none) (hg : GroupsR w r e w') : e = .returned (.tuple #[.slice none 0 0, .bool false]) ∧ Below w.heap.size w w' := by
  subst h; exact ⟨hg.2, hg.1⟩
theorem groupsR_some {w w' : World} {r : Option (List UInt8)} {l : List UInt8} {e : Ending} (h : r = some l) (hg : GroupsR w r e w') : ∃ v, e = .returned (.tuple #[v, .bool true]) ∧ RB w.heap.size w' v l ∧ Below w.heap.size w w' := by
  subst h
  obtain ⟨h1, v, h2, h3⟩ := hg
  exact ⟨v, h2, h3, h1⟩
end Go.Proofs.YtdfapebggghfdaaGreatDoor
