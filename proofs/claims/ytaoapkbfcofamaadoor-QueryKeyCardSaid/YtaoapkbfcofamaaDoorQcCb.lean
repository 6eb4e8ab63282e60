/- Contracts and plain facts that the law leans on. -/
import Derived.Test.YtaoapkbfcofamaaDoorQcCa
import Derived.OwnWalk
import Derived.Laws.CopyOwn
import Derived.Lib.SplitLaws
import Derived.Lib.IndexMore
import Derived.Lib.ItoaNum
import Derived.Lib.Join
import Derived.WalkKit
import Derived.LoopTactic
import Derived.Lib.ParseIntB
import Derived.Test.YtaoapkbfcofamaaDoorShelf
import Derived.Laws.BitsLemmas
import Derived.Laws.Bits64b
import Derived.Lib.SmallJoins
import Derived.BigQuiet
import Derived.Deep.RegionHeld3
import Derived.Laws.BitsAllLaws
import Derived.Deep.CutRange
import Derived.Deep.QuietTactic
import Derived.Test.YtaoapkbfcofamaaDoorRows
import Derived.Below
import Derived.Laws.IdiomStrings
import Derived.Lib.Hide
import Derived.Laws.AppendOwn
import Derived.LaidEql
import Derived.Stop.Asserts
import Derived.Stop.IfaceNil
import Derived.RowKitTokens
namespace Go.Rb
open Go.RowKit Go.Ev
/-- A slice of bytes that reads as l: nil, or a row in a block from B on. -/
def RB (B : Nat) (w : World) (v : Value) (l : List UInt8) : Prop :=
  (v = .slice none 0 0 ∧ l = []) ∨ ∃ b cap, v = .slice (some ⟨b, 0, none⟩) l.length cap ∧ B ≤ b ∧ cap ≤ 9223372036854775807 ∧ RowB 5 w b cap l
theorem RB.nil (B : Nat) (w : World) : RB B w (.slice none 0 0) [] := .inl ⟨rfl, rfl⟩
theorem RB.alloc {B : Nat} {w : World} {v : Value} {l : List UInt8} (h : RB B w v l) (o : Obj) : RB B (w.alloc o) v l := by
  rcases h with h | ⟨b, cap, h1, h2, h3, h4⟩
  · exact .inl h
  · exact .inr ⟨b, cap, h1, h2, h3, h4.alloc o⟩
theorem RB.below {B : Nat} {w w' : World} {v : Value} {l : List UInt8} (h : RB B w v l) (hb : Below w.heap.size w w') : RB B w' v l := by
  rcases h with h | ⟨b, cap, h1, h2, h3, h4⟩
  · exact .inl h
  · refine .inr ⟨b, cap, h1, h2, h3, h4.below hb ?_⟩
    obtain ⟨_, _, _, hh, _⟩ := h4
    exact (Array.getElem?_eq_some_iff.1 hh).1
theorem RB.shape {B : Nat} {w : World} {v : Value} {l : List UInt8} (h : RB B w v l) : ∃ p c, v = .slice p l.length c ∧ l.length ≤ c ∧ c ≤ 9223372036854775807 := by
  rcases h with ⟨rfl, rfl⟩ | ⟨b, cap, h1, _, h3, _, _, _, _, _, _, h4, _⟩
  · exact ⟨none, 0, rfl, Nat.le_refl _, by decide⟩
  · exact ⟨_, cap, h1, h4, h3⟩
theorem RB.str {B : Nat} {w : World} {v : Value} {l : List UInt8} (h : RB B w v l) {P : Program} {src dst : TypeId} (hs : P.underlying src = some (.slice 5)) (he : P.underlying 5 = some (.int .u8)) (hd : P.underlying dst = some .string) :
    (convert src dst v).run P w = .ok (.string ⟨l.toArray⟩) w := by
  rcases h with ⟨rfl, rfl⟩ | ⟨b, cap, rfl, _, _, h4⟩
  · rw [run_convert_bytes_string w src dst 5 none 0 0 hs he hd]
    rfl
  · exact h4.str cap hs he hd
theorem run_append_rb {P : Program} {ts : Array TypeId} {ty t u : TypeId} {d : TypeDesc} {i : TypeInfo} {w : World} {B : Nat} {l m : List UInt8} {s v : Value}
    (h0 : ts[0]? = some t) (h1 : ts[1]? = some u) (ht : P.underlying t = some (.slice 5)) (hu : P.underlying u = some d) (hd : ∀ k, d ≠ .int k)
    (hi : P.info? 5 = some i) (hz0 : i.zero = some (.int .u8 0)) (hz1 : i.size = 1) (hz2 : i.bytes = 1)
    (hr : RB B w s l) (hs : Src P w v m) (hB : B ≤ w.heap.size) (hbd : l.length + m.length ≤ 1000000) :
    ∃ s' w', (Builtin.append_ ts ty #[s, v]).run P w = .ok s' w' ∧ RB B w' s' (l ++ m) ∧ Below B w w' := by
  rcases hr with ⟨rfl, rfl⟩ | ⟨b, cap, rfl, hb, hcap, hrow⟩
  · have hsrc := hs.read
    rw [← hz1] at hsrc
    by_cases hm : m = []
    · subst hm
      have hrun := append_fits (P := P) (w := w) (ty := ty) (base := none) (sLen := 0) (sCap := 0) h0 h1 ht hu hd hi hs.len (hsrc w rfl) (Nat.le_refl _)
      exact ⟨_, _, hrun, .inl ⟨rfl, rfl⟩, Below.refl _ _⟩
    · have hml : 0 < m.length := List.length_pos_iff.2 hm
      simp only [List.length_nil, Nat.zero_add] at hbd
      have hold : (Builtin.firstCells i.size 0 (.slice none 0 0)).run P w.drew = .ok ([] : List Value).toArray w.drew := run_firstCells_none w.drew i.size 0 0 0
      have hrun := append_grows (P := P) (w := w) (ty := ty) (base := none) (sLen := 0) (sCap := 0) (us := []) h0 h1 ht hu hd hi hz0 hs.len (hsrc w.drew rfl) hold (by omega) (by rw [hz2]; omega) (by omega)
      have hge := grownCap_ge w (0 + m.length) 0 5
      have hmx := grownCap_le_maxLen w (0 + m.length) 0 5 (by unfold maxLen; omega)
      unfold maxLen at hmx
      simp only [Nat.zero_add] at hrun hge hmx
      refine ⟨_, _, hrun, .inr ⟨w.heap.size, grownCap w m.length 0 5, by simp, hB, by omega, ⟨_, 0, 0, heap_alloc_new w.drew _, .inr rfl, ?_, by simpa using hge, fun j c hj => ?_⟩⟩, (Below.refl _ _).drew.alloc hB _⟩
      · simp [vbytes, Builtin.zeroCells, Value.cells]
        omega
      · have hjl := (List.getElem?_eq_some_iff.1 hj).1
        simp at hjl hj
        rw [Array.getElem?_append_left (by simp [vbytes]; omega), Array.getElem?_append_right (by simp)]
        simp [vbytes, hj]
  · obtain ⟨b', cap', w', e1, e2, e3, e4, e5, _⟩ := run_append_row (P := P) (ts := ts) (ty := ty) h0 h1 ht hu hd hi hz0 hz1 hz2 hrow hs hb hcap hbd
    exact ⟨_, w', e1, .inr ⟨b', cap', by rw [List.length_append], e4, e5, e2⟩, e3⟩
theorem wpList_append_rb {P : Program} {ops : Array Oper} {rest : List Oper} {o : Oper} {a : Act} {w : World} {Q : Exit → Act → World → Prop} (hgd : o.guard = none) (s x : Operand) (t u : TypeId)
    (ho : o.op = .call { callee := .builtin .append, args := #[s, x], argTypes := #[t, u] }) {d : TypeDesc} {i : TypeInfo}
    (ht : P.underlying t = some (.slice 5)) (hu : P.underlying u = some d) (hd : ∀ k, d ≠ .int k) (hi : P.info? 5 = some i) (hz0 : i.zero = some (.int .u8 0)) (hz1 : i.size = 1) (hz2 : i.bytes = 1)
    {B : Nat} {l m : List UInt8} {sv v : Value} (hs : a.eval s = sv) (hx : a.eval x = v) (hr : RB B w sv l) (hv : Src P w v m) (hB : B ≤ w.heap.size) (hbd : l.length + m.length ≤ 1000000)
    (h : ∀ s' w', RB B w' s' (l ++ m) → Below B w w' → wpList P ops Q rest (a.put o.dst s') w') : wpList P ops Q (o :: rest) a w :=
  wpList_plain hgd fun _ hK => by
    obtain ⟨s', w', e1, e2, e3⟩ := run_append_rb (P := P) (ts := #[t, u]) (ty := o.type) (t := t) (u := u) rfl rfl ht hu hd hi hz0 hz1 hz2 hr hv hB hbd
    unfold Oper.wp execOp
    simp only [ho, resolve, invoke, builtin, Sem.run_bind, Sem.run_pure, Result.andThen_ok, List.map_toArray, List.map_cons, List.map_nil, hs, hx, e1]
    exact hK _ _ (h s' w' e2 e3)
/-- A literal's row as a source. -/
theorem Src.lit (P : Program) (w : World) (l : List UInt8) : Src P (w.alloc (.cells (vbytes l).toArray 5)) (.slice (some ⟨w.heap.size, 0, none⟩) l.length l.length) l := by
  refine Src.row (cap := l.length) ⟨_, 0, 0, heap_alloc_new w _, .inr rfl, by simp [vbytes], Nat.le_refl _, fun j c hj => ?_⟩
  rw [List.getElem?_toArray]
  simp only [vbytes, List.getElem?_map, hj, Option.map_some]
end Go.Rb

namespace Go.Tx
/-- Digits before a text, until nothing is left of the number. -/
def decG (k : Nat) (s : List UInt8) : List UInt8 :=
  if h : k = 0 then (if s = [] then [48] else s) else decG (k / 10) (UInt8.ofNat (48 + k % 10) :: s)
termination_by k
decreasing_by omega
theorem decG_zero (s : List UInt8) (h : ¬ s = []) : decG 0 s = s := by unfold decG; simp [h]
theorem decG_pos {k : Nat} (s : List UInt8) (h : 0 < k) : decG k s = decG (k / 10) (UInt8.ofNat (48 + k % 10) :: s) := by
  rw [decG, dif_neg (by omega)]
theorem decG_nil : decG 0 [] = decG (0 / 10) (UInt8.ofNat (48 + 0 % 10) :: []) := by
  show decG 0 [] = decG 0 [48]
  rw [decG_zero [48] (by simp)]
  unfold decG; simp
def emptyN : Value → Nat
  | .string s => 1 - s.size
  | _ => 0
end Go.Tx
namespace Go.Proofs.YtaoapkbfcofamaaDoor
open Go.RowKit Go.Lib Go.Tx
theorem toList_data (s : ByteArray) : s.toList = s.data.toList := by
  exact Go.Lib.toList_data s
theorem byte_str (w : World) (c : UInt8) : (convert 56 9 (.slice (some ⟨w.heap.size, 0, none⟩) 1 1)).run Tryd.prog (w.alloc (.cells #[.int .u8 (c.toNat : Int)] 5)) = .ok (.string ⟨#[c]⟩) (w.alloc (.cells #[.int .u8 (c.toNat : Int)] 5)) := by
  have := run_convert_bytes_back (P := Tryd.prog) (w.alloc (.cells #[.int .u8 (c.toNat : Int)] 5)) 56 9 5 ⟨w.heap.size, 0, none⟩ 1 [c] Tryd.underlying56 Tryd.underlying5 Tryd.underlying9 (fun j hj => by
    have ha : (⟨w.heap.size, 0, none⟩ : Addr).add j = ⟨w.heap.size, j, none⟩ := by unfold Addr.add; split <;> simp_all
    rw [ha, World.cell?_alloc_new]
    have : j = 0 := by simpa using hj
    subst this
    rfl)
  exact this
def TextR (w : World) (l : List UInt8) (e : Ending) (w' : World) : Prop := e = .returned (.string ⟨l.toArray⟩) ∧ Below w.heap.size w w'
end Go.Proofs.YtaoapkbfcofamaaDoor

namespace Go.Rb
open Go.Ev
theorem RB.mono {B B' : Nat} {w : World} {v : Value} {l : List UInt8} (h : RB B w v l) (hB : B' ≤ B) : RB B' w v l := by
  rcases h with h | ⟨b, cap, h1, h2, h3, h4⟩
  · exact .inl h
  · exact .inr ⟨b, cap, h1, Nat.le_trans hB h2, h3, h4⟩
theorem lit2 {P : Program} {x y : Int} {c d : UInt8} (w : World) (ty : Unit) (hx : (c.toNat : Int) = x) (hy : (d.toNat : Int) = y) :
    Src P (w.alloc (.cells #[.int .u8 x, .int .u8 y] 5)) (.slice (some ⟨w.heap.size, 0, none⟩) 2 2) [c, d] := by
  subst hx hy
  exact Src.lit P w [c, d]
theorem src_text (P : Program) (w : World) (l : List UInt8) : Src P w (.string ⟨l.toArray⟩) l := Src.str P w ⟨l.toArray⟩
end Go.Rb
namespace Go.Proofs.YtaoapkbfcofamaaDoor
open Go.RowKit Go.Lib Go.Tx Go.Rb Go.Ev
def GroupsR (w : World) (r : Option (List UInt8)) (e : Ending) (w' : World) : Prop :=
  Below w.heap.size w w' ∧ match r with
    | none => e = .returned (.tuple #[.slice none 0 0, .bool false])
    | some l => ∃ v, e = .returned (.tuple #[v, .bool true]) ∧ RB w.heap.size w' v l
end Go.Proofs.YtaoapkbfcofamaaDoor

namespace Go.Tx
def ccAt (l : List UInt8) (k : Nat) : Bool := decide (l[k]? = some 58) && decide (l[k + 1]? = some 58)
def dblP (l : List UInt8) (k : Nat) : Option (List UInt8) :=
  match groupsP false (l.take k), groupsP true (l.drop (k + 2)) with
  | some a, some b => if 14 < a.length + b.length then none else some (a ++ List.replicate (16 - a.length - b.length) 0 ++ b)
  | _, _ => none
def parseP (l : List UInt8) : Option (List UInt8) :=
  match fourP (splitL 46 l) with
  | some f => some f
  | none => match (List.range l.length).find? (ccAt l) with
    | some k => dblP l k
    | none => match groupsP true l with
      | some b => if b.length = 16 then some b else none
      | none => none
theorem cc_some {l : List UInt8} {k : Nat} (h : ∀ j, j < k → ccAt l j = false) (hk : ccAt l k = true) : (List.range l.length).find? (ccAt l) = some k := by
  rw [List.find?_range_eq_some]
  refine ⟨hk, ?_, fun j hj => by simp [h j hj]⟩
  unfold ccAt at hk
  simp only [Bool.and_eq_true, decide_eq_true_eq] at hk
  exact List.mem_range.2 (List.getElem?_eq_some_iff.1 hk.1).1
theorem cc_none {l : List UInt8} {k : Nat} (h : ∀ j, j < k → ccAt l j = false) (hk : l.length ≤ k + 1) : (List.range l.length).find? (ccAt l) = none := by
  rw [List.find?_eq_none]
  intro j hj
  have hj := List.mem_range.1 hj
  by_cases hjk : j < k
  · simp [h j hjk]
  · have : l[j + 1]? = none := List.getElem?_eq_none (by omega)
    simp [ccAt, this]
theorem cc_step {l : List UInt8} {k : Nat} (h : ∀ j, j < k → ccAt l j = false) (hk : ccAt l k = false) : ∀ j, j < k + 1 → ccAt l j = false := fun j hj => by
  by_cases e : j = k
  · rw [e]; exact hk
  · exact h j (by omega)
end Go.Tx
namespace Go.Proofs.YtaoapkbfcofamaaDoor
open Go.RowKit Go.Lib Go.Tx Go.Rb Go.Ev
theorem ext_take (s : ByteArray) (k : Nat) : (s.extract 0 k).data.toList = s.data.toList.take k := by
  simp [ByteArray.extract, ByteArray.copySlice, List.extract]
theorem ext_from (s : ByteArray) (k : Nat) : (s.extract k s.size).data.toList = s.data.toList.drop k := by
  simp [ByteArray.extract, ByteArray.copySlice, List.extract]
  apply List.take_of_length_le
  simp
theorem groupsR_none {w w' : World} {r : Option (List UInt8)} {e : Ending} (h : r = none) (hg : GroupsR w r e w') : e = .returned (.tuple #[.slice none 0 0, .bool false]) ∧ Below w.heap.size w w' := by
  subst h; exact ⟨hg.2, hg.1⟩
theorem groupsR_some {w w' : World} {r : Option (List UInt8)} {l : List UInt8} {e : Ending} (h : r = some l) (hg : GroupsR w r e w') : ∃ v, e = .returned (.tuple #[v, .bool true]) ∧ RB w.heap.size w' v l ∧ Below w.heap.size w w' := by
  subst h
  obtain ⟨h1, v, h2, h3⟩ := hg
  exact ⟨v, h2, h3, h1⟩
end Go.Proofs.YtaoapkbfcofamaaDoor

namespace Go.Tx
open Go.Lib
end Go.Tx
namespace Go.Tx
open Go.Lib
/-! ### A text cut at a byte, some times at most -/
theorem pre_len (x : List UInt8) (l : List (List UInt8)) : (pre x l).length = l.length := by cases l <;> rfl
theorem splitG_ne (c : UInt8) (l cur : List UInt8) : splitG c cur l ≠ [] := fun h => by
  have := (splitG_len c l cur).1
  rw [h] at this
  simp at this
theorem splitL_eq (c : UInt8) (l : List UInt8) : splitL c (c :: l) = [] :: splitL c l := by simp [splitL, splitG]
theorem splitL_pre {b c : UInt8} (h : b ≠ c) (l : List UInt8) : splitL c (b :: l) = pre [b] (splitL c l) := by
  rw [splitL, splitL, splitG, if_neg h]
  exact splitG_pre c [b] l []
theorem splitL_len (c : UInt8) (l : List UInt8) : 1 ≤ (splitL c l).length ∧ (splitL c l).length ≤ l.length + 1 := splitG_len c l []
theorem splitK_nil (c : UInt8) (k : Nat) : splitK [c] 0 k [] = [[]] := by cases k <;> rfl
theorem splitK_eq (c : UInt8) (k : Nat) (l : List UInt8) : splitK [c] 0 (k + 1) (c :: l) = [] :: splitK [c] 0 k l := by
  have hix : index (c :: l) [c] = 0 := by rw [index]; simp [List.isPrefixOf]
  rw [splitK, hix]
  simp
theorem splitK_few (c : UInt8) : ∀ (l : List UInt8) (k : Nat), (splitL c l).length ≤ k + 1 → splitK [c] 0 k l = splitL c l
  | [], k, _ => by rw [splitK_nil]; rfl
  | b :: l, k, h => by
    by_cases e : b = c
    · subst e
      rw [splitL_eq] at h ⊢
      have := (splitL_len b l).1
      simp only [List.length_cons] at h
      obtain ⟨j, rfl⟩ : ∃ j, k = j + 1 := ⟨k - 1, by omega⟩
      rw [splitK_eq, splitK_few b l j (by omega)]
    · rw [splitL_pre e] at h ⊢
      rw [pre_len] at h
      rw [splitK_pre e, splitK_few c l k h]
theorem splitK_many (c : UInt8) : ∀ (l : List UInt8) (k : Nat), k + 1 < (splitL c l).length → (splitK [c] 0 k l).length = k + 1 ∧ ∃ q x, splitK [c] 0 k l = q ++ [x] ∧ c ∈ x
  | [], k, h => by simp [splitL, splitG] at h
  | b :: l, k, h => by
    by_cases e : b = c
    · subst e
      rw [splitL_eq] at h
      simp only [List.length_cons] at h
      cases k with
      | zero => exact ⟨rfl, [], b :: l, rfl, by simp⟩
      | succ k =>
        obtain ⟨h1, q, x, h2, h3⟩ := splitK_many b l k (by omega)
        rw [splitK_eq]
        exact ⟨by rw [List.length_cons, h1], [] :: q, x, by rw [h2]; rfl, h3⟩
    · rw [splitL_pre e, pre_len] at h
      obtain ⟨h1, q, x, h2, h3⟩ := splitK_many c l k h
      rw [splitK_pre e]
      refine ⟨by rw [pre_len, h1], ?_⟩
      rw [h2]
      cases q with
      | nil => exact ⟨[], [b] ++ x, rfl, by simp [h3]⟩
      | cons y q => exact ⟨([b] ++ y) :: q, x, rfl, h3⟩
/-- strings.SplitN at one byte. -/
def cutN (c : UInt8) (n : Nat) (l : List UInt8) : List (List UInt8) := splitK [c] 0 (min n (l.length + 1) - 1) l
theorem cutN_few (c : UInt8) (n : Nat) (l : List UInt8) (h : (splitL c l).length ≤ n) : cutN c n l = splitL c l := by
  have := (splitL_len c l)
  exact splitK_few c l _ (by omega)
theorem cutN_many (c : UInt8) (n : Nat) (l : List UInt8) (hn : 1 ≤ n) (h : n < (splitL c l).length) : (cutN c n l).length = n ∧ ∃ q x, cutN c n l = q ++ [x] ∧ c ∈ x := by
  have := (splitL_len c l)
  obtain ⟨h1, h2⟩ := splitK_many c l (min n (l.length + 1) - 1) (by omega)
  exact ⟨by unfold cutN; rw [h1]; omega, h2⟩
theorem cutN_len (c : UInt8) (n : Nat) (l : List UInt8) (hn : 1 ≤ n) : 1 ≤ (cutN c n l).length ∧ (cutN c n l).length ≤ n := by
  by_cases h : (splitL c l).length ≤ n
  · rw [cutN_few c n l h]; exact ⟨(splitL_len c l).1, h⟩
  · rw [(cutN_many c n l hn (by omega)).1]; exact ⟨hn, Nat.le_refl _⟩
theorem splitK_mem (c : UInt8) : ∀ (k : Nat) (l x : List UInt8), x ∈ splitK [c] 0 k l → x.length ≤ l.length
  | 0, l, x, h => by simp [splitK] at h; subst h; exact Nat.le_refl _
  | k + 1, l, x, h => by
    unfold splitK at h
    split at h
    · simp at h; subst h; exact Nat.le_refl _
    · rcases List.mem_cons.1 h with h | h
      · subst h; rw [List.length_take]; omega
      · have := splitK_mem c k _ x h
        rw [List.length_drop] at this
        omega
theorem cutN_mem {c : UInt8} {n : Nat} {l x : List UInt8} (h : x ∈ cutN c n l) : x.length ≤ l.length := splitK_mem c _ l x h
/-- Five parts at most: four of them are all. -/
theorem cutN_four (l : List UInt8) (h : (cutN 46 5 l).length = 4) : cutN 46 5 l = splitL 46 l := by
  by_cases h2 : (splitL 46 l).length ≤ 5
  · exact cutN_few _ _ _ h2
  · have := (cutN_many 46 5 l (by omega) (by omega)).1; omega
theorem cutN_notfour (l : List UInt8) (h : (cutN 46 5 l).length ≠ 4) : fourP (splitL 46 l) = none := by
  unfold fourP
  rw [if_neg]
  rintro ⟨h2, _⟩
  rw [cutN_few 46 5 l (by omega)] at h
  exact h h2
/-! ### What stands in pieces -/
theorem splitG_cur (c : UInt8) : ∀ (l cur : List UInt8), ∃ x r, splitG c cur l = (cur ++ x) :: r
  | [], cur => ⟨[], [], by simp [splitG]⟩
  | d :: l, cur => by
    unfold splitG
    split
    · exact ⟨[], splitG c [] l, by simp⟩
    · obtain ⟨x, r, h⟩ := splitG_cur c l (cur ++ [d])
      exact ⟨d :: x, r, by rw [h]; simp⟩
/-- A byte that is not the one at which is cut stands in some piece. -/
theorem splitG_has {c d : UInt8} (hcd : d ≠ c) : ∀ (l cur : List UInt8), d ∈ l → ∃ x ∈ splitG c cur l, d ∈ x
  | e :: l, cur, h => by
    unfold splitG
    by_cases hd : d = e
    · subst hd
      rw [if_neg hcd]
      obtain ⟨x, r, h2⟩ := splitG_cur c l (cur ++ [d])
      exact ⟨_, by rw [h2]; exact List.mem_cons_self, by simp⟩
    · have hl : d ∈ l := by
        rcases List.mem_cons.1 h with h | h
        · exact absurd h hd
        · exact h
      split
      · obtain ⟨x, hx, h3⟩ := splitG_has hcd l [] hl
        exact ⟨x, List.mem_cons_of_mem _ hx, h3⟩
      · exact splitG_has hcd l _ hl
/-- Pieces hold nothing that the text doesn't. -/
theorem splitG_sub {c d : UInt8} : ∀ (l cur x : List UInt8), x ∈ splitG c cur l → d ∈ x → d ∈ cur ∨ d ∈ l
  | [], cur, x, h, hd => by
    simp [splitG] at h
    subst h
    exact .inl hd
  | e :: l, cur, x, h, hd => by
    unfold splitG at h
    split at h
    · rcases List.mem_cons.1 h with h | h
      · subst h; exact .inl hd
      · rcases splitG_sub l [] x h hd with h | h
        · cases h
        · exact .inr (List.mem_cons_of_mem _ h)
    · rcases splitG_sub l _ x h hd with h | h
      · rcases List.mem_append.1 h with h | h
        · exact .inl h
        · rw [List.mem_singleton] at h; subst h; exact .inr List.mem_cons_self
      · exact .inr (List.mem_cons_of_mem _ h)
theorem splitG_none {c : UInt8} : ∀ (l cur : List UInt8), ¬ c ∈ l → splitG c cur l = [cur ++ l]
  | [], cur, _ => by simp [splitG]
  | e :: l, cur, h => by
    simp only [List.mem_cons, not_or] at h
    unfold splitG
    rw [if_neg (fun x => h.1 x.symm), splitG_none l _ h.2]
    simp
theorem splitL_none {c : UInt8} (l : List UInt8) (h : ¬ c ∈ l) : splitL c l = [l] := by rw [splitL, splitG_none l [] h]; simp
/-! ### Digits and groups that are none -/
theorem okN_dig {l : List UInt8} (h : okN l = true) : l.all dig = true := by
  cases ha : l.all dig with
  | true => rfl
  | false =>
    have := numRes_no l 255 ha
    unfold okN at h
    rw [this] at h
    cases h
theorem okN_has {l : List UInt8} {d : UInt8} (hd : dig d = false) (h : d ∈ l) : okN l = false := by
  cases ho : okN l with
  | false => rfl
  | true =>
    have := okN_dig ho
    rw [List.all_eq_true] at this
    rw [this d h] at hd
    cases hd
theorem four_has {s : List UInt8} {d : UInt8} (hd : dig d = false) (h46 : d ≠ 46) (h : d ∈ s) : fourP (splitL 46 s) = none := by
  obtain ⟨x, hx, h2⟩ := splitG_has h46 s [] h
  unfold fourP
  rw [if_neg]
  rintro ⟨_, h3⟩
  rw [List.all_eq_true] at h3
  have := h3 x hx
  rw [okN_has hd h2] at this
  cases this
theorem four_nodot {s : List UInt8} (h : ¬ 46 ∈ s) : fourP (splitL 46 s) = none := by
  rw [splitL_none s h]
  unfold fourP
  rw [if_neg]
  rintro ⟨h2, _⟩
  simp at h2
theorem hexG_has {l : List UInt8} {d : UInt8} (hd : hexV d < 0) (h : d ∈ l) : hexG l = none := by
  obtain ⟨k, hk, e⟩ := List.getElem_of_mem h
  exact hexG_bad (k := k) (c := d) (by rw [List.getElem?_eq_getElem hk, e]) hd
theorem hexG_two {l x : List UInt8} (h : hexG l = some x) : x.length = 2 := by
  unfold hexG at h
  split at h
  · cases h
  · split at h
    · cases h; rfl
    · cases h
theorem fourP_len {p : List (List UInt8)} {x : List UInt8} (h : fourP p = some x) : x.length = 4 := by
  unfold fourP at h
  split at h
  · rename_i h4
    cases h
    rw [List.length_map]; exact h4.1
  · cases h
theorem partG_two {t : Bool} {l x : List UInt8} (h : partG t l = some x) : 2 ≤ x.length := by
  unfold partG at h
  split at h
  · cases e : fourP (splitL 46 l) with
    | some f => rw [e] at h; cases h; rw [fourP_len e]; decide
    | none => rw [e] at h; rw [hexG_two h]; exact Nat.le_refl _
  · rw [hexG_two h]; exact Nat.le_refl _
theorem accG_two {last : Bool} {P : List (List UInt8)} : ∀ {k : Nat} {a : List UInt8}, accG last P k = some a → 2 * k ≤ a.length
  | 0, a, h => by simp
  | k + 1, a, h => by
    unfold accG at h
    split at h
    · cases h
    · rename_i b hb
      split at h
      · cases h
      · rename_i x hx
        cases h
        have := accG_two hb
        have := partG_two hx
        simp
        omega
/-! ### Groups, the program's way -/
def hexAll : List (List UInt8) → Option (List UInt8)
  | [] => some []
  | l :: r => match hexG l, hexAll r with
    | some a, some b => some (a ++ b)
    | _, _ => none
theorem hexAll_snoc (l : List UInt8) : ∀ P : List (List UInt8), hexAll (P ++ [l]) = match hexAll P, hexG l with
    | some a, some b => some (a ++ b)
    | _, _ => none
  | [] => by simp only [hexAll, List.nil_append]; cases hexG l <;> simp
  | q :: P => by
    simp only [List.cons_append, hexAll, hexAll_snoc l P]
    cases hexG q <;> cases hexAll P <;> cases hexG l <;> simp
theorem hexAll_no {P : List (List UInt8)} {l : List UInt8} (h : l ∈ P) (hl : hexG l = none) : hexAll P = none := by
  induction P with
  | nil => cases h
  | cons q P ih =>
    rcases List.mem_cons.1 h with h | h
    · subst h; simp [hexAll, hl]
    · simp only [hexAll, ih h]; cases hexG q <;> rfl
theorem hexAll_len {P : List (List UInt8)} : ∀ {a : List UInt8}, hexAll P = some a → a.length = 2 * P.length := by
  induction P with
  | nil => intro a h; cases h; rfl
  | cons q P ih =>
    intro a h
    unfold hexAll at h
    split at h
    · rename_i x y hx hy
      cases h
      have := hexG_two hx
      have := ih hy
      simp
      omega
    · cases h
/-- What parseGroups answers. -/
def pgP (s : List UInt8) : Option (List UInt8) :=
  if s = [] then some [] else
  match fourP (splitL 46 ((cutN 58 9 s).getLastD [])) with
  | some f => (hexAll (cutN 58 9 s).dropLast).map (· ++ f)
  | none => hexAll (cutN 58 9 s)
theorem accG_hex {last : Bool} {P : List (List UInt8)} : ∀ k, k ≤ P.length → (last = true → k + 1 ≤ P.length) → accG last P k = hexAll (P.take k)
  | 0, _, _ => by simp [accG, hexAll]
  | k + 1, h, h2 => by
    have ih := accG_hex (last := last) (P := P) k (by omega) (fun e => by have := h2 e; omega)
    have hk : k < P.length := by omega
    have ht : P.take (k + 1) = P.take k ++ [P[k]] := List.take_succ_eq_append_getElem hk
    have hf : (last && decide (k + 1 = P.length)) = false := by
      cases last with
      | false => rfl
      | true => have := h2 rfl; simp; omega
    have hg : P.getD k [] = P[k] := by simp [List.getD_eq_getElem?_getD, List.getElem?_eq_getElem hk]
    have hpf : ∀ l, partG false l = hexG l := fun l => rfl
    rw [accG, ih, ht, hexAll_snoc, hf, hg, hpf]
    cases hexAll (P.take k) <;> simp
    cases hexG P[k] <;> simp
theorem accG_full (P : List (List UInt8)) (h : 1 ≤ P.length) : accG true P P.length = match fourP (splitL 46 (P.getLastD [])) with
    | some f => (hexAll P.dropLast).map (· ++ f)
    | none => hexAll P := by
  obtain ⟨k, hk⟩ : ∃ k, P.length = k + 1 := ⟨P.length - 1, by omega⟩
  have hlt : k < P.length := by omega
  have hg : P.getD k [] = P[k] := by simp [List.getD_eq_getElem?_getD, List.getElem?_eq_getElem hlt]
  have hl : P.getLastD [] = P[k] := by
    rw [List.getLastD_eq_getLast?, List.getLast?_eq_getElem?, hk]
    simp [List.getElem?_eq_getElem hlt]
  have hd : P.dropLast = P.take k := by rw [List.dropLast_eq_take, hk]; rfl
  have hall : P = P.take k ++ [P[k]] := by
    have := List.take_succ_eq_append_getElem hlt
    rw [← this, ← hk, List.take_length]
  have ha := accG_hex (last := true) (P := P) k (by omega) (fun _ => by omega)
  have hf : (true && decide (k + 1 = P.length)) = true := by simp; omega
  have e1 : accG true P P.length = match accG true P k with
      | none => none
      | some a => match partG true P[k] with
        | none => none
        | some x => some (a ++ x) := by
    rw [hk, accG, hf, hg]
    cases accG true P k with
    | none => rfl
    | some a => simp only []; cases partG true P[k] <;> rfl
  rw [e1, ha, hl, hd]
  cases h4 : fourP (splitL 46 P[k]) with
  | some f =>
    rw [partG_four h4]
    cases hexAll (P.take k) <;> rfl
  | none =>
    rw [partG_hex fun _ => h4]
    have := hexAll_snoc P[k] (P.take k)
    rw [← hall] at this
    rw [this]
    cases hexAll (P.take k) <;> simp
    cases hexG P[k] <;> simp
theorem pgP_few {s : List UInt8} (h : (splitL 58 s).length ≤ 9) : pgP s = groupsP true s := by
  unfold pgP groupsP
  split
  · rfl
  · rw [cutN_few 58 9 s h, accG_full _ (splitL_len 58 s).1]
theorem hexV_58 : hexV 58 < 0 := by decide
theorem hexV_46 : hexV 46 < 0 := by decide
theorem pgP_many {s : List UInt8} (h : 9 < (splitL 58 s).length) : pgP s = none := by
  unfold pgP
  have hne : s ≠ [] := by rintro rfl; simp [splitL, splitG] at h
  obtain ⟨h1, q, x, h2, h3⟩ := cutN_many 58 9 s (by omega) h
  have hl : (cutN 58 9 s).getLastD [] = x := by rw [h2]; simp
  rw [if_neg hne, hl, four_has (d := 58) (by decide) (by decide) h3, h2]
  exact hexAll_no (l := x) (by simp) (hexG_has hexV_58 h3)
theorem groupsP_many {last : Bool} {s b : List UInt8} (h : 9 < (splitL 58 s).length) (hb : groupsP last s = some b) : 16 < b.length := by
  unfold groupsP at hb
  have hne : s ≠ [] := by rintro rfl; simp [splitL, splitG] at h
  rw [if_neg hne] at hb
  have := accG_two hb
  omega
theorem groupsP_nodot {s : List UInt8} (h : ¬ 46 ∈ s) : groupsP true s = groupsP false s := by
  unfold groupsP
  split
  · rfl
  · have hl := (splitL_len 58 s).1
    rw [accG_full _ hl, accG_hex (last := false) _ (Nat.le_refl _) (fun h => by cases h), List.take_length]
    have : ¬ 46 ∈ (splitL 58 s).getLastD [] := by
      intro h3
      obtain ⟨x, r, hx⟩ : ∃ x r, splitL 58 s = r ++ [x] := ⟨_, _, (List.dropLast_concat_getLast (l := splitL 58 s) (by intro e; rw [e] at hl; simp at hl)).symm⟩
      rw [hx] at h3
      simp at h3
      rcases splitG_sub (c := 58) (d := 46) s [] x (by show x ∈ splitL 58 s; rw [hx]; simp) h3 with h4 | h4
      · cases h4
      · exact h h4
    rw [four_nodot this]
theorem groupsP_dot {s : List UInt8} (h : 46 ∈ s) : groupsP false s = none := by
  have hne : s ≠ [] := by rintro rfl; cases h
  unfold groupsP
  rw [if_neg hne, accG_hex (last := false) _ (Nat.le_refl _) (fun h => by cases h), List.take_length]
  obtain ⟨x, hx, h2⟩ := splitG_has (c := 58) (d := 46) (by decide) s [] h
  exact hexAll_no hx (hexG_has hexV_46 h2)
/-! ### An address, the program's way -/
def full16 (r : Option (List UInt8)) : Option (List UInt8) := match r with
  | some b => if b.length = 16 then some b else none
  | none => none
def bothP (a b : Option (List UInt8)) : Option (List UInt8) := match a, b with
  | some x, some y => if 14 < x.length + y.length then none else some (x ++ List.replicate (16 - x.length - y.length) 0 ++ y)
  | _, _ => none
def longP (s : List UInt8) : Option (List UInt8) :=
  if (Lib.cut s [58, 58]).2.2 = true then
    (if 46 ∈ (Lib.cut s [58, 58]).1 then none else bothP (pgP (Lib.cut s [58, 58]).1) (pgP (Lib.cut s [58, 58]).2.1))
  else full16 (pgP s)
def addrP (s : List UInt8) : Option (List UInt8) := if 58 ∈ s then longP s else fourP (splitL 46 s)
theorem full16_pg (s : List UInt8) : full16 (pgP s) = full16 (groupsP true s) := by
  by_cases h : (splitL 58 s).length ≤ 9
  · rw [pgP_few h]
  · rw [pgP_many (by omega)]
    cases hb : groupsP true s with
    | none => rfl
    | some b =>
      have := groupsP_many (by omega) hb
      unfold full16
      simp only
      rw [if_neg (by omega)]
theorem both_pg (a b : List UInt8) (ha : ¬ 46 ∈ a) : bothP (pgP a) (pgP b) = bothP (groupsP false a) (groupsP true b) := by
  rw [← groupsP_nodot ha]
  have big : ∀ x y : List UInt8, 16 < x.length ∨ 16 < y.length → bothP (some x) (some y) = none := fun x y h => by
    unfold bothP
    simp only
    rw [if_pos (by omega)]
  have n1 : ∀ r, bothP none r = none := fun r => by cases r <;> rfl
  have n2 : ∀ r, bothP r none = none := fun r => by cases r <;> rfl
  by_cases h1 : (splitL 58 a).length ≤ 9
  · rw [pgP_few h1]
    by_cases h2 : (splitL 58 b).length ≤ 9
    · rw [pgP_few h2]
    · rw [pgP_many (s := b) (by omega), n2]
      cases hb : groupsP true b with
      | none => rw [n2]
      | some y =>
        cases hx : groupsP true a with
        | none => rw [n1]
        | some x => rw [big x y (.inr (groupsP_many (by omega) hb))]
  · rw [pgP_many (s := a) (by omega), n1]
    cases hx : groupsP true a with
    | none => rw [n1]
    | some x =>
      cases hb : groupsP true b with
      | none => rw [n2]
      | some y => rw [big x y (.inl (groupsP_many (by omega) hx))]
theorem cc_occ (s : List UInt8) (k : Nat) : ccAt s k = Lib.occAt s [58, 58] k := by
  unfold ccAt Lib.occAt
  have e0 : s[k]? = (s.drop k)[0]? := by simp
  have e1 : s[k + 1]? = (s.drop k)[1]? := by simp
  rw [e0, e1]
  generalize s.drop k = t
  match t with
  | [] => rfl
  | [x] => simp [List.isPrefixOf]
  | x :: y :: t =>
    simp only [List.getElem?_cons_zero, List.getElem?_cons_succ, Option.some.injEq, List.isPrefixOf, Bool.and_true]
    have : ∀ z : UInt8, decide (z = 58) = (58 == z) := fun z => by
      by_cases h : z = 58
      · subst h; rfl
      · have h' : ¬ 58 = z := fun e => h e.symm
        simp [h, h']
    rw [this, this]
theorem addrP_parse (s : List UInt8) : addrP s = parseP s := by
  unfold addrP
  by_cases h58 : 58 ∈ s
  · rw [if_pos h58]
    have hf : fourP (splitL 46 s) = none := four_has (d := 58) (by decide) (by decide) h58
    unfold parseP
    rw [hf]
    simp only
    unfold longP
    rcases Lib.index_spec s [58, 58] with ⟨hi, hno⟩ | ⟨i, hi, hle, hocc, hno⟩
    · have hc : Lib.cut s [58, 58] = (s, [], false) := by unfold Lib.cut; rw [hi, if_neg (by decide)]
      have hfind : (List.range s.length).find? (ccAt s) = none := cc_none (k := s.length) (fun j hj => by rw [cc_occ]; exact hno j (by omega)) (by omega)
      rw [hc, hfind, if_neg (by simp)]
      rw [full16_pg]
      rfl
    · have hc : Lib.cut s [58, 58] = (s.take i, s.drop (i + 2), true) := by unfold Lib.cut; rw [hi, if_pos (by omega)]; simp
      have hfind : (List.range s.length).find? (ccAt s) = some i := cc_some (k := i) (fun j hj => by rw [cc_occ]; exact hno j hj) (by rw [cc_occ]; exact hocc)
      rw [hc, hfind, if_pos rfl]
      simp only
      unfold dblP
      by_cases hd : 46 ∈ s.take i
      · rw [if_pos hd, groupsP_dot hd]
      · rw [if_neg hd, both_pg _ _ hd]
        rfl
  · rw [if_neg h58]
    unfold parseP
    cases hf : fourP (splitL 46 s) with
    | some f => rfl
    | none =>
      have hfind : (List.range s.length).find? (ccAt s) = none := cc_none (k := s.length) (fun j hj => by
        unfold ccAt
        have : ¬ s[j]? = some 58 := fun e => h58 (List.mem_of_getElem? e)
        simp [this]) (by omega)
      rw [hfind]
      simp only
      cases hg : groupsP true s with
      | none => rfl
      | some b =>
        simp only
        rw [if_neg]
        intro h16
        unfold groupsP at hg
        split at hg
        · cases hg; simp at h16
        · rw [splitL_none s h58] at hg
          have := accG_len hg
          simp at this
          omega
end Go.Tx

namespace Go.Tx
open Go.Lib
theorem dec_val (u : Nat) : val (decDigits u) = u := by
  induction u using Nat.strongRecOn with
  | _ u ih =>
    rw [decDigits]
    split
    · have h : (UInt8.ofNat (48 + u)).toNat = 48 + u := by rw [UInt8.toNat_ofNat']; omega
      simp only [val, valF, List.foldl_cons, List.foldl_nil, h]
      omega
    · have h : (UInt8.ofNat (48 + u % 10)).toNat = 48 + u % 10 := by rw [UInt8.toNat_ofNat']; omega
      rw [val_snoc, ih (u / 10) (by omega), h]
      omega
theorem dec_dig (u : Nat) : (decDigits u).all dig = true := by
  induction u using Nat.strongRecOn with
  | _ u ih =>
    rw [decDigits]
    split
    · have h : (UInt8.ofNat (48 + u)).toNat = 48 + u := by rw [UInt8.toNat_ofNat']; omega
      simp only [List.all_cons, List.all_nil, Bool.and_true]
      exact dig_of _ (by omega) (by omega)
    · have h : (UInt8.ofNat (48 + u % 10)).toNat = 48 + u % 10 := by rw [UInt8.toNat_ofNat']; omega
      rw [List.all_append, ih (u / 10) (by omega)]
      simp only [List.all_cons, List.all_nil, Bool.and_true, Bool.true_and]
      exact dig_of _ (by omega) (by omega)
theorem dec_one (u : Nat) : 1 ≤ (decDigits u).length := by
  rw [decDigits]
  split <;> simp
theorem dec_head (u : Nat) (h1 : 1 ≤ u) : (decDigits u).head? ≠ some 48 := by
  induction u using Nat.strongRecOn with
  | _ u ih =>
    rw [decDigits]
    split
    · have h : (UInt8.ofNat (48 + u)).toNat = 48 + u := by rw [UInt8.toNat_ofNat']; omega
      intro e
      simp only [List.head?_cons, Option.some.injEq] at e
      rw [e] at h
      have : (48 : UInt8).toNat = 48 := rfl
      omega
    · have := ih (u / 10) (by omega) (by omega)
      have h2 := dec_one (u / 10)
      cases hd : decDigits (u / 10) with
      | nil => rw [hd] at h2; simp at h2
      | cons c l =>
        rw [hd] at this
        simpa using this
theorem dec_len (k : Nat) : ∀ u, u < 10 ^ (k + 1) → (decDigits u).length ≤ k + 1 := by
  induction k with
  | zero =>
    intro u h
    rw [decDigits_one (by simpa using h)]
    simp
  | succ k ih =>
    intro u h
    rw [decDigits]
    split
    · simp
    · have := ih (u / 10) (by rw [Nat.pow_succ] at h; omega)
      rw [List.length_append, List.length_singleton]
      omega
theorem dec_num (u : Nat) (m : Int) (h : (u : Int) ≤ m) (hu : u < 1000000000) : numRes (decDigits u) m = ((u : Int), true) := by
  rw [numRes_ok _ _ (dec_one u) (dec_len 8 u hu) ?_ (dec_dig u), dec_val, if_neg (by omega)]
  rintro ⟨h1, h2⟩
  by_cases h0 : u = 0
  · subst h0
    rw [decDigits_one (by omega)] at h2
    simp at h2
  · exact dec_head u (by omega) h1
theorem dec_slash (u : Nat) : ¬ 47 ∈ decDigits u := fun h => by
  have := List.all_eq_true.1 (dec_dig u) 47 h
  simp [dig] at this
/-! ### A text cut at the sign /, three times at most -/
theorem splitK_at (c : UInt8) (k : Nat) (r : List UInt8) : ∀ a : List UInt8, ¬ c ∈ a → splitK [c] 0 (k + 1) (a ++ c :: r) = a :: splitK [c] 0 k r
  | [], _ => splitK_eq c k r
  | b :: a, h => by
    have hb : b ≠ c := fun e => h (by rw [e]; simp)
    rw [List.cons_append, splitK_pre hb, splitK_at c k r a (fun e => h (by simp [e]))]
    rfl
theorem cut_join (a b c d : List UInt8) (ha : ¬ 47 ∈ a) (hb : ¬ 47 ∈ b) (hc : ¬ 47 ∈ c) : cutN 47 4 (Lib.join [a, b, c, d] [47]) = [a, b, c, d] := by
  have e : Lib.join [a, b, c, d] [47] = a ++ 47 :: (b ++ 47 :: (c ++ 47 :: d)) := by simp [Lib.join, List.intercalate]
  rw [e]
  unfold cutN
  have hl : (a ++ 47 :: (b ++ 47 :: (c ++ 47 :: d))).length = a.length + (b.length + (c.length + (d.length + 1) + 1) + 1) := by simp
  have hk : min 4 ((a ++ 47 :: (b ++ 47 :: (c ++ 47 :: d))).length + 1) - 1 = 2 + 1 := by rw [hl]; omega
  rw [hk, splitK_at 47 2 _ a ha, splitK_at 47 1 _ b hb, splitK_at 47 0 _ c hc]
  rfl
end Go.Tx
namespace Go.Proofs.YtaoapkbfcofamaaDoor
open Go.RowKit Go.Lib Go.Tx
/-! ### What Check gives it gives again -/
theorem low_letters : ∀ i : Fin 256, (letterN (UInt8.ofNat i.1).toNat = true → letterN (low (UInt8.ofNat i.1)).toNat = true ∧ UInt8.ofNat i.1 ≠ 47) ∧ (low (UInt8.ofNat i.1) = 47 → UInt8.ofNat i.1 = 47) := by decide +kernel
theorem low_letter (c : UInt8) : (letterN c.toNat = true → letterN (low c).toNat = true ∧ c ≠ 47) ∧ (low c = 47 → c = 47) := by
  have := low_letters ⟨c.toNat, c.toNat_lt⟩
  simpa using this
theorem foldS_list (s : ByteArray) : (foldS s).data.toList = s.data.toList.map low := rfl
theorem foldS_fold (s : ByteArray) : foldS (foldS s) = foldS s := by
  unfold foldS
  rw [show (ByteArray.data ⟨(s.data.toList.map low).toArray⟩).toList = s.data.toList.map low from rfl, low_low]
theorem protoB_low {l : List UInt8} (h : protoB l = true) : protoB (l.map low) = true := by
  unfold protoB at h ⊢
  simp only [Bool.and_eq_true, decide_eq_true_eq] at h ⊢
  obtain ⟨⟨h1, h2⟩, h3⟩ := h
  refine ⟨⟨fun e => h1 (by simpa using e), by rw [List.length_map]; exact h2⟩, ?_⟩
  rw [List.all_eq_true] at h3 ⊢
  intro x hx
  obtain ⟨y, hy, rfl⟩ := List.mem_map.1 hx
  exact ((low_letter y).1 (h3 y hy)).1
theorem protoB_slash {l : List UInt8} (h : protoB l = true) : ¬ 47 ∈ l := fun e => by
  unfold protoB at h
  simp only [Bool.and_eq_true] at h
  exact ((low_letter 47).1 (List.all_eq_true.1 h.2 47 e)).2 rfl
theorem protoOK_fold {s : ByteArray} (h : protoOK s = true) : protoOK (foldS s) = true ∧ ¬ 47 ∈ (foldS s).data.toList := by
  unfold protoOK at h ⊢
  rw [foldS_list]
  rw [Bool.or_eq_true, decide_eq_true_eq] at h
  rcases h with h | h
  · rw [h]
    exact ⟨rfl, by simp⟩
  · have := protoB_low h
    exact ⟨by rw [this]; simp, protoB_slash this⟩
theorem bare_root {l : List UInt8} (h : isRoot l = true) : l = bare l ++ [46] := by
  have h' : hasSuffix l [46] = true := h
  obtain ⟨t, ht⟩ := List.isSuffixOf_iff_suffix.1 h'
  rw [← ht, bare_snoc]
theorem bare_not {l : List UInt8} (h : isRoot l = false) : bare l = l := by
  have h' : hasSuffix l [46] = false := h
  unfold bare trimSuffix
  rw [h', if_neg (by decide)]
theorem root_low {l : List UInt8} (h : isRoot l = false) : isRoot (l.map low) = false := by
  cases hr : isRoot (l.map low) with
  | false => rfl
  | true =>
    have h' : hasSuffix (l.map low) [46] = true := hr
    obtain ⟨t, ht⟩ := List.isSuffixOf_iff_suffix.1 h'
    cases hl : l.reverse with
    | nil =>
      have : l = [] := by simpa using hl
      rw [this] at ht
      simp at ht
    | cons c r =>
      have e : l = r.reverse ++ [c] := by
        have := congrArg List.reverse hl
        simpa using this
      rw [e, List.map_append, List.map_cons, List.map_nil] at ht
      have hc := (List.append_inj' ht rfl).2
      simp only [List.cons.injEq, and_true] at hc
      have hc2 := (low_facts c).2.1.1 hc.symm
      have : isRoot l = true := by
        rw [e, hc2]
        exact suf_snoc _
      rw [h] at this
      cases this
theorem askS_root {s : ByteArray} (h : isRoot s.data.toList = true) : (askS s).data.toList = (bare s.data.toList).map low ++ [46] := by
  unfold askS
  rw [if_pos h, ByteArray.data_append, Array.toList_append]
theorem askS_not {s : ByteArray} (h : isRoot s.data.toList = false) : (askS s).data.toList = s.data.toList.map low := by
  unfold askS
  rw [if_neg (by rw [h]; decide), bare_not h]
theorem ba_ext {a b : ByteArray} (h : a.data.toList = b.data.toList) : a = b := ByteArray.ext (Array.toList_inj.1 h)
theorem askS_ask {s : ByteArray} (h : nameB (bare s.data.toList) = true) : askS (askS s) = askS s ∧ nameB (bare (askS s).data.toList) = true := by
  cases hr : isRoot s.data.toList with
  | true =>
    have e := askS_root hr
    have hr2 : isRoot (askS s).data.toList = true := by rw [e]; exact suf_snoc _
    refine ⟨ba_ext ?_, ?_⟩
    · rw [askS_root hr2, e, bare_snoc, low_low]
    · rw [e, bare_snoc, name_low]; exact h
  | false =>
    have e := askS_not hr
    have hr2 : isRoot (askS s).data.toList = false := by rw [e]; exact root_low hr
    refine ⟨ba_ext ?_, ?_⟩
    · rw [askS_not hr2, e, low_low]
    · rw [bare_not hr2, e, name_low]
      rw [bare_not hr] at h
      exact h
/-- The ways of Check. -/
theorem check_ways (q : QryL) : (checkP q = (zQ, 6) ∨ checkP q = (zQ, 7)) ∨
    (nameB (bare q.name.data.toList) = true ∧ checkP q = (⟨1, askS q.name, ⟨#[]⟩, 0⟩, 0)) ∨
    ((q.name.size = 4 ∨ q.name.size = 16) ∧ checkP q = (⟨2, q.name, ⟨#[]⟩, 0⟩, 0)) ∨
    (svcB q.name.data.toList = true ∧ protoOK q.proto = true ∧ checkP q = (⟨3, q.name, foldS q.proto, 0⟩, 0)) ∨
    ((1 ≤ q.port ∧ q.port ≤ 65535) ∧ protoOK q.proto = true ∧ checkP q = (⟨4, ⟨#[]⟩, foldS q.proto, q.port⟩, 0)) := by
  unfold checkP
  by_cases h1 : q.db = 1
  · rw [if_pos h1]
    by_cases h : nameB (bare q.name.data.toList) = true
    · rw [if_pos h]; exact .inr (.inl ⟨h, rfl⟩)
    · rw [if_neg h]; exact .inl (.inl rfl)
  rw [if_neg h1]
  by_cases h2 : q.db = 2
  · rw [if_pos h2]
    by_cases h : q.name.size = 4 ∨ q.name.size = 16
    · rw [if_pos h]; exact .inr (.inr (.inl ⟨h, rfl⟩))
    · rw [if_neg h]; exact .inl (.inr rfl)
  rw [if_neg h2]
  by_cases h3 : q.db = 3
  · rw [if_pos h3]
    by_cases h : svcB q.name.data.toList = true
    · rw [if_pos h]
      by_cases hp : protoOK q.proto = true
      · rw [if_pos hp]; exact .inr (.inr (.inr (.inl ⟨h, hp, rfl⟩)))
      · rw [if_neg hp]; exact .inl (.inr rfl)
    · rw [if_neg h]; exact .inl (.inl rfl)
  rw [if_neg h3]
  by_cases h4 : q.db = 4
  · rw [if_pos h4]
    by_cases h : (1 ≤ q.port ∧ q.port ≤ 65535) ∧ protoOK q.proto = true
    · rw [if_pos h]; exact .inr (.inr (.inr (.inr ⟨h.1, h.2, rfl⟩)))
    · rw [if_neg h]; exact .inl (.inr rfl)
  · rw [if_neg h4]; exact .inl (.inr rfl)
/-- What Check gives may be, is given again, and its numbers and protocol have no /. -/
theorem check_again (q : QryL) (h : (checkP q).2 = 0) : checkP (checkP q).1 = ((checkP q).1, 0) ∧ (1 ≤ (checkP q).1.db ∧ (checkP q).1.db ≤ 4) ∧ (0 ≤ (checkP q).1.port ∧ (checkP q).1.port ≤ 65535) ∧ ¬ 47 ∈ (checkP q).1.proto.data.toList := by
  rcases check_ways q with (e | e) | ⟨h1, e⟩ | ⟨h1, e⟩ | ⟨h1, h2, e⟩ | ⟨h1, h2, e⟩
  · rw [e] at h; cases h
  · rw [e] at h; cases h
  · rw [e]
    obtain ⟨a1, a2⟩ := askS_ask h1
    refine ⟨?_, by simp, by simp, by simp⟩
    unfold checkP
    simp only [if_true]
    rw [if_pos a2, a1]
  · rw [e]
    refine ⟨?_, by simp, by simp, by simp⟩
    unfold checkP
    simp only [if_true]
    rw [if_neg (by decide), if_pos h1]
  · rw [e]
    obtain ⟨a1, a2⟩ := protoOK_fold h2
    refine ⟨?_, by simp, by simp, a2⟩
    unfold checkP
    simp only [if_true]
    rw [if_neg (by decide), if_neg (by decide), if_pos h1, if_pos a1, foldS_fold]
  · rw [e]
    obtain ⟨a1, a2⟩ := protoOK_fold h2
    refine ⟨?_, by simp, ⟨by simp only; omega, h1.2⟩, a2⟩
    unfold checkP
    simp only [if_true]
    rw [if_neg (by decide), if_neg (by decide), if_neg (by decide), if_pos ⟨h1, a1⟩, foldS_fold]
/-- The fields of a key. -/
def partsK (q : QryL) : List (List UInt8) := [Lib.itoa q.db, Lib.itoa q.port, q.proto.data.toList, q.name.data.toList]
def keyL (q : QryL) : List UInt8 := if (checkP q).2 = 0 then Lib.join (partsK (checkP q).1) [47] else []
/-- The query whose fields a text has. -/
def readP (l : List UInt8) : Option QryL := match cutN 47 4 l with
  | [a, b, c, d] => if (numRes a 4).2 = true ∧ (numRes b 65535).2 = true then some ⟨(numRes a 4).1, ⟨d.toArray⟩, ⟨c.toArray⟩, (numRes b 65535).1⟩ else none
  | _ => none
def fromP (l : List UInt8) : Option QryL := match readP l with
  | some q => if keyL q = l then some q else none
  | none => none
theorem key_none {q : QryL} (h : (checkP q).2 ≠ 0) : keyL q = [] := by unfold keyL; rw [if_neg h]
theorem read_key (q : QryL) (h : (checkP q).2 = 0) : readP (keyL q) = some (checkP q).1 := by
  obtain ⟨_, h2, h3, h4⟩ := check_again q h
  unfold keyL
  rw [if_pos h]
  generalize (checkP q).1 = r at *
  obtain ⟨db, nm, pr, po⟩ := r
  obtain ⟨d, rfl⟩ : ∃ d : Nat, db = d := ⟨db.toNat, by simp only at h2; omega⟩
  obtain ⟨p, rfl⟩ : ∃ p : Nat, po = p := ⟨po.toNat, by simp only at h3; omega⟩
  have e1 : Lib.itoa (d : Int) = decDigits d := by unfold Lib.itoa; rw [if_neg (by omega)]; simp
  have e2 : Lib.itoa (p : Int) = decDigits p := by unfold Lib.itoa; rw [if_neg (by omega)]; simp
  unfold readP partsK
  simp only at h2 h3 h4 ⊢
  rw [e1, e2, cut_join _ _ _ _ (dec_slash d) (dec_slash p) h4]
  simp only
  rw [dec_num d 4 (by omega) (by omega), dec_num p 65535 (by omega) (by omega)]
  rw [if_pos ⟨rfl, rfl⟩]
theorem key_some {q : QryL} (h : (checkP q).2 = 0) : keyL q ≠ [] := fun e => by
  have := read_key q h
  rw [e] at this
  have hc : readP [] = none := rfl
  rw [hc] at this
  cases this
theorem key_nil (q : QryL) : keyL q = [] ↔ (checkP q).2 ≠ 0 := by
  by_cases h : (checkP q).2 = 0
  · exact ⟨fun e => absurd e (key_some h), fun e => absurd h e⟩
  · exact ⟨fun _ => h, fun _ => key_none h⟩
theorem key_again (q : QryL) (h : (checkP q).2 = 0) : keyL (checkP q).1 = keyL q := by
  have e := (check_again q h).1
  unfold keyL
  rw [e]
  simp only [h]
theorem from_key (q : QryL) (h : (checkP q).2 = 0) : fromP (keyL q) = some (checkP q).1 := by
  unfold fromP
  rw [read_key q h]
  simp only
  rw [if_pos (key_again q h)]
theorem from_some {l : List UInt8} {q : QryL} (h : fromP l = some q) : keyL q = l ∧ l ≠ [] := by
  unfold fromP at h
  cases hr : readP l with
  | none => rw [hr] at h; cases h
  | some r =>
    rw [hr] at h
    simp only at h
    by_cases hk : keyL r = l
    · rw [if_pos hk] at h
      cases h
      refine ⟨hk, fun e => ?_⟩
      rw [e] at hr
      have hc : readP [] = none := rfl
      rw [hc] at hr
      cases hr
    · rw [if_neg hk] at h
      cases h
theorem key_one (a b : QryL) (ha : (checkP a).2 = 0) (hb : (checkP b).2 = 0) : keyL a = keyL b ↔ (checkP a).1 = (checkP b).1 := by
  constructor
  · intro h
    have h1 := read_key a ha
    rw [h, read_key b hb] at h1
    exact (Option.some.inj h1).symm
  · intro h
    unfold keyL
    rw [if_pos ha, if_pos hb, h]
end Go.Proofs.YtaoapkbfcofamaaDoor

namespace Go.Proofs.YtaoapkbfcofamaaDoor
open Go.RowKit Go.Lib Go.Tx Go.Rb
def lowerN (c : UInt8) : UInt8 := c ||| 32
theorem bits_all : ∀ i : Fin 256, bits .or .u8 (i.1 : Int) 32 = ((lowerN (UInt8.ofNat i.1)).toNat : Int) := by decide +kernel
theorem low_all : ∀ i : Fin 256, (65 ≤ i.1 ∧ i.1 ≤ 90 → (lowerN (UInt8.ofNat i.1)).toNat = i.1 + 32) ∧ (97 ≤ i.1 ∧ i.1 ≤ 122 → (lowerN (UInt8.ofNat i.1)).toNat = i.1) ∧ (¬ (65 ≤ i.1 ∧ i.1 ≤ 90) → ¬ (97 ≤ i.1 ∧ i.1 ≤ 122) → (lowerN (UInt8.ofNat i.1)).toNat < 97 ∨ 122 < (lowerN (UInt8.ofNat i.1)).toNat) := by decide +kernel
theorem low_cls (c : UInt8) : (65 ≤ c.toNat ∧ c.toNat ≤ 90 → (lowerN c).toNat = c.toNat + 32) ∧ (97 ≤ c.toNat ∧ c.toNat ≤ 122 → (lowerN c).toNat = c.toNat) ∧ (¬ (65 ≤ c.toNat ∧ c.toNat ≤ 90) → ¬ (97 ≤ c.toNat ∧ c.toNat ≤ 122) → (lowerN c).toNat < 97 ∨ 122 < (lowerN c).toNat) := by
  have := low_all ⟨c.toNat, c.toNat_lt⟩
  simpa using this
/-- What a text of digits says, or that it says nothing. -/
def hex16 (l : List UInt8) : Bool := decide (l ≠ []) && hexOk l && decide (hexA l ≤ 65535)
theorem hexA_from (l : List UInt8) : ∀ a, (∀ c ∈ l, 0 ≤ hexV c) → 0 ≤ a → a ≤ l.foldl (fun n c => 16 * n + hexV c) a := by
  induction l with
  | nil => intro a _ h; exact Int.le_refl _
  | cons c l ih =>
    intro a h h0
    have hc := h c (by simp)
    have := ih (16 * a + hexV c) (fun d hd => h d (by simp [hd])) (by omega)
    simp only [List.foldl_cons]
    omega
theorem hexA_big (l : List UInt8) (k : Nat) (hok : hexOk l = true) (h : 65535 < hexA (l.take k)) : 65535 < hexA l := by
  have e : hexA l = (l.drop k).foldl (fun n c => 16 * n + hexV c) (hexA (l.take k)) := by
    unfold hexA
    rw [← List.foldl_append, List.take_append_drop]
  unfold hexOk at hok
  rw [List.all_eq_true] at hok
  have := hexA_from (l.drop k) (hexA (l.take k)) (fun c hc => by simpa using hok c (List.mem_of_mem_drop hc)) (by omega)
  omega
theorem hex16_bad {l : List UInt8} {k : Nat} {c : UInt8} (h : l[k]? = some c) (hc : hexV c < 0) : hex16 l = false := by
  unfold hex16
  have : hexOk l = false := by
    unfold hexOk
    rw [List.all_eq_false]
    exact ⟨c, List.mem_of_getElem? h, by simp; omega⟩
  rw [this]; simp
theorem hex16_big {l : List UInt8} {k : Nat} (h : 65535 < hexA (l.take k)) : hex16 l = false := by
  unfold hex16
  cases hok : hexOk l with
  | false => simp
  | true =>
    have := hexA_big l k hok h
    have e : decide (hexA l ≤ 65535) = false := decide_eq_false (by omega)
    rw [e]; simp
theorem hexA_step (l : List UInt8) (k : Nat) (c : UInt8) (h : l[k]? = some c) : hexA (l.take (k + 1)) = 16 * hexA (l.take k) + hexV c := by
  rw [List.take_add_one, h]
  exact hexA_snoc _ _
end Go.Proofs.YtaoapkbfcofamaaDoor

namespace Go.Tx
open Go.Lib
/-! ### A decimal number of eight bits -/
theorem valF_ge : ∀ (l : List UInt8) (n : Nat), n * 10 ^ l.length ≤ valF n l
  | [], n => by simp [valF]
  | c :: l, n => by
    have h := valF_ge l (10 * n + (c.toNat - 48))
    have e : valF n (c :: l) = valF (10 * n + (c.toNat - 48)) l := rfl
    rw [e, List.length_cons, Nat.pow_succ, Nat.mul_comm (10 ^ l.length) 10, ← Nat.mul_assoc]
    exact Nat.le_trans (Nat.mul_le_mul_right _ (by omega)) h
theorem valF_le (l : List UInt8) (n : Nat) : n ≤ valF n l :=
  Nat.le_trans (Nat.le_mul_of_pos_right n (Nat.pow_pos (by omega))) (valF_ge l n)
theorem pum_cases : ∀ (l : List UInt8) (acc : Nat), acc ≤ 255 →
    (parseUintM 255 acc l = .ok (valF acc l) ∧ l.all dig = true ∧ valF acc l ≤ 255) ∨ ((∀ u, parseUintM 255 acc l ≠ .ok u) ∧ (l.all dig = false ∨ 255 < valF acc l))
  | [], acc, h => .inl ⟨rfl, rfl, h⟩
  | c :: l, acc, h => by
    unfold parseUintM
    by_cases hc : 48 ≤ c.toNat ∧ c.toNat ≤ 57
    · have hd : dig c = true := dig_of c (by omega) (by omega)
      rw [if_pos hc, if_neg (by omega)]
      have e : valF acc (c :: l) = valF (acc * 10 + (c.toNat - 48)) l := by rw [Nat.mul_comm]; rfl
      by_cases hm : 255 < acc * 10 + (c.toNat - 48)
      · rw [if_pos hm]
        refine .inr ⟨fun u h => by (cases h), .inr ?_⟩
        have := valF_le l (acc * 10 + (c.toNat - 48))
        rw [e]; omega
      · rw [if_neg hm, e]
        rcases pum_cases l (acc * 10 + (c.toNat - 48)) (by omega) with ⟨h1, h2, h3⟩ | ⟨h1, h2⟩
        · exact .inl ⟨h1, by rw [List.all_cons, hd, h2]; rfl, h3⟩
        · refine .inr ⟨h1, ?_⟩
          rcases h2 with h2 | h2
          · exact .inl (by rw [List.all_cons, h2, Bool.and_false])
          · exact .inr h2
    · rw [if_neg hc]
      refine .inr ⟨fun u h => by (cases h), .inl ?_⟩
      have : dig c = false := by
        by_cases h1 : (c.toNat : Int) < 48
        · exact dig_lo c h1
        · exact dig_hi c (by omega)
      rw [List.all_cons, this]; rfl
/-- strconv.ParseUint at base 10, 8 bits: the number, or none. -/
def short8 (l : List UInt8) : Option Nat := match parseUintB 8 l with
  | .ok u => some u
  | _ => none
theorem short8_some {l : List UInt8} {u : Nat} (h : short8 l = some u) : l ≠ [] ∧ l.all dig = true ∧ u = val l ∧ u ≤ 255 := by
  unfold short8 parseUintB at h
  by_cases hn : l = []
  · rw [if_pos hn] at h; cases h
  · rw [if_neg hn] at h
    rcases pum_cases l 0 (by omega) with ⟨h1, h2, h3⟩ | ⟨h1, h2⟩
    · rw [show (2 ^ 8 - 1 : Nat) = 255 from rfl, h1] at h
      cases h
      exact ⟨hn, h2, rfl, h3⟩
    · rw [show (2 ^ 8 - 1 : Nat) = 255 from rfl] at h
      cases hp : parseUintM 255 0 l
      case ok u => exact absurd hp (h1 u)
      all_goals (rw [hp] at h; cases h)
theorem short8_none {l : List UInt8} (h : short8 l = none) : okN l = false := by
  cases ho : okN l with
  | false => rfl
  | true =>
    have hd := okN_dig ho
    unfold okN numRes at ho
    split at ho
    · cases ho
    · split at ho
      · cases ho
      · rename_i hb hm
        have hn : l ≠ [] := by rintro rfl; exact hb rfl
        unfold short8 parseUintB at h
        rw [if_neg hn, show (2 ^ 8 - 1 : Nat) = 255 from rfl] at h
        rcases pum_cases l 0 (by omega) with ⟨h1, h2, h3⟩ | ⟨h1, h2⟩
        · rw [h1] at h; cases h
        · rcases h2 with h2 | h2
          · rw [hd] at h2; cases h2
          · have : (val l : Int) = ((valF 0 l : Nat) : Int) := rfl
            omega
theorem short8_ok {l : List UInt8} {u : Nat} (h : short8 l = some u) (hz : ¬ (l.head? = some 48 ∧ 1 < l.length)) : okN l = true ∧ ((byN l).toNat : Int) = u ∧ u ≤ 255 := by
  obtain ⟨hn, hd, hu, hb⟩ := short8_some h
  have h9 : l.length ≤ 9 := by
    cases l with
    | nil => exact absurd rfl hn
    | cons c r =>
      by_cases hr : r = []
      · subst hr; simp
      · have hrl : 1 ≤ r.length := List.length_pos_iff.2 hr
        have hc : dig c = true := by rw [List.all_cons, Bool.and_eq_true] at hd; exact hd.1
        have hc48 : c ≠ 48 := fun e => hz ⟨by rw [e]; rfl, by simp; omega⟩
        have hc2 : 49 ≤ c.toNat := by
          simp only [dig, Bool.and_eq_true, decide_eq_true_eq] at hc
          have : c.toNat ≠ 48 := fun e => hc48 (UInt8.toNat_inj.1 e)
          omega
        have hv := valF_ge r (10 * 0 + (c.toNat - 48))
        have e : val (c :: r) = valF (10 * 0 + (c.toNat - 48)) r := rfl
        rw [← e, ← hu] at hv
        by_cases h3 : r.length ≤ 8
        · simp; omega
        · have h10 : 10 ^ 3 ≤ 10 ^ r.length := Nat.pow_le_pow_right (by omega) (by omega)
          have : 1 * 10 ^ r.length ≤ (10 * 0 + (c.toNat - 48)) * 10 ^ r.length := Nat.mul_le_mul_right _ (by omega)
          omega
  have hl : 1 ≤ l.length := List.length_pos_iff.2 hn
  have hres := numRes_ok l 255 hl h9 hz hd
  rw [if_neg (by omega)] at hres
  have ho : okN l = true := by unfold okN; rw [hres]
  refine ⟨ho, ?_, hb⟩
  rw [byN_int l ho, hres, hu]
theorem okN_zero {l : List UInt8} (h1 : l.head? = some 48) (h2 : 1 < l.length) : okN l = false := by
  unfold okN; rw [numRes_zero l 255 h2 h1]
/-! ### Groups once more: one more piece -/
open Go.Proofs.YtaoapkbfcofamaaDoor
theorem hexG_16 {l : List UInt8} (h : hex16 l = true) (h4 : l.length ≤ 4) : hexG l = some [UInt8.ofNat ((hexA l).toNat / 256), UInt8.ofNat ((hexA l).toNat % 256)] := by
  unfold hex16 at h
  simp only [Bool.and_eq_true, decide_eq_true_eq] at h
  have : 1 ≤ l.length := List.length_pos_iff.2 h.1.1
  exact hexG_ok (by omega) h.1.2
theorem hexG_no16 {l : List UInt8} (h : hex16 l = false) : hexG l = none := by
  unfold hexG
  split
  · rfl
  · rename_i h2
    split
    · rename_i h3
      have hb := hexA_bd4 l (by omega) h3
      have hn : l ≠ [] := by rintro rfl; simp at h2
      unfold hex16 at h
      rw [h3, decide_eq_true hn, decide_eq_true hb.2] at h
      cases h
    · rfl
theorem hexG_long {l : List UInt8} (h : 4 < l.length) : hexG l = none := hexG_len (.inr h)
theorem hexAll_step {P : List (List UInt8)} {k : Nat} {l a x : List UInt8} (hl : P[k]? = some l) (h : hexAll (P.take k) = some a) (hx : hexG l = some x) : hexAll (P.take (k + 1)) = some (a ++ x) := by
  have hk := (List.getElem?_eq_some_iff.1 hl).1
  have e : P[k] = l := by rw [List.getElem?_eq_getElem hk] at hl; exact Option.some.inj hl
  rw [List.take_succ_eq_append_getElem hk, e, hexAll_snoc, h, hx]
end Go.Tx


namespace Go.Proofs.YtaoapkbfcofamaaDoor
open Go.RowKit Go.Lib Go.Tx Go.Rb
/-- The library's two errors are what errors are. -/
def ErrAt (g : Nat) (w : World) : Prop := ∃ ev, w.cell? ⟨g, 0, none⟩ = some ev ∧ (ev = .nilIface ∨ ∃ te pe, ev = .iface te pe)
theorem ErrAt.below {g : Nat} {w w' : World} (h : ErrAt g w) (hb : Below w.heap.size w w') : ErrAt g w' := by
  obtain ⟨ev, h1, h2⟩ := h
  refine ⟨ev, ?_, h2⟩
  have hlt : g < w.heap.size := by
    unfold World.cell? at h1
    split at h1
    · rename_i hh
      exact (Array.getElem?_eq_some_iff.1 hh).1
    · cases h1
  rw [hb.cell (p := ⟨g, 0, none⟩) hlt]
  exact h1
end Go.Proofs.YtaoapkbfcofamaaDoor

namespace Go.Proofs.YtaoapkbfcofamaaDoor
open Go.RowKit Go.Lib Go.Tx Go.Rb
/-- An array that is being filled: its first k cells hold what f says. -/
structure Arr (w : World) (b n k : Nat) (f : Nat → Value) : Prop where
  lt : b < w.heap.size
  free : ∀ j, j < n → w.frozen? ⟨b, j, none⟩ = false
  held : ∀ j, j < n → ∃ v, w.cell? ⟨b, j, none⟩ = some v
  told : ∀ j, j < k → w.cell? ⟨b, j, none⟩ = some (f j)
theorem Arr.below {w w' : World} {b n k : Nat} {f : Nat → Value} (h : Arr w b n k f) (hb : Below w.heap.size w w') : Arr w' b n k f :=
  ⟨Nat.lt_of_lt_of_le h.lt hb.size, fun j hj => by rw [World.frozen?_of_block (w := w) (hb.block b h.lt)]; exact h.free j hj, fun j hj => by rw [hb.cell (p := ⟨b, j, none⟩) h.lt]; exact h.held j hj,
    fun j hj => by rw [hb.cell (p := ⟨b, j, none⟩) h.lt]; exact h.told j hj⟩
theorem Arr.new (w : World) (arr : Array Value) (e : TypeId) (n : Nat) (h : arr.size = n) (f : Nat → Value) : Arr (w.alloc (.cells arr e)) w.heap.size n 0 f :=
  ⟨by show w.heap.size < (w.heap.push _).size; simp, fun j hj => World.frozen?_alloc_at arr e _ j rfl, fun j hj => by rw [World.cell?_alloc_new]; exact ⟨arr[j], by simp [h, hj]⟩, fun j hj => by omega⟩
theorem Arr.step {w : World} {b n k : Nat} {f : Nat → Value} {v : Value} (h : Arr w b n k f) (hk : k < n) (hv : f k = v) : Arr (w.setCell ⟨b, k, none⟩ v) b n (k + 1) f := by
  subst hv
  have hne : ∀ j, j ≠ k → (⟨b, k, none⟩ : Addr) ≠ ⟨b, j, none⟩ := fun j hj e => by cases e; exact hj rfl
  obtain ⟨u, hu⟩ := h.held k hk
  refine ⟨by simpa using h.lt, fun j hj => by simpa using h.free j hj, fun j hj => ?_, fun j hj => ?_⟩
  · by_cases e : j = k
    · subst e; exact ⟨_, World.cell?_setCell_same w _ _ hu⟩
    · rw [World.cell?_setCell_other w _ _ _ (hne j e)]; exact h.held j hj
  · by_cases e : j = k
    · subst e
      exact World.cell?_setCell_same w _ _ hu
    · rw [World.cell?_setCell_other w _ _ _ (hne j e)]; exact h.told j (by omega)
def SplitN (w : World) (P : List (List UInt8)) (e : Ending) (w' : World) : Prop :=
  ∃ cap, e = .returned (.slice (some ⟨w.heap.size, 0, none⟩) P.length cap) ∧ P.length ≤ cap ∧ cap ≤ 9223372036854775807 ∧ w.heap.size < w'.heap.size ∧
    (∀ (i : Nat) l, P[i]? = some l → w'.cell? ⟨w.heap.size, i, none⟩ = some (.string ⟨l.toArray⟩)) ∧ Below w.heap.size w w'
theorem fourP_all {P : List (List UInt8)} (h4 : P.length = 4) (h : (P.take 4).all okN = true) : fourP P = some (P.map byN) := by
  rw [List.take_of_length_le (by omega)] at h
  unfold fourP
  rw [if_pos ⟨h4, h⟩]
/-- What the cells of the array say. -/
def byV (P : List (List UInt8)) (j : Nat) : Value := .int .u8 ((byN (P.getD j [])).toNat : Int)
end Go.Proofs.YtaoapkbfcofamaaDoor

namespace Go.Proofs.YtaoapkbfcofamaaDoor
open Go.RowKit Go.Lib Go.Tx Go.Rb Go.Ev
theorem four_or (r : Option (List UInt8)) : (∃ f, r = some f) ∨ r = none := by cases r with
  | none => exact .inr rfl
  | some f => exact .inl ⟨f, rfl⟩
theorem hex16_bd {l : List UInt8} (h : hex16 l = true) : ∃ m : Nat, hexA l = m ∧ m ≤ 65535 := by
  unfold hex16 at h
  simp only [Bool.and_eq_true, decide_eq_true_eq] at h
  have h0 : 0 ≤ hexA l := hexA_from l 0 (fun c hc => by
    have := h.1.2
    unfold hexOk at this
    rw [List.all_eq_true] at this
    simpa using this c hc) (by omega)
  exact ⟨(hexA l).toNat, by omega, by omega⟩
theorem join_str (a f : List UInt8) : (⟨a.toArray⟩ : ByteArray) ++ ⟨f.toArray⟩ = ⟨(a ++ f).toArray⟩ := by
  apply ByteArray.ext
  apply Array.ext'
  simp
end Go.Proofs.YtaoapkbfcofamaaDoor

namespace Go.Proofs.YtaoapkbfcofamaaDoor
open Go.RowKit Go.Lib Go.Tx Go.Rb Go.Ev
theorem below_drewN (w : World) : ∀ n, Below w.heap.size w (w.drewN n)
  | 0 => Below.refl _ _
  | n + 1 => (below_drewN w n).drew
theorem idx_mem (l : List UInt8) (c : UInt8) : decide (0 ≤ Lib.indexByte l c) = decide (c ∈ l) := by
  have h := Lib.indexByte_ge l c
  by_cases h1 : Lib.indexByte l c = -1
  · have := Lib.indexByte_none h1
    have hn : ¬ c ∈ l := fun hm => by
      obtain ⟨k, hk, e⟩ := List.getElem_of_mem hm
      exact this k (by rw [List.getElem?_eq_getElem hk, e])
    rw [h1]; simp [hn]
  · obtain ⟨o, ho⟩ : ∃ o : Nat, Lib.indexByte l c = o := ⟨(Lib.indexByte l c).toNat, by omega⟩
    have := (Lib.indexByte_some ho).1
    have hm := List.mem_of_getElem? this
    rw [ho]; simp [hm]
theorem cut_len (l sep : List UInt8) : (Lib.cut l sep).1.length ≤ l.length ∧ (Lib.cut l sep).2.1.length ≤ l.length := by
  unfold Lib.cut
  split
  · simp; omega
  · simp
theorem pgP_len {s a : List UInt8} (h : pgP s = some a) : a.length ≤ 22 := by
  unfold pgP at h
  have hl := cutN_len 58 9 s (by omega)
  split at h
  · cases h; simp
  · split at h
    · rename_i f hf
      have := fourP_len hf
      cases hx : hexAll (cutN 58 9 s).dropLast with
      | none => rw [hx] at h; cases h
      | some x =>
        rw [hx] at h
        cases h
        have h2 := hexAll_len hx
        rw [List.length_dropLast] at h2
        simp
        omega
    · have := hexAll_len h
      omega
end Go.Proofs.YtaoapkbfcofamaaDoor

namespace Go.Tx
open Go.Lib
/-! ### Hexadecimal digits -/
def hd (n : Nat) : UInt8 := if n < 10 then UInt8.ofNat (48 + n) else UInt8.ofNat (87 + n)
def hexT (n : Nat) : List UInt8 := if h : n < 16 then [hd n] else hexT (n / 16) ++ [hd (n % 16)]
termination_by n
decreasing_by omega
theorem hexT_lt {n : Nat} (h : n < 16) : hexT n = [hd n] := by rw [hexT, dif_pos h]
theorem hexT_ge {n : Nat} (h : ¬ n < 16) : hexT n = hexT (n / 16) ++ [hd (n % 16)] := by rw [hexT, dif_neg h]
theorem hexT_len : ∀ (n : Nat), n < 65536 → 1 ≤ (hexT n).length ∧ (hexT n).length ≤ 4 := by
  intro n hn
  by_cases h1 : n < 16
  · rw [hexT_lt h1]; simp
  · rw [hexT_ge h1]
    by_cases h2 : n / 16 < 16
    · rw [hexT_lt h2]; simp
    · rw [hexT_ge h2]
      by_cases h3 : n / 16 / 16 < 16
      · rw [hexT_lt h3]; simp
      · rw [hexT_ge h3, hexT_lt (by omega)]; simp
def hexF (k : Nat) (s : List UInt8) : List UInt8 :=
  if h : k = 0 then (if s = [] then [48] else s) else hexF (k / 16) (hd (k % 16) :: s)
termination_by k
decreasing_by omega
theorem hexF_zero (s : List UInt8) (h : ¬ s = []) : hexF 0 s = s := by unfold hexF; simp [h]
theorem hexF_pos {k : Nat} (s : List UInt8) (h : 0 < k) : hexF k s = hexF (k / 16) (hd (k % 16) :: s) := by
  rw [hexF, dif_neg (by omega)]
theorem hexF_nil : hexF 0 [] = hexF (0 / 16) (hd (0 % 16) :: []) := by
  show hexF 0 [] = hexF 0 [48]
  rw [hexF_zero [48] (by simp)]
  unfold hexF; simp
theorem hexF_T : ∀ (n : Nat) (s : List UInt8), 0 < n → hexF n s = hexT n ++ s := by
  intro n
  induction n using Nat.strongRecOn with
  | _ n ih =>
    intro s h
    rw [hexF_pos s h]
    by_cases h1 : n < 16
    · rw [hexT_lt h1, Nat.div_eq_of_lt h1, hexF_zero _ (by simp), Nat.mod_eq_of_lt h1]; rfl
    · rw [hexT_ge h1, ih (n / 16) (by omega) _ (by omega)]
      simp
theorem hexF_all (n : Nat) : hexF n [] = hexT n := by
  by_cases h : n = 0
  · subst h
    rw [hexT_lt (by omega)]
    unfold hexF
    simp [hd]
  · rw [hexF_T n [] (by omega), List.append_nil]
theorem hexT_zero (n : Nat) : hexT n = [48] ↔ n = 0 := by
  constructor
  · intro h
    by_cases h1 : n < 16
    · rw [hexT_lt h1] at h
      have : ∀ i : Fin 16, [hd i.1] = [48] → i.1 = 0 := by decide
      exact this ⟨n, h1⟩ h
    · rw [hexT_ge h1] at h
      have h2 : 1 ≤ (hexT (n / 16)).length := by
        rw [hexT]
        split <;> simp
      have := congrArg List.length h
      rw [List.length_append, List.length_singleton, List.length_singleton] at this
      omega
  · rintro rfl; rw [hexT_lt (by omega)]; rfl
/-! ### Decimal digits -/
theorem dec_pos : ∀ (n : Nat) (s : List UInt8), 0 < n → decG n s = Lib.decDigits n ++ s := by
  intro n
  induction n using Nat.strongRecOn with
  | _ n ih =>
    intro s h
    rw [decG_pos s h]
    by_cases h1 : n < 10
    · rw [Nat.div_eq_of_lt h1, decG_zero _ (by simp), Nat.mod_eq_of_lt h1, Lib.decDigits, dif_pos h1]; rfl
    · rw [ih (n / 10) (by omega) _ (by omega)]
      rw [Lib.decDigits.eq_def n, dif_neg h1]
      simp
theorem dec_all (n : Nat) : decG n [] = Lib.decDigits n := by
  by_cases h : n = 0
  · subst h
    rw [Lib.decDigits, dif_pos (by omega)]
    unfold decG
    simp
  · rw [dec_pos n [] (by omega), List.append_nil]
/-! ### The longest run -/
/-- How many are true from i on. -/
def runL (z : List Bool) (i : Nat) : Nat := ((z.drop i).takeWhile id).length
def best (z : List Bool) : Nat → Option (Nat × Nat)
  | 0 => none
  | k + 1 => match best z k with
    | none => if 1 < runL z k then some (k, runL z k) else none
    | some (i, m) => if m < runL z k then some (k, runL z k) else some (i, m)
theorem runL_le (z : List Bool) (i : Nat) : runL z i ≤ z.length - i := by
  unfold runL
  have := (List.takeWhile_prefix id (l := z.drop i)).length_le
  rw [List.length_drop] at this
  exact this
theorem best_ok (z : List Bool) : ∀ k i m, best z k = some (i, m) → 2 ≤ m ∧ i < k ∧ i + m ≤ z.length
  | 0, i, m, h => by cases h
  | k + 1, i, m, h => by
    have hr := runL_le z k
    unfold best at h
    split at h
    · split at h
      · cases h; omega
      · cases h
    · rename_i i' m' hb
      have := best_ok z k i' m' hb
      split at h
      · cases h; omega
      · cases h; omega
theorem cnt_eq : ∀ (n : Nat) (t : List Bool), (∀ j, j < n → t[j]? = some true) → t[n]? ≠ some true → (t.takeWhile id).length = n
  | 0, [], _, _ => rfl
  | 0, b :: t, _, h => by
    cases b with
    | false => rfl
    | true => simp at h
  | n + 1, [], h, _ => by have := h 0 (by omega); simp at this
  | n + 1, b :: t, h, h2 => by
    have h0 := h 0 (by omega)
    simp at h0
    subst h0
    have := cnt_eq n t (fun j hj => by have := h (j + 1) (by omega); simpa using this) (by simpa using h2)
    simp [List.takeWhile, this]
theorem runL_eq {z : List Bool} {i n : Nat} (h : ∀ j, j < n → z[i + j]? = some true) (h2 : z[i + n]? ≠ some true) : runL z i = n :=
  cnt_eq n (z.drop i) (fun j hj => by rw [List.getElem?_drop]; exact h j hj) (by rw [List.getElem?_drop]; exact h2)
theorem best_none {z : List Bool} {k : Nat} (h : best z k = none) : best z (k + 1) = if 1 < runL z k then some (k, runL z k) else none := by simp only [best, h]
theorem best_some {z : List Bool} {k i m : Nat} (h : best z k = some (i, m)) : best z (k + 1) = if m < runL z k then some (k, runL z k) else some (i, m) := by simp only [best, h]
/-! ### An address of sixteen bytes, printed -/
/-- The i-th group's number. -/
def grp (l : List UInt8) (i : Nat) : Nat := (l.getD (2 * i) 0).toNat * 256 + (l.getD (2 * i + 1) 0).toNat
def grpT (l : List UInt8) : List (List UInt8) := (List.range 8).map fun i => hexT (grp l i)
def grpZ (l : List UInt8) : List Bool := (List.range 8).map fun i => decide (grp l i = 0)
theorem grpZ_at (l : List UInt8) (i : Nat) (h : i < 8) : (grpZ l)[i]? = some (decide (grp l i = 0)) := by
  unfold grpZ; rw [List.getElem?_map, List.getElem?_range h]; rfl
theorem grpT_at (l : List UInt8) (i : Nat) (h : i < 8) : (grpT l)[i]? = some (hexT (grp l i)) := by
  unfold grpT; rw [List.getElem?_map, List.getElem?_range h]; rfl
theorem grpT_len (l : List UInt8) : (grpT l).length = 8 := by simp [grpT]
theorem grpZ_len (l : List UInt8) : (grpZ l).length = 8 := by simp [grpZ]
theorem grp_lt (l : List UInt8) (i : Nat) : grp l i < 65536 := by
  unfold grp
  have := (l.getD (2 * i) 0).toNat_lt
  have := (l.getD (2 * i + 1) 0).toNat_lt
  omega
def print16 (l : List UInt8) : List UInt8 := match best (grpZ l) 8 with
  | none => Lib.join (grpT l) [58]
  | some (i, m) => Lib.join ((grpT l).take i) [58] ++ [58, 58] ++ Lib.join ((grpT l).drop (i + m)) [58]
def printP (l : List UInt8) : List UInt8 := if l.length = 4 then Lib.join (l.map fun c => Lib.decDigits c.toNat) [46] else if l.length = 16 then print16 l else []
theorem joinT_app (sep : List UInt8) : ∀ (a b : List (List UInt8)), Lib.joinTail sep (a ++ b) = Lib.joinTail sep a ++ Lib.joinTail sep b
  | [], b => rfl
  | x :: a, b => by
    have h1 : Lib.joinTail sep (x :: (a ++ b)) = sep ++ x ++ Lib.joinTail sep (a ++ b) := by simp [Lib.joinTail]
    have h2 : Lib.joinTail sep (x :: a) = sep ++ x ++ Lib.joinTail sep a := by simp [Lib.joinTail]
    rw [List.cons_append, h1, h2, joinT_app sep a b]
    simp only [List.append_assoc]
theorem join_snoc (sep : List UInt8) (l : List (List UInt8)) (x : List UInt8) (h : l ≠ []) : Lib.join (l ++ [x]) sep = Lib.join l sep ++ (sep ++ x) := by
  cases l with
  | nil => exact absurd rfl h
  | cons y r =>
    rw [List.cons_append, Lib.join_cons, Lib.join_cons, joinT_app]
    simp [Lib.joinTail]
theorem join_one (sep x : List UInt8) : Lib.join [x] sep = x := by rw [Lib.join_cons]; simp [Lib.joinTail]
theorem join_nil (sep : List UInt8) : Lib.join [] sep = [] := rfl
theorem join_step (l : List (List UInt8)) (k : Nat) (x : List UInt8) (h : l[k]? = some x) : Lib.join (l.take (k + 1)) [58] = Lib.join (l.take k) [58] ++ ((if k = 0 then [] else [58]) ++ x) := by
  have hk := (List.getElem?_eq_some_iff.1 h).1
  have e : l[k] = x := by rw [List.getElem?_eq_getElem hk] at h; exact Option.some.inj h
  rw [List.take_succ_eq_append_getElem hk, e]
  by_cases h0 : k = 0
  · subst h0; simp [join_one, join_nil]
  · rw [if_neg h0, join_snoc]
    intro h1
    have := congrArg List.length h1
    rw [List.length_take, List.length_nil] at this
    omega
theorem joinT_len (sep : List UInt8) (hsep : sep.length ≤ 1) (n : Nat) : ∀ (l : List (List UInt8)), (∀ x ∈ l, x.length ≤ n) → (Lib.joinTail sep l).length ≤ (n + 1) * l.length
  | [], _ => by simp [Lib.joinTail]
  | y :: r, h => by
    have h1 := joinT_len sep hsep n r fun x hx => h x (by simp [hx])
    have h2 := h y (by simp)
    have e : Lib.joinTail sep (y :: r) = sep ++ y ++ Lib.joinTail sep r := by simp [Lib.joinTail]
    rw [e]
    simp only [List.length_append, List.length_cons, Nat.mul_add, Nat.mul_one]
    omega
theorem join_len (sep : List UInt8) (hsep : sep.length ≤ 1) (n : Nat) (l : List (List UInt8)) (h : ∀ x ∈ l, x.length ≤ n) : (Lib.join l sep).length ≤ (n + 1) * l.length := by
  cases l with
  | nil => simp [join_nil]
  | cons y r =>
    have h1 := joinT_len sep hsep n r fun x hx => h x (by simp [hx])
    have h2 := h y (by simp)
    rw [Lib.join_cons]
    simp only [List.length_append, List.length_cons, Nat.mul_add, Nat.mul_one]
    omega
theorem grpT_few (l : List UInt8) : ∀ x ∈ grpT l, x.length ≤ 4 := fun x hx => by
  obtain ⟨i, _, rfl⟩ := List.mem_map.1 hx
  exact (hexT_len _ (grp_lt l i)).2
end Go.Tx

namespace Go.Proofs.YtaoapkbfcofamaaDoor
open Go.RowKit Go.Lib Go.Tx Go.Rb
/-- Of the library's table of trailing zeros: sixteen has four. -/
def Tz (w : World) : Prop := w.cell? ⟨3, 15, none⟩ = some (.int .u8 4) ∧ 3 < w.heap.size
theorem Tz.below {w w' : World} (h : Tz w) (hb : Below w.heap.size w w') : Tz w' :=
  ⟨by rw [hb.cell (p := ⟨3, 15, none⟩) h.2]; exact h.1, Nat.lt_of_lt_of_le h.2 hb.size⟩
theorem ispow16 (w : World) : Calls Tryd.prog 76 #[.int .i64 16] w fun e w' => e = .returned (.bool true) ∧ w = w' := by
  have hb : bits .and .i64 16 15 = 0 := by decide +kernel
  go_enter Tryd.func76, Tryd.ntmps76
  go_wp2
  go_ret
  exact ⟨rfl, rfl⟩
theorem tz64 (w : World) (h : Tz w) : Calls Tryd.prog 83 #[.int .u64 16] w fun e w' => e = .returned (.int .i64 4) ∧ w = w' := by
  have hc := h.1
  have hn : IntKind.u64.wrap (bits BinOp.and IntKind.u64 16 (IntKind.u64.wrap (-16)) * 285870213051353865) / 288230376151711744 = 15 := by decide +kernel
  go_enter Tryd.func83, Tryd.ntmps83
  go_wp2
  go_ret
  exact ⟨rfl, rfl⟩
theorem tz16 (w : World) (h : Tz w) : Calls Tryd.prog 77 #[.int .u64 16] w fun e w' => e = .returned (.int .i64 4) ∧ w = w' := by
  have HT := Lib.hid (tz64 w h)
  go_enter Tryd.func77, Tryd.ntmps77
  go_wp2_with (go_at_call 83; refine HT.out.mono ?_; rintro e w' ⟨rfl, rfl⟩)
  go_ret
  exact ⟨rfl, rfl⟩
/-- The bytes that stand in a block from a place on. -/
def RowAt (w : World) (b o : Nat) (S : List UInt8) : Prop := ∀ (j : Nat) c, S[j]? = some c → w.cell? ⟨b, o + j, none⟩ = some (.int .u8 (c.toNat : Int))
theorem RowAt.push {w : World} {b o : Nat} {S : List UInt8} {c : UInt8} {v : Value} (h : RowAt w b (o + 1) S) (hc : ∃ u, w.cell? ⟨b, o, none⟩ = some u) (hv : v = .int .u8 (c.toNat : Int)) : RowAt (w.setCell ⟨b, o, none⟩ v) b o (c :: S) := by
  obtain ⟨u, hu⟩ := hc
  intro j d hj
  cases j with
  | zero =>
    simp at hj; subst hj
    rw [hv]
    exact World.cell?_setCell_same w _ _ hu
  | succ j =>
    simp only [List.getElem?_cons_succ] at hj
    have hne : (⟨b, o, none⟩ : Addr) ≠ ⟨b, o + (j + 1), none⟩ := fun e => by
      have := (Addr.mk.injEq .. ▸ e : _ ∧ _ ∧ _).2.1
      omega
    rw [World.cell?_setCell_other w _ _ _ hne]
    have := h j d hj
    rw [show o + (j + 1) = o + 1 + j by omega]
    exact this
/-- An array of bytes, whatever it holds. -/
structure Room (w : World) (b n : Nat) : Prop where
  lt : b < w.heap.size
  free : ∀ j, j < n → w.frozen? ⟨b, j, none⟩ = false
  held : ∀ j, j < n → ∃ v, w.cell? ⟨b, j, none⟩ = some v
theorem Room.new (w : World) (arr : Array Value) (e : TypeId) (n : Nat) (h : arr.size = n) : Room (w.alloc (.cells arr e)) w.heap.size n :=
  ⟨by show w.heap.size < (w.heap.push _).size; simp, fun j hj => World.frozen?_alloc_at arr e _ j rfl, fun j hj => by rw [World.cell?_alloc_new]; exact ⟨arr[j], by simp [h, hj]⟩⟩
theorem Room.step {w : World} {b n k : Nat} {v : Value} (h : Room w b n) (hk : k < n) : Room (w.setCell ⟨b, k, none⟩ v) b n := by
  obtain ⟨u, hu⟩ := h.held k hk
  refine ⟨by simpa using h.lt, fun j hj => by simpa using h.free j hj, fun j hj => ?_⟩
  by_cases e : j = k
  · subst e; exact ⟨_, World.cell?_setCell_same w _ _ hu⟩
  · rw [World.cell?_setCell_other w _ _ _ (fun e2 => by cases e2; exact e rfl)]; exact h.held j hj
theorem and15 (u : Nat) (h : u < 65536) : bits .and .u64 (u : Int) 15 = ((u % 16 : Nat) : Int) := by
  have h1 : bits .and .u64 (u : Int) ((15 : Nat) : Int) = ((u &&& 15 : Nat) : Int) := u64_and_nat u 15 (by omega) (by omega)
  have h2 : u &&& 15 = u % 16 := Nat.and_two_pow_sub_one_eq_mod u 4
  rw [h2] at h1
  exact h1
theorem digit_at (d : Nat) (h : d < 16) (h' : d < ByteArray.size ⟨#[48, 49, 50, 51, 52, 53, 54, 55, 56, 57, 97, 98, 99, 100, 101, 102, 103, 104, 105, 106, 107, 108, 109, 110, 111, 112, 113, 114, 115, 116, 117, 118, 119, 120, 121, 122]⟩) : (⟨#[48, 49, 50, 51, 52, 53, 54, 55, 56, 57, 97, 98, 99, 100, 101, 102, 103, 104, 105, 106, 107, 108, 109, 110, 111, 112, 113, 114, 115, 116, 117, 118, 119, 120, 121, 122]⟩ : ByteArray)[d]'h' = hd d := by
  have hx : ∀ i : Fin 16, ∀ h'', (⟨#[48, 49, 50, 51, 52, 53, 54, 55, 56, 57, 97, 98, 99, 100, 101, 102, 103, 104, 105, 106, 107, 108, 109, 110, 111, 112, 113, 114, 115, 116, 117, 118, 119, 120, 121, 122]⟩ : ByteArray)[i.1]'h'' = hd i.1 := by decide +kernel
  exact hx ⟨d, h⟩ h'
set_option maxHeartbeats 2000000 in
set_option maxRecDepth 100000 in
theorem fbits_any (n : Nat) (w : World) (hn : n < 65536) (hT : Tz w) :
    Calls Tryd.prog 62 #[.slice none 0 0, .int .u64 (n : Int), .int .i64 16, .bool false, .bool false] w fun e w' => e = .returned (.tuple #[.slice none 0 0, .string ⟨(hexT n).toArray⟩]) ∧ Below w.heap.size w w' := by
  have HT := Lib.hid hT
  clear hT
  go_enter Tryd.func62, Tryd.ntmps62
  go_wp2_with (first | (go_at_call 76; refine (ispow16 _).mono ?_; rintro e w' ⟨rfl, rfl⟩) | (go_at_call 77; refine (tz16 _ (HT.out.below ((Below.refl _ _).alloc (Nat.le_refl _) _))).mono ?_; rintro e w' ⟨rfl, rfl⟩))
  go_loopw [1, 13] (fun uv iv wr => ∃ (u t : Nat) (S : List UInt8), ((t = 64 ∧ u < 65536) ∨ (t = 63 ∧ u < 4096) ∨ (t = 62 ∧ u < 256) ∨ (t = 61 ∧ u < 16)) ∧ uv = .int .u64 u ∧ iv = .int .i64 ((t + 1 : Nat) : Int) ∧ Hid (t + S.length = 64 ∧ RowAt wr w.heap.size (t + 1) S ∧ hexT n = hexT u ++ S) ∧ Hid (Room wr w.heap.size 65) ∧ Below w.heap.size w wr) (fun uv _ _ => (RowKit.intOf uv).toNat)
  case atStart => exact ⟨n, 64, [], .inl ⟨rfl, hn⟩, rfl, rfl, Lib.hid ⟨rfl, fun j c h => by simp at h, by simp⟩, Lib.hid (Room.new _ _ _ _ rfl), (Below.refl _ _).alloc (Nat.le_refl _) _⟩
  case round =>
    obtain ⟨u, t, S, hut, rfl, rfl, hS, hR, hb⟩ := hrel
    have hu : u < 65536 := by omega
    have ht : t ≤ 64 := by omega
    have ht2 : 1 ≤ t := by omega
    have hfree := hR.out.free t (by omega)
    obtain ⟨v0, hcell⟩ := hR.out.held t (by omega)
    have HC := Lib.hid hcell
    by_cases h16 : u < 16
    · have hsl : ∀ W : World, (Instr.sliceAt 104 (.pointer (some ⟨w.heap.size, 0, none⟩)) (some (.int .i64 (t : Int))) none none).run Tryd.prog W = .ok (.slice (some ⟨w.heap.size, t, none⟩) (65 - t) (65 - t)) W := fun W => by
        have h65 : Tryd.prog.arrayLen 104 = 65 := by kernel_rfl
        have hel : Tryd.prog.elem 104 = 5 := by kernel_rfl
        have := run_sliceAt_array_l (P := Tryd.prog) W 104 ⟨w.heap.size, 0, none⟩ (by rw [h65, hel]; exact Tryd.underlying104) .i64 (t : Int) (by omega) (by rw [h65]; omega)
        rw [this, h65, hel, Tryd.sizeOf5]
        simp only [Result.andThen_ok, slicedAt, Int.toNat_natCast]
        rw [if_neg (by omega)]
        congr 3
        unfold Addr.add
        split <;> simp_all
      obtain ⟨c, hc⟩ : ∃ c, hd u = c := ⟨_, rfl⟩
      have hdv : (((⟨#[48, 49, 50, 51, 52, 53, 54, 55, 56, 57, 97, 98, 99, 100, 101, 102, 103, 104, 105, 106, 107, 108, 109, 110, 111, 112, 113, 114, 115, 116, 117, 118, 119, 120, 121, 122]⟩ : ByteArray)[u]'(by show u < 36; omega)).toNat : Int) = (c.toNat : Int) := by rw [digit_at u h16, hc]
      have HX : Hid (hexT n = c :: S) := Lib.hid (by rw [hS.out.2.2, hexT_lt h16, hc]; rfl)
      have hstr : (convert 56 9 (.slice (some ⟨w.heap.size, t, none⟩) (65 - t) (65 - t))).run Tryd.prog (wr.setCell ⟨w.heap.size, t, none⟩ (.int .u8 (c.toNat : Int))) = .ok (.string ⟨(c :: S).toArray⟩) (wr.setCell ⟨w.heap.size, t, none⟩ (.int .u8 (c.toNat : Int))) := by
        have hrow := hS.out.2.1.push (c := c) ⟨v0, HC.out⟩ rfl
        have hlen : (c :: S).length = 65 - t := by have := hS.out.1; simp; omega
        have := run_convert_bytes_back (P := Tryd.prog) (wr.setCell ⟨w.heap.size, t, none⟩ (.int .u8 (c.toNat : Int))) 56 9 5 ⟨w.heap.size, t, none⟩ (65 - t) (c :: S) Tryd.underlying56 Tryd.underlying5 Tryd.underlying9 (fun j hj => by
          have ha : (⟨w.heap.size, t, none⟩ : Addr).add j = ⟨w.heap.size, t + j, none⟩ := by unfold Addr.add; split <;> simp_all
          rw [ha, hrow j _ (List.getElem?_eq_getElem hj)])
        rw [hlen] at this
        exact this
      clear hc
      go_wp2
      go_ret2
      exact ⟨by rw [HX.out]; rfl, hb.setCell (Nat.le_refl _) _⟩
    · obtain ⟨d, hde⟩ : ∃ d, u % 16 = d := ⟨_, rfl⟩
      have hd16 : d < 16 := by omega
      obtain ⟨c, hc⟩ : ∃ c, hd d = c := ⟨_, rfl⟩
      have hdv : (((⟨#[48, 49, 50, 51, 52, 53, 54, 55, 56, 57, 97, 98, 99, 100, 101, 102, 103, 104, 105, 106, 107, 108, 109, 110, 111, 112, 113, 114, 115, 116, 117, 118, 119, 120, 121, 122]⟩ : ByteArray)[d]'(by show d < 36; omega)).toNat : Int) = (c.toNat : Int) := by rw [digit_at d hd16, hc]
      have HX : Hid (hexT u = hexT (u / 16) ++ [c]) := Lib.hid (by rw [hexT_ge h16, hde, hc])
      have hand : bits .and .u64 (u : Int) 15 = (d : Int) := by rw [and15 u hu, hde]
      go_wp2
      go_roundw
      case rel =>
        exact ⟨u / 16, t - 1, c :: S, by omega, by go_num, by go_num, Lib.hid ⟨by have := hS.out.1; simp; omega, by
          have := hS.out.2.1.push (c := c) ⟨v0, HC.out⟩ rfl
          rw [show t - 1 + 1 = t by omega]
          exact this, by rw [hS.out.2.2, HX.out]; simp⟩, Lib.hid (hR.out.step (by omega)), hb.setCell (Nat.le_refl _) _⟩
      case measure => simp [RowKit.intOf]; omega
theorem fuint_in (n : Nat) (w : World) (hn : n < 65536) (hT : Tz w) :
    Calls Tryd.prog 71 #[.int .u64 (n : Int), .int .i64 16] w fun e w' => e = .returned (.string ⟨(hexT n).toArray⟩) ∧ Below w.heap.size w w' := by
  have HF := Lib.hid (fbits_any n w hn hT)
  clear hT
  obtain ⟨R, hR⟩ : ∃ R : ByteArray, (⟨(hexT n).toArray⟩ : ByteArray) = R := ⟨_, rfl⟩
  rw [hR] at HF ⊢
  go_enter Tryd.func71, Tryd.ntmps71
  go_wp2_with (go_at_call 62; refine HF.out.mono ?_; rintro e w' ⟨rfl, hb⟩)
  go_ret
  exact ⟨rfl, hb⟩
theorem fuint_any (n : Nat) (w : World) (hn : n < 65536) (hT : Tz w) :
    Calls Tryd.prog 55 #[.int .u64 (n : Int), .int .i64 16] w fun e w' => e = .returned (.string ⟨(hexT n).toArray⟩) ∧ Below w.heap.size w w' := by
  have HF := Lib.hid (fuint_in n w hn hT)
  clear hT
  obtain ⟨R, hR⟩ : ∃ R : ByteArray, (⟨(hexT n).toArray⟩ : ByteArray) = R := ⟨_, rfl⟩
  rw [hR] at HF ⊢
  go_enter Tryd.func55, Tryd.ntmps55
  go_wp2_with (go_at_call 71; refine HF.out.mono ?_; rintro e w' ⟨rfl, hb⟩)
  go_ret
  exact ⟨rfl, hb⟩
end Go.Proofs.YtaoapkbfcofamaaDoor

namespace Go.Proofs.YtaoapkbfcofamaaDoor
open Go.RowKit Go.Lib Go.Tx Go.Rb
/-- What printing reads of the library's variables. -/
structure PrAt (w : World) : Prop where
  tz : Tz w
  pow : Lib.TabIs Tryd.prog w "internal/strconv.uint64pow10" .u64 Lib.pow10Tab
theorem PrAt.below {w w' : World} (h : PrAt w) (hb : Below w.heap.size w w') : PrAt w' :=
  ⟨h.tz.below hb, Go.Joins.tab_stays (g := 0) (by kernel_rfl) h.pow hb (Nat.le_refl _)⟩
theorem below_grow (w : World) (k : Nat) (os : Array Obj) : Below w.heap.size w (Go.Sort.grow (w.drewN k) os) :=
  ⟨rfl, rfl, rfl, by show w.heap.size ≤ (w.heap ++ os).size; simp, fun i hi => by
    show (w.heap ++ os)[i]? = w.heap[i]?
    exact Array.getElem?_append_left hi⟩
theorem itoa_byte (c : UInt8) (w : World) (h : PrAt w) : Calls Tryd.prog 24 #[.int .i64 (c.toNat : Int)] w fun e w' => e = .returned (.string ⟨(Lib.decDigits c.toNat).toArray⟩) ∧ Below w.heap.size w w' := by
  have hc := c.toNat_lt
  refine (Tryd.strconv_Itoa (c.toNat : Int) (by omega) (by omega) w h.pow).mono ?_
  rintro e w' ⟨rfl, k, os, rfl⟩
  refine ⟨?_, below_grow w k os⟩
  unfold Lib.itoa
  rw [if_neg (by omega), Int.toNat_natCast]
theorem digits_len (c : UInt8) : (Lib.decDigits c.toNat).length ≤ 3 := by
  have h : ∀ i : Fin 256, (Lib.decDigits i.1).length ≤ 3 := by
    intro i
    rw [Lib.decDigits]
    split
    · simp
    · rw [Lib.decDigits]
      split
      · simp
      · rw [Lib.decDigits, dif_pos (by omega)]
        simp
  exact h ⟨c.toNat, c.toNat_lt⟩
/-- strings.Join of an array's texts. -/
theorem join_arr (w : World) (b o c : Nat) (L : List (List UInt8)) (sep : UInt8) (n : Nat) (hL : ∀ x ∈ L, x.length ≤ n) (hn : n ≤ 1000) (hl : L.length ≤ 1000) (hc : L.length ≤ c) (hb : b < w.heap.size)
    (hcells : ∀ (j : Nat) x, L[j]? = some x → w.cell? ⟨b, o + j, none⟩ = some (.string ⟨x.toArray⟩)) :
    Calls Tryd.prog 25 #[.slice (some ⟨b, o, none⟩) L.length c, .string ⟨#[sep]⟩] w fun e w' => e = .returned (.string ⟨(Lib.join L [sep]).toArray⟩) ∧ Below w.heap.size w w' := by
  have hm : (L.map fun l => (⟨l.toArray⟩ : ByteArray)).map (fun x => x.data.toList) = L := by
    rw [List.map_map]
    exact List.map_id' L
  have hj := Tryd.strings_Join b o c (L.map fun l => ⟨l.toArray⟩) ⟨#[sep]⟩ w (fun j x hx => by
    rw [List.getElem?_map] at hx
    obtain ⟨l, hl, rfl⟩ := Option.map_eq_some_iff.1 hx
    exact hcells j l hl) hb (by rw [List.length_map]; omega) (by rw [List.length_map]; exact hc) (by
      rw [hm]
      have h1 := join_len [sep] (by simp) n L hL
      have h2 : (n + 1) * L.length ≤ 1001 * 1000 := Nat.mul_le_mul (by omega) hl
      show (Lib.join L [sep]).length ≤ _
      omega)
  rw [List.length_map, hm] at hj
  exact hj
/-- The text of the j-th byte in decimal. -/
def decV (l : List UInt8) (j : Nat) : Value := .string ⟨(Lib.decDigits (l.getD j 0).toNat).toArray⟩
set_option maxHeartbeats 1000000 in
theorem pshow_any (s : ByteArray) (w : World) (hs : s.size = 4) (h : PrAt w) :
    Calls Tryd.prog 42 #[.string s] w (TextR w (Lib.join (s.data.toList.map fun c => Lib.decDigits c.toNat) [46])) := by
  have hlen : s.data.toList.length = 4 := hs
  have HP := Lib.hid h
  have HJ : Hid (∀ (w : World) (b : Nat), Arr w b 4 4 (decV s.data.toList) → Calls Tryd.prog 25 #[.slice (some ⟨b, 0, none⟩) 4 4, .string ⟨#[46]⟩] w fun e w' => e = .returned (.string ⟨(Lib.join (s.data.toList.map fun c => Lib.decDigits c.toNat) [46]).toArray⟩) ∧ Below w.heap.size w w') := Lib.hid (fun w b hf => by
    have := join_arr w b 0 4 (s.data.toList.map fun c => Lib.decDigits c.toNat) 46 3 (fun x hx => by
      obtain ⟨c, _, rfl⟩ := List.mem_map.1 hx
      exact digits_len c) (by omega) (by rw [List.length_map, hlen]; omega) (by rw [List.length_map, hlen]; omega) hf.lt (fun j x hx => by
        rw [List.getElem?_map] at hx
        obtain ⟨c, hc, rfl⟩ := Option.map_eq_some_iff.1 hx
        have hjl := (List.getElem?_eq_some_iff.1 hc).1
        rw [Nat.zero_add, hf.told j (by omega)]
        unfold decV
        rw [List.getD_eq_getElem?_getD, hc, Option.getD_some])
    rw [List.length_map, hlen] at this
    exact this)
  clear h
  unfold TextR
  generalize (⟨(Lib.join (s.data.toList.map fun c => Lib.decDigits c.toNat) [46]).toArray⟩ : ByteArray) = R at *
  go_enter Tryd.func42, Tryd.ntmps42
  go_wp2
  go_loopw [5] (fun i wr => ∃ k : Nat, k ≤ 4 ∧ i = .int .i64 k ∧ Hid (Arr wr w.heap.size 4 k (decV s.data.toList)) ∧ Below w.heap.size w wr) (fun i _ => 4 - (RowKit.intOf i).toNat)
  case atStart => exact ⟨0, by omega, rfl, Lib.hid (Arr.new _ _ _ _ rfl _), (Below.refl _ _).alloc (Nat.le_refl _) _⟩
  case round =>
    obtain ⟨k, hk, rfl, hf, hbel⟩ := hrel
    by_cases hlt : k < 4
    · have hks : k < s.size := by omega
      have HV : Hid (decV s.data.toList k = .string ⟨(Lib.decDigits s[k].toNat).toArray⟩) := Lib.hid (by
        unfold decV
        rw [List.getD_eq_getElem?_getD, List.getElem?_eq_getElem (by show k < s.size; exact hks), Option.getD_some]
        rfl)
      have hu := s[k].toNat_lt
      obtain ⟨R2, hR2⟩ : ∃ R : ByteArray, (⟨(Lib.decDigits s[k].toNat).toArray⟩ : ByteArray) = R := ⟨_, rfl⟩
      rw [hR2] at HV
      have HI : Hid (∀ W, PrAt W → Calls Tryd.prog 24 #[.int .i64 (s[k].toNat : Int)] W fun e w' => e = .returned (.string R2) ∧ Below W.heap.size W w') := Lib.hid (fun W hW => by rw [← hR2]; exact itoa_byte s[k] W hW)
      clear hR2
      go_wp2_with (go_at_call 24; refine (HI.out _ (HP.out.below hbel)).mono ?_; rintro e w2 ⟨rfl, hb2⟩; have hf2 := hf.out.below hb2; obtain ⟨u, hcell⟩ := hf2.held k hlt; have hfree := hf2.free k hlt; have HF2 := Lib.hid hf2; clear hf2)
      go_roundw
      case rel => exact ⟨k + 1, hlt, by go_num, Lib.hid (HF2.out.step hlt HV.out), (hbel.trans (hb2.mono hbel.size)).setCell (Nat.le_refl _) _⟩
      case measure => simp [RowKit.intOf]; omega
    · obtain rfl : k = 4 := by omega
      go_wp2_with (go_at_call 25; refine (HJ.out _ _ hf.out).mono ?_; rintro e w2 ⟨rfl, hb2⟩)
      go_ret
      exact ⟨rfl, hbel.trans (hb2.mono hbel.size)⟩
end Go.Proofs.YtaoapkbfcofamaaDoor

namespace Go.Tx
/-- Where the longest run begins and ends, as the program keeps it. -/
def fromTo : Option (Nat × Nat) → Nat × Nat
  | none => (0, 0)
  | some (i, m) => (i, i + m)
theorem fromTo_step {Z : List Bool} {k f g r : Nat} (h : fromTo (best Z k) = (f, g)) (hr : runL Z k = r) : fromTo (best Z (k + 1)) = if max (g - f) 1 < r then (k, k + r) else (f, g) := by
  cases hb : best Z k with
  | none =>
    rw [hb] at h
    cases h
    rw [best_none hb, hr]
    by_cases h1 : 1 < r
    · rw [if_pos h1, if_pos (by omega)]; rfl
    · rw [if_neg h1, if_neg (by omega)]; rfl
  | some p =>
    obtain ⟨i, m⟩ := p
    have hm := best_ok Z k i m hb
    rw [hb] at h
    simp only [fromTo, Prod.mk.injEq] at h
    obtain ⟨rfl, rfl⟩ := h
    rw [best_some hb, hr]
    by_cases h1 : m < r
    · rw [if_pos h1, if_pos (by omega)]; rfl
    · rw [if_neg h1, if_neg (by omega)]; rfl
theorem fromTo_le (Z : List Bool) (k : Nat) : (fromTo (best Z k)).1 ≤ (fromTo (best Z k)).2 ∧ (fromTo (best Z k)).2 ≤ Z.length := by
  cases hb : best Z k with
  | none => exact ⟨Nat.le_refl _, Nat.zero_le _⟩
  | some p =>
    obtain ⟨i, m⟩ := p
    have hm := best_ok Z k i m hb
    simp only [fromTo]
    omega
end Go.Tx
namespace Go.Proofs.YtaoapkbfcofamaaDoor
open Go.RowKit Go.Lib Go.Tx Go.Rb
def zerosOf (X : List ByteArray) : List Bool := X.map fun x => decide (x.data.toList = [48])
set_option maxHeartbeats 2000000 in
set_option maxRecDepth 100000 in
theorem plrun_any (x0 x1 x2 x3 x4 x5 x6 x7 : ByteArray) (w : World) (f g : Nat) (hfg : fromTo (best (zerosOf [x0, x1, x2, x3, x4, x5, x6, x7]) 8) = (f, g)) :
    Calls Tryd.prog 56 #[.agg #[.string x0, .string x1, .string x2, .string x3, .string x4, .string x5, .string x6, .string x7]] w fun e w' => e = .returned (.tuple #[.int .i64 (f : Int), .int .i64 (g : Int)]) ∧ Below w.heap.size w w' := by
  have HFG := Lib.hid hfg
  clear hfg
  have hcells : ∀ (e : TypeId) (j : Nat) (x : ByteArray), [x0, x1, x2, x3, x4, x5, x6, x7][j]? = some x → (w.alloc (.cells #[.string x0, .string x1, .string x2, .string x3, .string x4, .string x5, .string x6, .string x7] e)).cell? ⟨w.heap.size, j, none⟩ = some (.string x) := by
    intro e j x hj
    rw [World.cell?_alloc_new]
    match j, hj with
    | 0, hj => cases hj; rfl
    | 1, hj => cases hj; rfl
    | 2, hj => cases hj; rfl
    | 3, hj => cases hj; rfl
    | 4, hj => cases hj; rfl
    | 5, hj => cases hj; rfl
    | 6, hj => cases hj; rfl
    | 7, hj => cases hj; rfl
    | j + 8, hj => simp at hj
  have HCE := Lib.hid hcells
  clear hcells
  have hXl : [x0, x1, x2, x3, x4, x5, x6, x7].length = 8 := rfl
  go_enter Tryd.func56, Tryd.ntmps56
  go_wp2
  have HC := Lib.hid (HCE.out 81)
  have hb : Below w.heap.size w (w.alloc (.cells #[.string x0, .string x1, .string x2, .string x3, .string x4, .string x5, .string x6, .string x7] 81)) := (Below.refl _ _).alloc (Nat.le_refl _) _
  clear HCE
  generalize hXX : [x0, x1, x2, x3, x4, x5, x6, x7] = X at *
  generalize (w.alloc (.cells #[.string x0, .string x1, .string x2, .string x3, .string x4, .string x5, .string x6, .string x7] 81)) = w2 at *
  clear hXX
  have hZl : (zerosOf X).length = 8 := by unfold zerosOf; rw [List.length_map]; exact hXl
  have HXL := Lib.hid hXl
  have HZL := Lib.hid hZl
  have HZA : Hid (∀ (j : Nat) x, X[j]? = some x → (zerosOf X)[j]? = some (decide (x.data.toList = [48]))) := Lib.hid (fun j x h => by unfold zerosOf; rw [List.getElem?_map, h]; rfl)
  clear hXl hZl
  generalize zerosOf X = Z at *
  go_loop [2, 3, 6] (fun a b i => ∃ (k p q : Nat), k ≤ 8 ∧ i = .int .i64 k ∧ a = .int .i64 p ∧ b = .int .i64 q ∧ p ≤ q ∧ q ≤ 8 ∧ Hid (fromTo (best Z k) = (p, q))) (fun _ _ i => 8 - (RowKit.intOf i).toNat)
  case atStart => exact ⟨0, 0, 0, Nat.zero_le _, rfl, rfl, rfl, Nat.le_refl _, Nat.zero_le _, Lib.hid rfl⟩
  case round =>
    obtain ⟨k, p, q, hk, rfl, rfl, rfl, hpq, hq8, hI⟩ := hrel
    by_cases hlt : k < 8
    · go_wp2
      go_loop [5] (fun v => ∃ n : Nat, k + n ≤ 8 ∧ v = .int .i64 ((k + n : Nat) : Int) ∧ Hid (∀ j, j < n → Z[k + j]? = some true)) (fun v => 8 - (RowKit.intOf v).toNat)
      case atStart => exact ⟨0, by omega, rfl, Lib.hid (fun j h => by omega)⟩
      case round =>
        obtain ⟨n, hn, rfl, hN⟩ := hrel
        by_cases hlt2 : k + n < 8
        · obtain ⟨x, hx⟩ : ∃ x, X[k + n]? = some x := ⟨_, List.getElem?_eq_getElem (by rw [HXL.out]; exact hlt2)⟩
          have hcell := HC.out (k + n) x hx
          have hz := HZA.out (k + n) x hx
          by_cases h48 : x.data.toList = [48]
          · have e : (x.toList == [48]) = true := by rw [toList_data, h48]; rfl
            have HZ1 : Hid (Z[k + n]? = some true) := Lib.hid (by rw [hz, decide_eq_true h48])
            clear h48 hz hx
            go_wp2
            go_round
            case rel => exact ⟨n + 1, by omega, by go_num, Lib.hid (fun j hj => by
              by_cases hjn : j = n
              · rw [hjn]; exact HZ1.out
              · exact hN.out j (by omega))⟩
            case measure => simp [RowKit.intOf]; omega
          · have e : (x.toList == [48]) = false := by rw [toList_data, beq_eq_false_iff_ne]; exact h48
            have HR : Hid (runL Z k = n) := Lib.hid (runL_eq hN.out (by rw [hz, decide_eq_false h48]; simp))
            clear h48 hz hx
            have HS := Lib.hid (fromTo_step hI.out HR.out)
            by_cases hm : max (q - p) 1 < n
            · have HS2 : Hid (fromTo (best Z (k + 1)) = (k, k + n)) := Lib.hid (by have := HS.out; rw [if_pos hm] at this; exact this)
              go_wp2
              go_round
              case rel => exact ⟨k + 1, k, k + n, by omega, by go_num, rfl, by go_num, by omega, by omega, HS2⟩
              case measure => simp [RowKit.intOf]; omega
            · have HS2 : Hid (fromTo (best Z (k + 1)) = (p, q)) := Lib.hid (by have := HS.out; rw [if_neg hm] at this; exact this)
              go_wp2
              go_round
              case rel => exact ⟨k + 1, p, q, by omega, by go_num, rfl, rfl, hpq, hq8, HS2⟩
              case measure => simp [RowKit.intOf]; omega
        · have HR : Hid (runL Z k = n) := Lib.hid (runL_eq hN.out (by rw [List.getElem?_eq_none (by rw [HZL.out]; omega)]; simp))
          have hn8 : k + n = 8 := by omega
          have HS := Lib.hid (fromTo_step hI.out HR.out)
          by_cases hm : max (q - p) 1 < n
          · have HS2 : Hid (fromTo (best Z (k + 1)) = (k, k + n)) := Lib.hid (by have := HS.out; rw [if_pos hm] at this; exact this)
            go_wp2
            go_round
            case rel => exact ⟨k + 1, k, k + n, by omega, by go_num, rfl, by go_num, by omega, by omega, HS2⟩
            case measure => simp [RowKit.intOf]; omega
          · have HS2 : Hid (fromTo (best Z (k + 1)) = (p, q)) := Lib.hid (by have := HS.out; rw [if_neg hm] at this; exact this)
            go_wp2
            go_round
            case rel => exact ⟨k + 1, p, q, by omega, by go_num, rfl, rfl, hpq, hq8, HS2⟩
            case measure => simp [RowKit.intOf]; omega
    · obtain rfl : k = 8 := by omega
      have hf : p = f ∧ q = g := by
        have h1 := hI.out
        have h2 := HFG.out
        rw [h1] at h2
        exact ⟨congrArg Prod.fst h2, congrArg Prod.snd h2⟩
      obtain ⟨rfl, rfl⟩ := hf
      go_wp2
      go_ret2
      exact ⟨rfl, hb⟩
end Go.Proofs.YtaoapkbfcofamaaDoor

namespace Go.Proofs.YtaoapkbfcofamaaDoor
open Go.RowKit Go.Lib Go.Tx Go.Rb
def hexVl (l : List UInt8) (j : Nat) : Value := .string ⟨(hexT (grp l j)).toArray⟩
theorem or16 (a b : UInt8) : bits .or .u64 (IntKind.u64.wrap (IntKind.u64.wrap (a.toNat : Int) * 256)) (IntKind.u64.wrap (b.toNat : Int)) = ((a.toNat * 256 + b.toNat : Nat) : Int) := by
  have ha := a.toNat_lt
  have hb := b.toNat_lt
  have h1 : IntKind.u64.wrap (IntKind.u64.wrap (a.toNat : Int) * 256) = ((a.toNat * 256 : Nat) : Int) := by
    rw [IntKind.wrap_u64, IntKind.wrap_u64]; omega
  have h2 : IntKind.u64.wrap (b.toNat : Int) = ((b.toNat : Nat) : Int) := by rw [IntKind.wrap_u64]; omega
  rw [h1, h2, u64_or_nat _ _ (by omega) (by omega)]
  have h3 := Nat.two_pow_add_eq_or_of_lt (i := 8) hb a.toNat
  rw [show a.toNat * 256 = 2 ^ 8 * a.toNat by omega, h3]
theorem fuint_grp (s : ByteArray) (k : Nat) (h1 : 2 * k < s.size) (h2 : 2 * k + 1 < s.size) (w : World) (hT : Tz w) :
    Calls Tryd.prog 55 #[.int .u64 (bits .or .u64 (IntKind.u64.wrap (IntKind.u64.wrap (s[2 * k].toNat : Int) * 256)) (IntKind.u64.wrap (s[2 * k + 1].toNat : Int))), .int .i64 16] w fun e w' => e = .returned (.string ⟨(hexT (grp s.data.toList k)).toArray⟩) ∧ Below w.heap.size w w' := by
  have hg : grp s.data.toList k = s[2 * k].toNat * 256 + s[2 * k + 1].toNat := by
    unfold grp
    rw [List.getD_eq_getElem?_getD, List.getD_eq_getElem?_getD, List.getElem?_eq_getElem (show 2 * k < s.data.toList.length from h1), List.getElem?_eq_getElem (show 2 * k + 1 < s.data.toList.length from h2)]
    rfl
  rw [or16, hg]
  exact fuint_any _ w (by have := s[2 * k].toNat_lt; have := s[2 * k + 1].toNat_lt; omega) hT
theorem zeros_grp (l : List UInt8) : zerosOf ((List.range 8).map fun j => (⟨(hexT (grp l j)).toArray⟩ : ByteArray)) = grpZ l := by
  unfold zerosOf grpZ
  rw [List.map_map]
  apply List.map_congr_left
  intro j _
  simp only [Function.comp]
  have := hexT_zero (grp l j)
  by_cases h : grp l j = 0
  · rw [decide_eq_true h, decide_eq_true (by rw [this]; exact h)]
  · rw [decide_eq_false h, decide_eq_false (fun e => h (this.1 e))]
theorem keepB {W w1 w2 : World} (h : Below W.heap.size W w1) (h2 : Below w1.heap.size w1 w2) : Below W.heap.size W w2 := h.trans (h2.mono h.size)
theorem slice_to (b f : Nat) (hf : f ≤ 8) (W : World) : (Instr.sliceAt 81 (.pointer (some ⟨b, 0, none⟩)) none (some (.int .i64 (f : Int))) none).run Tryd.prog W = .ok (.slice (some ⟨b, 0, none⟩) f 8) W := by
  have h8 : Tryd.prog.arrayLen 81 = 8 := by kernel_rfl
  have hel : Tryd.prog.elem 81 = 9 := by kernel_rfl
  have := run_sliceAt_array_h (P := Tryd.prog) W 81 ⟨b, 0, none⟩ (by rw [h8, hel]; exact Tryd.underlying81) .i64 (f : Int) (by omega) (by rw [h8]; omega)
  rw [this, h8, hel, Tryd.sizeOf9]
  simp only [Result.andThen_ok, slicedAt, Int.toNat_natCast]
  rw [if_neg (by omega)]
  congr 3
theorem slice_from (b g : Nat) (hg : g ≤ 8) (W : World) : (Instr.sliceAt 81 (.pointer (some ⟨b, 0, none⟩)) (some (.int .i64 (g : Int))) none none).run Tryd.prog W = .ok (.slice (some ⟨b, if 8 = g then 0 else g, none⟩) (8 - g) (8 - g)) W := by
  have h8 : Tryd.prog.arrayLen 81 = 8 := by kernel_rfl
  have hel : Tryd.prog.elem 81 = 9 := by kernel_rfl
  have := run_sliceAt_array_l (P := Tryd.prog) W 81 ⟨b, 0, none⟩ (by rw [h8, hel]; exact Tryd.underlying81) .i64 (g : Int) (by omega) (by rw [h8]; omega)
  rw [this, h8, hel, Tryd.sizeOf9]
  simp only [Result.andThen_ok, slicedAt, Int.toNat_natCast]
  by_cases h : 8 = g
  · rw [if_pos h, if_pos h]
  · rw [if_neg h, if_neg h]
    have ha : (⟨b, 0, none⟩ : Addr).add (g * 1) = ⟨b, g, none⟩ := by
      rw [Nat.mul_one]
      unfold Addr.add
      simp
      omega
    rw [ha]
set_option maxHeartbeats 4000000 in
set_option maxRecDepth 100000 in
theorem plprint_any (s : ByteArray) (w : World) (hs : s.size = 16) (h : PrAt w) :
    Calls Tryd.prog 43 #[.string s] w (TextR w (print16 s.data.toList)) := by
  have hlen : s.data.toList.length = 16 := hs
  have HP := Lib.hid h
  clear h
  obtain ⟨l, hl⟩ : ∃ l, s.data.toList = l := ⟨_, rfl⟩
  have HJ : Hid (∀ (W : World) (b o c m : Nat), Arr W b 8 8 (hexVl l) → o + m ≤ 8 → m ≤ c → ∀ o', (o' = o ∨ m = 0) → Calls Tryd.prog 25 #[.slice (some ⟨b, o', none⟩) m c, .string ⟨#[58]⟩] W fun e w' => e = .returned (.string ⟨(Lib.join (((grpT l).drop o).take m) [58]).toArray⟩) ∧ Below W.heap.size W w') := Lib.hid (fun W b o c m hA hom hc o' ho => by
    have hlm : (((grpT l).drop o).take m).length = m := by rw [List.length_take, List.length_drop, grpT_len]; omega
    have := join_arr W b o' c (((grpT l).drop o).take m) 58 4 (fun x hx => grpT_few l x (List.mem_of_mem_drop (List.mem_of_mem_take hx))) (by omega) (by omega) (by omega) hA.lt (fun j x hx => by
      have hj := (List.getElem?_eq_some_iff.1 hx).1
      rw [hlm] at hj
      obtain rfl : o' = o := by omega
      rw [List.getElem?_take_of_lt hj, List.getElem?_drop, grpT_at l _ (by omega)] at hx
      cases hx
      exact hA.told _ (by omega))
    rw [hlm] at this
    exact this)
  have hgl : ∀ j, grp l j = grp s.data.toList j := fun j => by rw [hl]
  have HV : Hid (∀ j, hexVl l j = .string ⟨(hexT (grp s.data.toList j)).toArray⟩) := Lib.hid (fun j => by unfold hexVl; rw [hgl])
  rw [hl]
  clear hgl hlen
  go_enter Tryd.func43, Tryd.ntmps43
  go_wp2
  go_loopw [8] (fun i wr => ∃ k : Nat, k ≤ 8 ∧ i = .int .i64 k ∧ Hid (Arr wr w.heap.size 8 k (hexVl l)) ∧ Below w.heap.size w wr) (fun i _ => 8 - (RowKit.intOf i).toNat)
  case atStart => exact ⟨0, by omega, rfl, Lib.hid (Arr.new _ _ _ _ rfl _), (Below.refl _ _).alloc (Nat.le_refl _) _⟩
  case round =>
    obtain ⟨k, hk, rfl, hf, hbel⟩ := hrel
    by_cases hlt : k < 8
    · have h1 : 2 * k < s.size := by omega
      have h2 : 2 * k + 1 < s.size := by omega
      have h1' : 2 * (k : Int) < 16 := by omega
      have h2' : 2 * (k : Int) + 1 < 16 := by omega
      have h3' : 0 ≤ 2 * (k : Int) := by omega
      have h4' : 0 ≤ 2 * (k : Int) + 1 := by omega
      have HF : Hid (∀ W, Tz W → Calls Tryd.prog 55 #[.int .u64 (bits .or .u64 (IntKind.u64.wrap (IntKind.u64.wrap (s[2 * k].toNat : Int) * 256)) (IntKind.u64.wrap (s[2 * k + 1].toNat : Int))), .int .i64 16] W fun e w' => e = .returned (hexVl l k) ∧ Below W.heap.size W w') := Lib.hid (fun W hW => by rw [HV.out]; exact fuint_grp s k h1 h2 W hW)
      have HA := Lib.hid (fun n => hf.out.below (below_drewN wr n))
      have HB := Lib.hid (fun n => hbel.trans ((below_drewN wr n).mono hbel.size))
      obtain ⟨X, hX⟩ : ∃ X, hexVl l k = .string X := ⟨_, rfl⟩
      rw [hX] at HF
      have HX := Lib.hid hX
      clear hX hbel hf
      go_wp2
      go_quiet (fail)
      go_wp2_with (go_at_call 55; refine (HF.out _ (HP.out.below (HB.out _)).tz).mono ?_; rintro e w2 ⟨rfl, hb2⟩; have hA2 := (HA.out _).below hb2; obtain ⟨u, hcell⟩ := hA2.held k hlt; have hfree := hA2.free k hlt; have HA2 := Lib.hid hA2; have HB2 := Lib.hid (keepB (HB.out _) hb2); clear hA2)
      go_roundw
      case rel => exact ⟨k + 1, hlt, by go_num, Lib.hid (HA2.out.step hlt HX.out), HB2.out.setCell (Nat.le_refl _) _⟩
      case measure => simp [RowKit.intOf]; omega
    · obtain rfl : k = 8 := by omega
      have hc0 := hf.out.told 0 (by omega)
      have hc1 := hf.out.told 1 (by omega)
      have hc2 := hf.out.told 2 (by omega)
      have hc3 := hf.out.told 3 (by omega)
      have hc4 := hf.out.told 4 (by omega)
      have hc5 := hf.out.told 5 (by omega)
      have hc6 := hf.out.told 6 (by omega)
      have hc7 := hf.out.told 7 (by omega)
      have hz := zeros_grp l
      unfold hexVl at hc0 hc1 hc2 hc3 hc4 hc5 hc6 hc7
      have hr : (List.range 8).map (fun j => (⟨(hexT (grp l j)).toArray⟩ : ByteArray)) = [⟨(hexT (grp l 0)).toArray⟩, ⟨(hexT (grp l 1)).toArray⟩, ⟨(hexT (grp l 2)).toArray⟩, ⟨(hexT (grp l 3)).toArray⟩, ⟨(hexT (grp l 4)).toArray⟩, ⟨(hexT (grp l 5)).toArray⟩, ⟨(hexT (grp l 6)).toArray⟩, ⟨(hexT (grp l 7)).toArray⟩] := rfl
      rw [hr] at hz
      clear hr
      generalize (⟨(hexT (grp l 0)).toArray⟩ : ByteArray) = x0 at hc0 hz
      generalize (⟨(hexT (grp l 1)).toArray⟩ : ByteArray) = x1 at hc1 hz
      generalize (⟨(hexT (grp l 2)).toArray⟩ : ByteArray) = x2 at hc2 hz
      generalize (⟨(hexT (grp l 3)).toArray⟩ : ByteArray) = x3 at hc3 hz
      generalize (⟨(hexT (grp l 4)).toArray⟩ : ByteArray) = x4 at hc4 hz
      generalize (⟨(hexT (grp l 5)).toArray⟩ : ByteArray) = x5 at hc5 hz
      generalize (⟨(hexT (grp l 6)).toArray⟩ : ByteArray) = x6 at hc6 hz
      generalize (⟨(hexT (grp l 7)).toArray⟩ : ByteArray) = x7 at hc7 hz
      cases hb : best (grpZ l) 8 with
      | none =>
        have HR := Lib.hid (fun W => plrun_any x0 x1 x2 x3 x4 x5 x6 x7 W 0 0 (by rw [hz, hb]; rfl))
        have HE : Hid (print16 l = Lib.join (((grpT l).drop 0).take 8) [58]) := Lib.hid (by
          unfold print16
          rw [hb]
          simp only [List.drop_zero]
          rw [List.take_of_length_le (by rw [grpT_len]; omega)])
        clear hz hb
        go_wp2_with (first | (go_at_call 56; refine (HR.out _).mono ?_; rintro e w2 ⟨rfl, hb2⟩; have HB2 := Lib.hid hb2; clear hb2) | (go_at_call 25; refine (HJ.out _ _ 0 8 8 (hf.out.below HB2.out) (by omega) (by omega) _ (.inl rfl)).mono ?_; rintro e w3 ⟨rfl, hb3⟩))
        go_ret
        exact ⟨by rw [HE.out]; rfl, keepB (keepB hbel HB2.out) hb3⟩
      | some p =>
        obtain ⟨i, m⟩ := p
        have hbo := best_ok _ 8 i m hb
        rw [grpZ_len] at hbo
        obtain ⟨hm2, hi8, him⟩ := hbo
        have HR := Lib.hid (fun W => plrun_any x0 x1 x2 x3 x4 x5 x6 x7 W i (i + m) (by rw [hz, hb]; rfl))
        have HE : Hid (print16 l = Lib.join (((grpT l).drop 0).take i) [58] ++ [58, 58] ++ Lib.join (((grpT l).drop (i + m)).take (8 - (i + m))) [58]) := Lib.hid (by
          unfold print16
          rw [hb]
          simp only [List.drop_zero]
          rw [List.take_of_length_le (l := (grpT l).drop (i + m)) (by rw [List.length_drop, grpT_len]; omega)])
        clear hz hb
        obtain ⟨g, hg⟩ : ∃ g, i + m = g := ⟨_, rfl⟩
        rw [hg] at HR HE him
        have hig : ¬ (i : Int) = (g : Int) := by omega
        have hig2 : ((i : Int) == (g : Int)) = false := by rw [beq_eq_false_iff_ne]; exact hig
        have hs1 := fun W => slice_to w.heap.size i (by omega) W
        have hs2 := fun W => slice_from w.heap.size g (by omega) W
        go_wp2_with (first | (go_at_call 56; refine (HR.out _).mono ?_; rintro e w2 ⟨rfl, hb2⟩; have HB2 := Lib.hid hb2; clear hb2))
        have hwB := HB2.out
        have HJ1 : Hid (∀ W, Below w2.heap.size w2 W → Calls Tryd.prog 25 #[.slice (some ⟨w.heap.size, 0, none⟩) i 8, .string ⟨#[58]⟩] W fun e w' => e = .returned (.string ⟨(Lib.join (((grpT l).drop 0).take i) [58]).toArray⟩) ∧ Below W.heap.size W w') := Lib.hid (fun W hW => HJ.out W _ 0 8 i ((hf.out.below HB2.out).below hW) (by omega) (by omega) 0 (.inl rfl))
        have HJ2 : Hid (∀ W, Below w2.heap.size w2 W → Calls Tryd.prog 25 #[.slice (some ⟨w.heap.size, if 8 = g then 0 else g, none⟩) (8 - g) (8 - g), .string ⟨#[58]⟩] W fun e w' => e = .returned (.string ⟨(Lib.join (((grpT l).drop g).take (8 - g)) [58]).toArray⟩) ∧ Below W.heap.size W w') := Lib.hid (fun W hW => HJ.out W _ g (8 - g) (8 - g) ((hf.out.below HB2.out).below hW) (by omega) (by omega) _ (by by_cases h : 8 = g; exact .inr (by omega); rw [if_neg h]; exact .inl rfl))
        obtain ⟨y1, hy1⟩ : ∃ y : ByteArray, (⟨(Lib.join (((grpT l).drop 0).take i) [58]).toArray⟩ : ByteArray) = y := ⟨_, rfl⟩
        obtain ⟨y2, hy2⟩ : ∃ y : ByteArray, (⟨(Lib.join (((grpT l).drop g).take (8 - g)) [58]).toArray⟩ : ByteArray) = y := ⟨_, rfl⟩
        obtain ⟨v2, hv2⟩ : ∃ v : Value, (Value.slice (some ⟨w.heap.size, if 8 = g then 0 else g, none⟩) (8 - g) (8 - g)) = v := ⟨_, rfl⟩
        rw [hy1] at HJ1
        rw [hy2, hv2] at HJ2
        rw [hv2] at hs2
        have hz1 : y1.size ≤ 40 := by
          rw [← hy1]
          have := join_len [58] (by simp) 4 (((grpT l).drop 0).take i) (fun x hx => grpT_few l x (List.mem_of_mem_drop (List.mem_of_mem_take hx)))
          have h2 : (((grpT l).drop 0).take i).length ≤ 8 := by rw [List.length_take]; omega
          show (Lib.join (((grpT l).drop 0).take i) [58]).toArray.size ≤ 40
          simp only [List.size_toArray]
          omega
        have hz2 : y2.size ≤ 40 := by
          rw [← hy2]
          have := join_len [58] (by simp) 4 (((grpT l).drop g).take (8 - g)) (fun x hx => grpT_few l x (List.mem_of_mem_drop (List.mem_of_mem_take hx)))
          have h2 : (((grpT l).drop g).take (8 - g)).length ≤ 8 := by rw [List.length_take]; omega
          show (Lib.join (((grpT l).drop g).take (8 - g)) [58]).toArray.size ≤ 40
          simp only [List.size_toArray]
          omega
        have HJB : Hid (∀ W v, Below w2.heap.size w2 W → ∀ y, ((v = .slice (some ⟨w.heap.size, 0, none⟩) i 8 ∧ y = y1) ∨ (v = v2 ∧ y = y2)) → Calls Tryd.prog 25 #[v, .string ⟨#[58]⟩] W fun e w' => e = .returned (.string y) ∧ Below W.heap.size W w') := Lib.hid (fun W v hW y h => by
          rcases h with ⟨rfl, rfl⟩ | ⟨rfl, rfl⟩
          · exact HJ1.out W hW
          · exact HJ2.out W hW)
        have HE2 : Hid ((⟨(print16 l).toArray⟩ : ByteArray) = y1 ++ ⟨#[58, 58]⟩ ++ y2) := Lib.hid (by
          rw [HE.out, ← hy1, ← hy2, show (⟨#[58, 58]⟩ : ByteArray) = ⟨([58, 58] : List UInt8).toArray⟩ from rfl, join_str, join_str])
        have HBB := Lib.hid (keepB hbel HB2.out)
        have hS := Below.refl w2.heap.size w2
        have hq1 : ¬ 9223372036854775807 < y1.size + 2 := by omega
        have hq2 : ¬ 9223372036854775807 < y1.size + 2 + y2.size := by omega
        clear hy1 hy2 hv2 HJ1 HJ2 HE hwB hbel hc0 hc1 hc2 hc3 hc4 hc5 hc6 hc7
        go_region_held3 (fun w' => Below w2.heap.size w2 w') (first | assumption | exact Below.drew (by assumption) | (refine keepB ?_ (by assumption); first | assumption | exact Below.drew (by assumption))) (first | (go_at_call 25; refine (HJB.out _ _ (by assumption) _ (by first | exact .inl ⟨rfl, rfl⟩ | exact .inr ⟨rfl, rfl⟩)).mono ?_; rintro e w' ⟨rfl, hbn⟩))
        all_goals
          go_wp2
          go_ret
          exact ⟨by rw [HE2.out]; rfl, keepB HBB.out (by assumption)⟩
theorem pprint_any (s : ByteArray) (w : World) (hs : s.size ≤ 1000000) (h : PrAt w) :
    Calls Tryd.prog 28 #[.string s] w (TextR w (printP s.data.toList)) := by
  have hl : s.data.toList.length = s.size := rfl
  by_cases h4 : s.size = 4
  · have HX : Hid (printP s.data.toList = Lib.join (s.data.toList.map fun c => Lib.decDigits c.toNat) [46]) := Lib.hid (by unfold printP; rw [if_pos (by omega)])
    have HC := Lib.hid (pshow_any s w h4 h)
    have h1 : (s.size : Int) = 4 := by omega
    rw [← HX.out] at HC
    generalize printP s.data.toList = R at *
    clear h hl
    go_enter Tryd.func28, Tryd.ntmps28
    go_wp2_with (go_at_call 42; refine HC.out.mono ?_; rintro e w2 ⟨rfl, hb2⟩)
    go_ret
    exact ⟨rfl, hb2⟩
  by_cases h16 : s.size = 16
  · have HX : Hid (printP s.data.toList = print16 s.data.toList) := Lib.hid (by unfold printP; rw [if_neg (by omega), if_pos (by omega)])
    have HC := Lib.hid (plprint_any s w h16 h)
    have h1 : (s.size : Int) = 16 := by omega
    rw [← HX.out] at HC
    generalize printP s.data.toList = R at *
    clear h hl
    go_enter Tryd.func28, Tryd.ntmps28
    go_wp2_with (go_at_call 43; refine HC.out.mono ?_; rintro e w2 ⟨rfl, hb2⟩)
    go_ret
    exact ⟨rfl, hb2⟩
  · have HX : Hid (printP s.data.toList = []) := Lib.hid (by unfold printP; rw [if_neg (by omega), if_neg (by omega)])
    have e4 : ((s.size : Int) == 4) = false := by rw [beq_eq_false_iff_ne]; omega
    have e16 : ((s.size : Int) == 16) = false := by rw [beq_eq_false_iff_ne]; omega
    clear h hl
    go_enter Tryd.func28, Tryd.ntmps28
    go_wp2
    go_ret
    exact ⟨by rw [HX.out]; rfl, Below.refl _ _⟩
end Go.Proofs.YtaoapkbfcofamaaDoor

namespace Go.Proofs.YtaoapkbfcofamaaDoor
open Go.RowKit Go.Lib Go.Tx
/-- What the program reads of the library's variables. -/
structure LibAt (w : World) : Prop where
  max : MaxAt w
  pr : PrAt w
theorem LibAt.below {w w' : World} (h : LibAt w) (hb : Below w.heap.size w w') : LibAt w' := ⟨h.max.below hb, h.pr.below hb⟩
/-- An error, or none. -/
def errQ (c : Int) : Value := if c = 0 then .nilIface else .iface 30 (.int .i64 c)
/-- What a function of the program that gives a query and an error leaves. -/
def PRes (w : World) (q : QryL) (c : Int) (e : Ending) (w' : World) : Prop := e = .returned (.tuple #[qV q, errQ c]) ∧ Below w.heap.size w w'
/-- The block of what it answers. -/
structure QR (w W : World) : Prop where
  res : W.heap[w.heap.size]? = some (.cells #[.int .i64 0, .string ⟨#[]⟩, .string ⟨#[]⟩, .int .i64 0] 23 (0, 0))
  bel : Below w.heap.size w W
theorem QR.below {w W W' : World} (h : QR w W) (hb : Below W.heap.size W W') : QR w W' := ⟨(hb.block _ (lt_of h.res)).trans h.res, keepE h.bel hb⟩
theorem QR.facts {w W : World} (h : QR w W) :
    (W.cell? ⟨w.heap.size, 0, none⟩ = some (.int .i64 0) ∧ W.cell? ⟨w.heap.size, 1, none⟩ = some (.string ⟨#[]⟩) ∧ W.cell? ⟨w.heap.size, 2, none⟩ = some (.string ⟨#[]⟩) ∧ W.cell? ⟨w.heap.size, 3, none⟩ = some (.int .i64 0)) ∧
    (W.frozen? ⟨w.heap.size, 0, none⟩ = false ∧ W.frozen? ⟨w.heap.size, 1, none⟩ = false ∧ W.frozen? ⟨w.heap.size, 2, none⟩ = false ∧ W.frozen? ⟨w.heap.size, 3, none⟩ = false) :=
  ⟨⟨cellJ h.res rfl, cellJ h.res rfl, cellJ h.res rfl, cellJ h.res rfl⟩, ⟨freeJ h.res 0, freeJ h.res 1, freeJ h.res 2, freeJ h.res 3⟩⟩
theorem QR.made (w W : World) (hW : w.alloc (.cells #[.int .i64 0, .string ⟨#[]⟩, .string ⟨#[]⟩, .int .i64 0] 23) = W) : QR w W := by
  subst hW
  exact ⟨heap_alloc_new w _, al_bel w _⟩
theorem join_ne (c : UInt8) (xs : List (List UInt8)) (h : 2 ≤ xs.length) : Lib.join xs [c] ≠ [] := fun e => by
  cases xs with
  | nil => simp at h
  | cons x r =>
    have := Lib.join_length x r [c]
    rw [e] at this
    simp only [List.length_nil, List.length_cons] at this h
    omega
theorem print_ne (l : List UInt8) (h : l.length = 4 ∨ l.length = 16) : printP l ≠ [] := by
  unfold printP
  by_cases h4 : l.length = 4
  · rw [if_pos h4]
    exact join_ne _ _ (by rw [List.length_map]; omega)
  · rw [if_neg h4, if_pos (h.resolve_left h4)]
    unfold print16
    split
    · exact join_ne _ _ (by simp [grpT])
    · simp

set_option maxHeartbeats 4000000 in
set_option maxRecDepth 100000 in
theorem pc_host_root (nm : ByteArray) (hn : nameB (bare nm.data.toList) = true) (hr : isRoot nm.data.toList = true) (w : World) (hs : nm.size ≤ 1000000) (hl : LibAt w) :
    Calls Tryd.prog 15 #[.string nm] w (PRes w ⟨1, ((⟨((bare nm.data.toList).map low).toArray⟩ : ByteArray) ++ ⟨#[46]⟩), ⟨#[]⟩, 0⟩ 0) := by
  have HC : Hid (∀ W, Below w.heap.size w W → Calls Tryd.prog 27 #[.string nm] W fun e w' => e = .returned (cleanV nm.data.toList) ∧ Below W.heap.size W w') := Lib.hid (fun W hb => clean_any nm W (by unfold maxLen; omega) (hl.max.below hb))
  have hbl : ¬ 9223372036854775807 < (bare nm.data.toList).length + 1 := by have := bare_len nm.data.toList; have : nm.data.toList.length = nm.size := rfl; omega
  unfold cleanV at HC
  rw [if_pos hn, hr] at HC
  clear hn hr hs hl
  generalize bare nm.data.toList = bl at *
  have HQ : Hid (∀ W, w.alloc (.cells #[.int .i64 0, .string ⟨#[]⟩, .string ⟨#[]⟩, .int .i64 0] 23) = W → QR w W) := Lib.hid (fun W hW => QR.made w W hW)
  show Calls Tryd.prog 15 #[.string nm] w fun e w' => e = .returned (.tuple #[.agg #[.int .i64 1, .string ((⟨(bl.map low).toArray⟩ : ByteArray) ++ ⟨#[46]⟩), .string ⟨#[]⟩, .int .i64 0], .nilIface]) ∧ Below w.heap.size w w'
  go_enter Tryd.func15, Tryd.ntmps15
  go_upto_region 1 with (fail)
  obtain ⟨W, hW⟩ : ∃ W, w.alloc (.cells #[.int .i64 0, .string ⟨#[]⟩, .string ⟨#[]⟩, .int .i64 0] 23) = W := ⟨_, rfl⟩
  have HB := Lib.hid (HQ.out W hW)
  rw [hW]
  clear hW HQ
  obtain ⟨⟨d0, d1, d2, d3⟩, ⟨g0, g1, g2, g3⟩⟩ := HB.out.facts
  go_wp2_with (go_at_call 27; refine (HC.out _ HB.out.bel).mono ?_; rintro e w2 ⟨rfl, hb⟩; have HB2 := Lib.hid (HB.out.below hb); obtain ⟨⟨b0, b1, b2, b3⟩, ⟨f0, f1, f2, f3⟩⟩ := HB2.out.facts; clear hb)
  refine bodyPost_ret (results_row2 rfl _ _ w.heap.size _ _ _ _ rfl (set4_at HB2.out.res _ _ _ _) Tryd.underlying23 rfl sz_q4) rfl ?_
  exact ⟨rfl, bel_set4 HB2.out.bel (Nat.le_refl _) _ _ _ _⟩

set_option maxHeartbeats 4000000 in
set_option maxRecDepth 100000 in
theorem pc_host_plain (nm : ByteArray) (hn : nameB (bare nm.data.toList) = true) (hr : isRoot nm.data.toList = false) (w : World) (hs : nm.size ≤ 1000000) (hl : LibAt w) :
    Calls Tryd.prog 15 #[.string nm] w (PRes w ⟨1, ⟨((bare nm.data.toList).map low).toArray⟩, ⟨#[]⟩, 0⟩ 0) := by
  have HC : Hid (∀ W, Below w.heap.size w W → Calls Tryd.prog 27 #[.string nm] W fun e w' => e = .returned (cleanV nm.data.toList) ∧ Below W.heap.size W w') := Lib.hid (fun W hb => clean_any nm W (by unfold maxLen; omega) (hl.max.below hb))
  have hbl : ¬ 9223372036854775807 < (bare nm.data.toList).length + 1 := by have := bare_len nm.data.toList; have : nm.data.toList.length = nm.size := rfl; omega
  unfold cleanV at HC
  rw [if_pos hn, hr] at HC
  clear hn hr hs hl
  generalize bare nm.data.toList = bl at *
  have HQ : Hid (∀ W, w.alloc (.cells #[.int .i64 0, .string ⟨#[]⟩, .string ⟨#[]⟩, .int .i64 0] 23) = W → QR w W) := Lib.hid (fun W hW => QR.made w W hW)
  show Calls Tryd.prog 15 #[.string nm] w fun e w' => e = .returned (.tuple #[.agg #[.int .i64 1, .string ⟨(bl.map low).toArray⟩, .string ⟨#[]⟩, .int .i64 0], .nilIface]) ∧ Below w.heap.size w w'
  go_enter Tryd.func15, Tryd.ntmps15
  go_upto_region 1 with (fail)
  obtain ⟨W, hW⟩ : ∃ W, w.alloc (.cells #[.int .i64 0, .string ⟨#[]⟩, .string ⟨#[]⟩, .int .i64 0] 23) = W := ⟨_, rfl⟩
  have HB := Lib.hid (HQ.out W hW)
  rw [hW]
  clear hW HQ
  obtain ⟨⟨d0, d1, d2, d3⟩, ⟨g0, g1, g2, g3⟩⟩ := HB.out.facts
  go_wp2_with (go_at_call 27; refine (HC.out _ HB.out.bel).mono ?_; rintro e w2 ⟨rfl, hb⟩; have HB2 := Lib.hid (HB.out.below hb); obtain ⟨⟨b0, b1, b2, b3⟩, ⟨f0, f1, f2, f3⟩⟩ := HB2.out.facts; clear hb)
  refine bodyPost_ret (results_row2 rfl _ _ w.heap.size _ _ _ _ rfl (set4_at HB2.out.res _ _ _ _) Tryd.underlying23 rfl sz_q4) rfl ?_
  exact ⟨rfl, bel_set4 HB2.out.bel (Nat.le_refl _) _ _ _ _⟩

set_option maxHeartbeats 4000000 in
set_option maxRecDepth 100000 in
theorem pc_host_bad (nm : ByteArray) (hn : ¬ nameB (bare nm.data.toList) = true) (w : World) (hs : nm.size ≤ 1000000) (hl : LibAt w) :
    Calls Tryd.prog 15 #[.string nm] w (PRes w zQ 6) := by
  have HC : Hid (∀ W, Below w.heap.size w W → Calls Tryd.prog 27 #[.string nm] W fun e w' => e = .returned (cleanV nm.data.toList) ∧ Below W.heap.size W w') := Lib.hid (fun W hb => clean_any nm W (by unfold maxLen; omega) (hl.max.below hb))
  unfold cleanV at HC
  rw [if_neg hn] at HC
  clear hn hs hl
  have HQ : Hid (∀ W, w.alloc (.cells #[.int .i64 0, .string ⟨#[]⟩, .string ⟨#[]⟩, .int .i64 0] 23) = W → QR w W) := Lib.hid (fun W hW => QR.made w W hW)
  show Calls Tryd.prog 15 #[.string nm] w fun e w' => e = .returned (.tuple #[.agg #[.int .i64 0, .string ⟨#[]⟩, .string ⟨#[]⟩, .int .i64 0], .iface 30 (.int .i64 6)]) ∧ Below w.heap.size w w'
  go_enter Tryd.func15, Tryd.ntmps15
  go_upto_region 1 with (fail)
  obtain ⟨W, hW⟩ : ∃ W, w.alloc (.cells #[.int .i64 0, .string ⟨#[]⟩, .string ⟨#[]⟩, .int .i64 0] 23) = W := ⟨_, rfl⟩
  have HB := Lib.hid (HQ.out W hW)
  rw [hW]
  clear hW HQ
  obtain ⟨⟨d0, d1, d2, d3⟩, ⟨g0, g1, g2, g3⟩⟩ := HB.out.facts
  go_wp2_with (go_at_call 27; refine (HC.out _ HB.out.bel).mono ?_; rintro e w2 ⟨rfl, hb⟩; have HB2 := Lib.hid (HB.out.below hb); obtain ⟨⟨b0, b1, b2, b3⟩, ⟨f0, f1, f2, f3⟩⟩ := HB2.out.facts; clear hb)
  refine bodyPost_ret (results_row2 rfl _ _ w.heap.size _ _ _ _ rfl (set4_at HB2.out.res _ _ _ _) Tryd.underlying23 rfl sz_q4) rfl ?_
  exact ⟨rfl, bel_set4 HB2.out.bel (Nat.le_refl _) _ _ _ _⟩

set_option maxHeartbeats 4000000 in
set_option maxRecDepth 100000 in
theorem pc_addr_ok (nm : ByteArray) (hn : nm.data.toList.length = 4 ∨ nm.data.toList.length = 16) (w : World) (hs : nm.size ≤ 1000000) (hl : LibAt w) :
    Calls Tryd.prog 16 #[.string nm] w (PRes w ⟨2, nm, ⟨#[]⟩, 0⟩ 0) := by
  have HP : Hid (∀ W, Below w.heap.size w W → Calls Tryd.prog 28 #[.string nm] W (TextR W (printP nm.data.toList))) := Lib.hid (fun W hb => pprint_any nm W hs (hl.pr.below hb))
  obtain ⟨pt, hpt⟩ : ∃ pt, printP nm.data.toList = pt := ⟨_, rfl⟩
  have hne : pt.isEmpty = false := by
    have := print_ne _ hn
    rw [hpt] at this
    cases pt with
    | nil => exact absurd rfl this
    | cons x l => rfl
  rw [hpt] at HP
  unfold TextR at HP
  clear hn hs hl hpt
  have HQ : Hid (∀ W, w.alloc (.cells #[.int .i64 0, .string ⟨#[]⟩, .string ⟨#[]⟩, .int .i64 0] 23) = W → QR w W) := Lib.hid (fun W hW => QR.made w W hW)
  show Calls Tryd.prog 16 #[.string nm] w fun e w' => e = .returned (.tuple #[.agg #[.int .i64 2, .string nm, .string ⟨#[]⟩, .int .i64 0], .nilIface]) ∧ Below w.heap.size w w'
  go_enter Tryd.func16, Tryd.ntmps16
  go_upto_region 1 with (fail)
  obtain ⟨W, hW⟩ : ∃ W, w.alloc (.cells #[.int .i64 0, .string ⟨#[]⟩, .string ⟨#[]⟩, .int .i64 0] 23) = W := ⟨_, rfl⟩
  have HB := Lib.hid (HQ.out W hW)
  rw [hW]
  clear hW HQ
  obtain ⟨⟨d0, d1, d2, d3⟩, ⟨g0, g1, g2, g3⟩⟩ := HB.out.facts
  go_wp2_with (go_at_call 28; refine (HP.out _ HB.out.bel).mono ?_; rintro e w2 ⟨rfl, hb⟩; have HB2 := Lib.hid (HB.out.below hb); obtain ⟨⟨b0, b1, b2, b3⟩, ⟨f0, f1, f2, f3⟩⟩ := HB2.out.facts; clear hb)
  refine bodyPost_ret (results_row2 rfl _ _ w.heap.size _ _ _ _ rfl (set4_at HB2.out.res _ _ _ _) Tryd.underlying23 rfl sz_q4) rfl ?_
  exact ⟨rfl, bel_set4 HB2.out.bel (Nat.le_refl _) _ _ _ _⟩

set_option maxHeartbeats 4000000 in
set_option maxRecDepth 100000 in
theorem pc_addr_bad (nm : ByteArray) (hn : ¬ (nm.data.toList.length = 4 ∨ nm.data.toList.length = 16)) (w : World) (hs : nm.size ≤ 1000000) (hl : LibAt w) :
    Calls Tryd.prog 16 #[.string nm] w (PRes w zQ 7) := by
  have HP : Hid (∀ W, Below w.heap.size w W → Calls Tryd.prog 28 #[.string nm] W (TextR W (printP nm.data.toList))) := Lib.hid (fun W hb => pprint_any nm W hs (hl.pr.below hb))
  have hpt : printP nm.data.toList = [] := by unfold printP; rw [if_neg (by omega), if_neg (by omega)]
  rw [hpt] at HP
  unfold TextR at HP
  clear hn hs hl hpt
  have HQ : Hid (∀ W, w.alloc (.cells #[.int .i64 0, .string ⟨#[]⟩, .string ⟨#[]⟩, .int .i64 0] 23) = W → QR w W) := Lib.hid (fun W hW => QR.made w W hW)
  show Calls Tryd.prog 16 #[.string nm] w fun e w' => e = .returned (.tuple #[.agg #[.int .i64 0, .string ⟨#[]⟩, .string ⟨#[]⟩, .int .i64 0], .iface 30 (.int .i64 7)]) ∧ Below w.heap.size w w'
  go_enter Tryd.func16, Tryd.ntmps16
  go_upto_region 1 with (fail)
  obtain ⟨W, hW⟩ : ∃ W, w.alloc (.cells #[.int .i64 0, .string ⟨#[]⟩, .string ⟨#[]⟩, .int .i64 0] 23) = W := ⟨_, rfl⟩
  have HB := Lib.hid (HQ.out W hW)
  rw [hW]
  clear hW HQ
  obtain ⟨⟨d0, d1, d2, d3⟩, ⟨g0, g1, g2, g3⟩⟩ := HB.out.facts
  go_wp2_with (go_at_call 28; refine (HP.out _ HB.out.bel).mono ?_; rintro e w2 ⟨rfl, hb⟩; have HB2 := Lib.hid (HB.out.below hb); obtain ⟨⟨b0, b1, b2, b3⟩, ⟨f0, f1, f2, f3⟩⟩ := HB2.out.facts; clear hb)
  refine bodyPost_ret (results_row2 rfl _ _ w.heap.size _ _ _ _ rfl (set4_at HB2.out.res _ _ _ _) Tryd.underlying23 rfl sz_q4) rfl ?_
  exact ⟨rfl, bel_set4 HB2.out.bel (Nat.le_refl _) _ _ _ _⟩

set_option maxHeartbeats 1000000 in
theorem mayP_any (s : ByteArray) (w : World) : Calls Tryd.prog 30 #[.string s] w fun e w' => e = .returned (.bool (protoOK s)) ∧ Below w.heap.size w w' := by
  have HF := Lib.hid (fun w => proto_any s w)
  by_cases h0 : s.data.toList = []
  · have e1 := emp_nil h0
    have HE := Lib.hid (protoOK_nil h0)
    clear h0
    go_enter Tryd.func30, Tryd.ntmps30
    go_wp2
    all_goals (go_ret; exact ⟨by rw [HE.out]; rfl, Below.refl _ _⟩)
  · have e1 := emp_not h0
    have HE : Hid (protoOK s = protoB s.data.toList) := Lib.hid (by unfold protoOK; rw [decide_eq_false h0, Bool.false_or])
    rw [HE.out]
    clear h0 HE
    have HF' : ∀ w, Calls Tryd.prog 46 #[.string s] w fun e w' => e = .returned (.bool (protoB s.data.toList)) ∧ Below w.heap.size w w' := HF.out
    clear HF
    generalize protoB s.data.toList = X at HF' ⊢
    have HF := Lib.hid HF'
    clear HF'
    go_enter Tryd.func30, Tryd.ntmps30
    go_wp2_with (go_at_call 46; refine (HF.out _).mono ?_; rintro e w2 ⟨rfl, hb⟩)
    all_goals (go_ret; exact ⟨by first | rfl | simp, hb⟩)

set_option maxHeartbeats 4000000 in
set_option maxRecDepth 100000 in
theorem pc_svc_name (nm pr : ByteArray) (hv : svcB nm.data.toList = false) (w : World) (hp : pr.size ≤ 1000000) :
    Calls Tryd.prog 17 #[.string nm, .string pr] w (PRes w zQ 6) := by
  have HS : Hid (∀ W, Calls Tryd.prog 29 #[.string nm] W fun e w' => e = .returned (.bool (svcB nm.data.toList)) ∧ Below W.heap.size W w') := Lib.hid (fun W => svcName_any nm W)
  rw [hv] at HS
  clear hv hp
  have HQ : Hid (∀ W, w.alloc (.cells #[.int .i64 0, .string ⟨#[]⟩, .string ⟨#[]⟩, .int .i64 0] 23) = W → QR w W) := Lib.hid (fun W hW => QR.made w W hW)
  show Calls Tryd.prog 17 #[.string nm, .string pr] w fun e w' => e = .returned (.tuple #[.agg #[.int .i64 0, .string ⟨#[]⟩, .string ⟨#[]⟩, .int .i64 0], .iface 30 (.int .i64 6)]) ∧ Below w.heap.size w w'
  go_enter Tryd.func17, Tryd.ntmps17
  go_upto_region 1 with (fail)
  obtain ⟨W, hW⟩ : ∃ W, w.alloc (.cells #[.int .i64 0, .string ⟨#[]⟩, .string ⟨#[]⟩, .int .i64 0] 23) = W := ⟨_, rfl⟩
  have HB := Lib.hid (HQ.out W hW)
  rw [hW]
  clear hW HQ
  obtain ⟨⟨d0, d1, d2, d3⟩, ⟨g0, g1, g2, g3⟩⟩ := HB.out.facts
  go_wp2_with (go_at_call 29; refine (HS.out _).mono ?_; rintro e w2 ⟨rfl, hb⟩; have HB2 := Lib.hid (HB.out.below hb); obtain ⟨⟨b0, b1, b2, b3⟩, ⟨f0, f1, f2, f3⟩⟩ := HB2.out.facts; clear hb)
  refine bodyPost_ret (results_row2 rfl _ _ w.heap.size _ _ _ _ rfl (set4_at HB2.out.res _ _ _ _) Tryd.underlying23 rfl sz_q4) rfl ?_
  exact ⟨rfl, bel_set4 HB2.out.bel (Nat.le_refl _) _ _ _ _⟩

set_option maxHeartbeats 4000000 in
set_option maxRecDepth 100000 in
theorem pc_svc_bad (nm pr : ByteArray) (hv : svcB nm.data.toList = true) (hq : protoOK pr = false) (w : World) (hp : pr.size ≤ 1000000) :
    Calls Tryd.prog 17 #[.string nm, .string pr] w (PRes w zQ 7) := by
  have HS : Hid (∀ W, Calls Tryd.prog 29 #[.string nm] W fun e w' => e = .returned (.bool (svcB nm.data.toList)) ∧ Below W.heap.size W w') := Lib.hid (fun W => svcName_any nm W)
  have HM : Hid (∀ W, Calls Tryd.prog 30 #[.string pr] W fun e w' => e = .returned (.bool (protoOK pr)) ∧ Below W.heap.size W w') := Lib.hid (fun W => mayP_any pr W)
  rw [hv] at HS
  rw [hq] at HM
  clear hv hq hp
  have HQ : Hid (∀ W, w.alloc (.cells #[.int .i64 0, .string ⟨#[]⟩, .string ⟨#[]⟩, .int .i64 0] 23) = W → QR w W) := Lib.hid (fun W hW => QR.made w W hW)
  show Calls Tryd.prog 17 #[.string nm, .string pr] w fun e w' => e = .returned (.tuple #[.agg #[.int .i64 0, .string ⟨#[]⟩, .string ⟨#[]⟩, .int .i64 0], .iface 30 (.int .i64 7)]) ∧ Below w.heap.size w w'
  go_enter Tryd.func17, Tryd.ntmps17
  go_upto_region 1 with (fail)
  obtain ⟨W, hW⟩ : ∃ W, w.alloc (.cells #[.int .i64 0, .string ⟨#[]⟩, .string ⟨#[]⟩, .int .i64 0] 23) = W := ⟨_, rfl⟩
  have HB := Lib.hid (HQ.out W hW)
  rw [hW]
  clear hW HQ
  obtain ⟨⟨d0, d1, d2, d3⟩, ⟨g0, g1, g2, g3⟩⟩ := HB.out.facts
  go_wp2_with (first | (go_at_call 29; refine (HS.out _).mono ?_; rintro e w2 ⟨rfl, hb⟩; have HB2 := Lib.hid (HB.out.below hb); obtain ⟨⟨b0, b1, b2, b3⟩, ⟨f0, f1, f2, f3⟩⟩ := HB2.out.facts; clear hb) | (go_at_call 30; refine (HM.out _).mono ?_; rintro e w3 ⟨rfl, hb⟩; have HB3 := Lib.hid (HB2.out.below hb); obtain ⟨⟨b0, b1, b2, b3⟩, ⟨f0, f1, f2, f3⟩⟩ := HB3.out.facts; clear hb))
  refine bodyPost_ret (results_row2 rfl _ _ w.heap.size _ _ _ _ rfl (set4_at HB3.out.res _ _ _ _) Tryd.underlying23 rfl sz_q4) rfl ?_
  exact ⟨rfl, bel_set4 HB3.out.bel (Nat.le_refl _) _ _ _ _⟩

set_option maxHeartbeats 4000000 in
set_option maxRecDepth 100000 in
theorem pc_svc_ok (nm pr : ByteArray) (hv : svcB nm.data.toList = true) (hq : protoOK pr = true) (w : World) (hp : pr.size ≤ 1000000) :
    Calls Tryd.prog 17 #[.string nm, .string pr] w (PRes w ⟨3, nm, foldS pr, 0⟩ 0) := by
  have HS : Hid (∀ W, Calls Tryd.prog 29 #[.string nm] W fun e w' => e = .returned (.bool (svcB nm.data.toList)) ∧ Below W.heap.size W w') := Lib.hid (fun W => svcName_any nm W)
  have HM : Hid (∀ W, Calls Tryd.prog 30 #[.string pr] W fun e w' => e = .returned (.bool (protoOK pr)) ∧ Below W.heap.size W w') := Lib.hid (fun W => mayP_any pr W)
  have HF : Hid (∀ W, Calls Tryd.prog 31 #[.string pr] W fun e w' => e = .returned (.string (foldS pr)) ∧ Below W.heap.size W w') := Lib.hid (fun W => fold_any pr W (by unfold maxLen; omega))
  rw [hv] at HS
  rw [hq] at HM
  clear hv hq hp
  generalize foldS pr = fp at *
  have HQ : Hid (∀ W, w.alloc (.cells #[.int .i64 0, .string ⟨#[]⟩, .string ⟨#[]⟩, .int .i64 0] 23) = W → QR w W) := Lib.hid (fun W hW => QR.made w W hW)
  show Calls Tryd.prog 17 #[.string nm, .string pr] w fun e w' => e = .returned (.tuple #[.agg #[.int .i64 3, .string nm, .string fp, .int .i64 0], .nilIface]) ∧ Below w.heap.size w w'
  go_enter Tryd.func17, Tryd.ntmps17
  go_upto_region 1 with (fail)
  obtain ⟨W, hW⟩ : ∃ W, w.alloc (.cells #[.int .i64 0, .string ⟨#[]⟩, .string ⟨#[]⟩, .int .i64 0] 23) = W := ⟨_, rfl⟩
  have HB := Lib.hid (HQ.out W hW)
  rw [hW]
  clear hW HQ
  obtain ⟨⟨d0, d1, d2, d3⟩, ⟨g0, g1, g2, g3⟩⟩ := HB.out.facts
  go_wp2_with (first | (go_at_call 29; refine (HS.out _).mono ?_; rintro e w2 ⟨rfl, hb⟩; have HB2 := Lib.hid (HB.out.below hb); obtain ⟨⟨b0, b1, b2, b3⟩, ⟨f0, f1, f2, f3⟩⟩ := HB2.out.facts; clear hb) | (go_at_call 30; refine (HM.out _).mono ?_; rintro e w3 ⟨rfl, hb⟩; have HB3 := Lib.hid (HB2.out.below hb); obtain ⟨⟨b0, b1, b2, b3⟩, ⟨f0, f1, f2, f3⟩⟩ := HB3.out.facts; clear hb) | (go_at_call 31; refine (HF.out _).mono ?_; rintro e w4 ⟨rfl, hb⟩; have HB4 := Lib.hid (HB3.out.below hb); obtain ⟨⟨b0, b1, b2, b3⟩, ⟨f0, f1, f2, f3⟩⟩ := HB4.out.facts; clear hb))
  refine bodyPost_ret (results_row2 rfl _ _ w.heap.size _ _ _ _ rfl (set4_at HB4.out.res _ _ _ _) Tryd.underlying23 rfl sz_q4) rfl ?_
  exact ⟨rfl, bel_set4 HB4.out.bel (Nat.le_refl _) _ _ _ _⟩

set_option maxHeartbeats 4000000 in
set_option maxRecDepth 100000 in
theorem pc_port_low (po : Int) (pr : ByteArray) (hl : po < 1) (w : World) (hp : pr.size ≤ 1000000) :
    Calls Tryd.prog 18 #[.int .i64 po, .string pr] w (PRes w zQ 7) := by
  clear hp
  have HQ : Hid (∀ W, w.alloc (.cells #[.int .i64 0, .string ⟨#[]⟩, .string ⟨#[]⟩, .int .i64 0] 23) = W → QR w W) := Lib.hid (fun W hW => QR.made w W hW)
  show Calls Tryd.prog 18 #[.int .i64 po, .string pr] w fun e w' => e = .returned (.tuple #[.agg #[.int .i64 0, .string ⟨#[]⟩, .string ⟨#[]⟩, .int .i64 0], .iface 30 (.int .i64 7)]) ∧ Below w.heap.size w w'
  go_enter Tryd.func18, Tryd.ntmps18
  go_upto_region 1 with (fail)
  obtain ⟨W, hW⟩ : ∃ W, w.alloc (.cells #[.int .i64 0, .string ⟨#[]⟩, .string ⟨#[]⟩, .int .i64 0] 23) = W := ⟨_, rfl⟩
  have HB := Lib.hid (HQ.out W hW)
  rw [hW]
  clear hW HQ
  obtain ⟨⟨d0, d1, d2, d3⟩, ⟨g0, g1, g2, g3⟩⟩ := HB.out.facts
  go_wp2
  refine bodyPost_ret (results_row2 rfl _ _ w.heap.size _ _ _ _ rfl (set4_at HB.out.res _ _ _ _) Tryd.underlying23 rfl sz_q4) rfl ?_
  exact ⟨rfl, bel_set4 HB.out.bel (Nat.le_refl _) _ _ _ _⟩

set_option maxHeartbeats 4000000 in
set_option maxRecDepth 100000 in
theorem pc_port_high (po : Int) (pr : ByteArray) (hl : ¬ po < 1) (hh : 65535 < po) (w : World) (hp : pr.size ≤ 1000000) :
    Calls Tryd.prog 18 #[.int .i64 po, .string pr] w (PRes w zQ 7) := by
  clear hp
  have HQ : Hid (∀ W, w.alloc (.cells #[.int .i64 0, .string ⟨#[]⟩, .string ⟨#[]⟩, .int .i64 0] 23) = W → QR w W) := Lib.hid (fun W hW => QR.made w W hW)
  show Calls Tryd.prog 18 #[.int .i64 po, .string pr] w fun e w' => e = .returned (.tuple #[.agg #[.int .i64 0, .string ⟨#[]⟩, .string ⟨#[]⟩, .int .i64 0], .iface 30 (.int .i64 7)]) ∧ Below w.heap.size w w'
  go_enter Tryd.func18, Tryd.ntmps18
  go_upto_region 1 with (fail)
  obtain ⟨W, hW⟩ : ∃ W, w.alloc (.cells #[.int .i64 0, .string ⟨#[]⟩, .string ⟨#[]⟩, .int .i64 0] 23) = W := ⟨_, rfl⟩
  have HB := Lib.hid (HQ.out W hW)
  rw [hW]
  clear hW HQ
  obtain ⟨⟨d0, d1, d2, d3⟩, ⟨g0, g1, g2, g3⟩⟩ := HB.out.facts
  go_wp2
  refine bodyPost_ret (results_row2 rfl _ _ w.heap.size _ _ _ _ rfl (set4_at HB.out.res _ _ _ _) Tryd.underlying23 rfl sz_q4) rfl ?_
  exact ⟨rfl, bel_set4 HB.out.bel (Nat.le_refl _) _ _ _ _⟩

set_option maxHeartbeats 4000000 in
set_option maxRecDepth 100000 in
theorem pc_port_bad (po : Int) (pr : ByteArray) (hl : ¬ po < 1) (hh : ¬ 65535 < po) (hq : protoOK pr = false) (w : World) (hp : pr.size ≤ 1000000) :
    Calls Tryd.prog 18 #[.int .i64 po, .string pr] w (PRes w zQ 7) := by
  have HM : Hid (∀ W, Calls Tryd.prog 30 #[.string pr] W fun e w' => e = .returned (.bool (protoOK pr)) ∧ Below W.heap.size W w') := Lib.hid (fun W => mayP_any pr W)
  rw [hq] at HM
  clear hq hp
  have HQ : Hid (∀ W, w.alloc (.cells #[.int .i64 0, .string ⟨#[]⟩, .string ⟨#[]⟩, .int .i64 0] 23) = W → QR w W) := Lib.hid (fun W hW => QR.made w W hW)
  show Calls Tryd.prog 18 #[.int .i64 po, .string pr] w fun e w' => e = .returned (.tuple #[.agg #[.int .i64 0, .string ⟨#[]⟩, .string ⟨#[]⟩, .int .i64 0], .iface 30 (.int .i64 7)]) ∧ Below w.heap.size w w'
  go_enter Tryd.func18, Tryd.ntmps18
  go_upto_region 1 with (fail)
  obtain ⟨W, hW⟩ : ∃ W, w.alloc (.cells #[.int .i64 0, .string ⟨#[]⟩, .string ⟨#[]⟩, .int .i64 0] 23) = W := ⟨_, rfl⟩
  have HB := Lib.hid (HQ.out W hW)
  rw [hW]
  clear hW HQ
  obtain ⟨⟨d0, d1, d2, d3⟩, ⟨g0, g1, g2, g3⟩⟩ := HB.out.facts
  go_wp2_with (go_at_call 30; refine (HM.out _).mono ?_; rintro e w2 ⟨rfl, hb⟩; have HB2 := Lib.hid (HB.out.below hb); obtain ⟨⟨b0, b1, b2, b3⟩, ⟨f0, f1, f2, f3⟩⟩ := HB2.out.facts; clear hb)
  refine bodyPost_ret (results_row2 rfl _ _ w.heap.size _ _ _ _ rfl (set4_at HB2.out.res _ _ _ _) Tryd.underlying23 rfl sz_q4) rfl ?_
  exact ⟨rfl, bel_set4 HB2.out.bel (Nat.le_refl _) _ _ _ _⟩

set_option maxHeartbeats 4000000 in
set_option maxRecDepth 100000 in
theorem pc_port_ok (po : Int) (pr : ByteArray) (hl : ¬ po < 1) (hh : ¬ 65535 < po) (hq : protoOK pr = true) (w : World) (hp : pr.size ≤ 1000000) :
    Calls Tryd.prog 18 #[.int .i64 po, .string pr] w (PRes w ⟨4, ⟨#[]⟩, foldS pr, po⟩ 0) := by
  have HM : Hid (∀ W, Calls Tryd.prog 30 #[.string pr] W fun e w' => e = .returned (.bool (protoOK pr)) ∧ Below W.heap.size W w') := Lib.hid (fun W => mayP_any pr W)
  have HF : Hid (∀ W, Calls Tryd.prog 31 #[.string pr] W fun e w' => e = .returned (.string (foldS pr)) ∧ Below W.heap.size W w') := Lib.hid (fun W => fold_any pr W (by unfold maxLen; omega))
  rw [hq] at HM
  clear hq hp
  generalize foldS pr = fp at *
  have HQ : Hid (∀ W, w.alloc (.cells #[.int .i64 0, .string ⟨#[]⟩, .string ⟨#[]⟩, .int .i64 0] 23) = W → QR w W) := Lib.hid (fun W hW => QR.made w W hW)
  show Calls Tryd.prog 18 #[.int .i64 po, .string pr] w fun e w' => e = .returned (.tuple #[.agg #[.int .i64 4, .string ⟨#[]⟩, .string fp, .int .i64 po], .nilIface]) ∧ Below w.heap.size w w'
  go_enter Tryd.func18, Tryd.ntmps18
  go_upto_region 1 with (fail)
  obtain ⟨W, hW⟩ : ∃ W, w.alloc (.cells #[.int .i64 0, .string ⟨#[]⟩, .string ⟨#[]⟩, .int .i64 0] 23) = W := ⟨_, rfl⟩
  have HB := Lib.hid (HQ.out W hW)
  rw [hW]
  clear hW HQ
  obtain ⟨⟨d0, d1, d2, d3⟩, ⟨g0, g1, g2, g3⟩⟩ := HB.out.facts
  go_wp2_with (first | (go_at_call 30; refine (HM.out _).mono ?_; rintro e w2 ⟨rfl, hb⟩; have HB2 := Lib.hid (HB.out.below hb); obtain ⟨⟨b0, b1, b2, b3⟩, ⟨f0, f1, f2, f3⟩⟩ := HB2.out.facts; clear hb) | (go_at_call 31; refine (HF.out _).mono ?_; rintro e w3 ⟨rfl, hb⟩; have HB3 := Lib.hid (HB2.out.below hb); obtain ⟨⟨b0, b1, b2, b3⟩, ⟨f0, f1, f2, f3⟩⟩ := HB3.out.facts; clear hb))
  refine bodyPost_ret (results_row2 rfl _ _ w.heap.size _ _ _ _ rfl (set4_at HB3.out.res _ _ _ _) Tryd.underlying23 rfl sz_q4) rfl ?_
  exact ⟨rfl, bel_set4 HB3.out.bel (Nat.le_refl _) _ _ _ _⟩

end Go.Proofs.YtaoapkbfcofamaaDoor

namespace Go.Proofs.YtaoapkbfcofamaaDoor
open Go.RowKit Go.Lib Go.Tx
theorem pc_host (nm pr : ByteArray) (po : Int) (w : World) (hs : nm.size ≤ 1000000) (hl : LibAt w) :
    Calls Tryd.prog 15 #[.string nm] w (PRes w (checkP ⟨1, nm, pr, po⟩).1 (checkP ⟨1, nm, pr, po⟩).2) := by
  by_cases hn : nameB (bare nm.data.toList) = true
  · cases hr : isRoot nm.data.toList
    · have e : checkP ⟨1, nm, pr, po⟩ = (⟨1, ⟨((bare nm.data.toList).map low).toArray⟩, ⟨#[]⟩, 0⟩, 0) := by
        unfold checkP askS
        rw [if_pos rfl, if_pos hn, hr]
        rfl
      rw [e]
      exact pc_host_plain nm hn hr w hs hl
    · have e : checkP ⟨1, nm, pr, po⟩ = (⟨1, (⟨((bare nm.data.toList).map low).toArray⟩ : ByteArray) ++ ⟨#[46]⟩, ⟨#[]⟩, 0⟩, 0) := by
        unfold checkP askS
        rw [if_pos rfl, if_pos hn, hr]
        rfl
      rw [e]
      exact pc_host_root nm hn hr w hs hl
  · have e : checkP ⟨1, nm, pr, po⟩ = (zQ, 6) := by
      unfold checkP
      rw [if_pos rfl, if_neg hn]
    rw [e]
    exact pc_host_bad nm hn w hs hl
theorem pc_addr (nm pr : ByteArray) (po : Int) (w : World) (hs : nm.size ≤ 1000000) (hl : LibAt w) :
    Calls Tryd.prog 16 #[.string nm] w (PRes w (checkP ⟨2, nm, pr, po⟩).1 (checkP ⟨2, nm, pr, po⟩).2) := by
  by_cases hn : nm.size = 4 ∨ nm.size = 16
  · have e : checkP ⟨2, nm, pr, po⟩ = (⟨2, nm, ⟨#[]⟩, 0⟩, 0) := by
      unfold checkP
      rw [if_neg (by simp), if_pos rfl, if_pos hn]
    rw [e]
    exact pc_addr_ok nm hn w hs hl
  · have e : checkP ⟨2, nm, pr, po⟩ = (zQ, 7) := by
      unfold checkP
      rw [if_neg (by simp), if_pos rfl, if_neg hn]
    rw [e]
    exact pc_addr_bad nm hn w hs hl
theorem pc_svc (nm pr : ByteArray) (po : Int) (w : World) (hp : pr.size ≤ 1000000) :
    Calls Tryd.prog 17 #[.string nm, .string pr] w (PRes w (checkP ⟨3, nm, pr, po⟩).1 (checkP ⟨3, nm, pr, po⟩).2) := by
  cases hv : svcB nm.data.toList
  · have e : checkP ⟨3, nm, pr, po⟩ = (zQ, 6) := by
      unfold checkP
      rw [if_neg (by simp), if_neg (by simp), if_pos rfl, if_neg (by rw [hv]; decide)]
    rw [e]
    exact pc_svc_name nm pr hv w hp
  · cases hq : protoOK pr
    · have e : checkP ⟨3, nm, pr, po⟩ = (zQ, 7) := by
        unfold checkP
        rw [if_neg (by simp), if_neg (by simp), if_pos rfl, if_pos hv, if_neg (by rw [hq]; decide)]
      rw [e]
      exact pc_svc_bad nm pr hv hq w hp
    · have e : checkP ⟨3, nm, pr, po⟩ = (⟨3, nm, foldS pr, 0⟩, 0) := by
        unfold checkP
        rw [if_neg (by simp), if_neg (by simp), if_pos rfl, if_pos hv, if_pos hq]
      rw [e]
      exact pc_svc_ok nm pr hv hq w hp
theorem pc_port (nm pr : ByteArray) (po : Int) (w : World) (hp : pr.size ≤ 1000000) :
    Calls Tryd.prog 18 #[.int .i64 po, .string pr] w (PRes w (checkP ⟨4, nm, pr, po⟩).1 (checkP ⟨4, nm, pr, po⟩).2) := by
  have no : ¬ ((1 ≤ po ∧ po ≤ 65535) ∧ protoOK pr = true) → checkP ⟨4, nm, pr, po⟩ = (zQ, 7) := fun h => by
    unfold checkP
    rw [if_neg (by simp), if_neg (by simp), if_neg (by simp), if_pos rfl, if_neg h]
  by_cases hl : po < 1
  · rw [no (fun h => by omega)]
    exact pc_port_low po pr hl w hp
  · by_cases hh : 65535 < po
    · rw [no (fun h => by omega)]
      exact pc_port_high po pr hl hh w hp
    · cases hq : protoOK pr
      · rw [no (fun h => by rw [hq] at h; cases h.2)]
        exact pc_port_bad po pr hl hh hq w hp
      · have e : checkP ⟨4, nm, pr, po⟩ = (⟨4, ⟨#[]⟩, foldS pr, po⟩, 0) := by
          unfold checkP
          rw [if_neg (by simp), if_neg (by simp), if_neg (by simp), if_pos rfl, if_pos ⟨⟨by show 1 ≤ po; omega, by show po ≤ 65535; omega⟩, hq⟩]
        rw [e]
        exact pc_port_ok po pr hl hh hq w hp

set_option maxHeartbeats 4000000 in
set_option maxRecDepth 100000 in
theorem pcheck_1 (nm pr : ByteArray) (po : Int) (w : World) (hs : nm.size ≤ 1000000) (hp : pr.size ≤ 1000000) (hl : LibAt w) :
    Calls Tryd.prog 8 #[.agg #[.int .i64 1, .string nm, .string pr, .int .i64 po]] w (PRes w (checkP ⟨1, nm, pr, po⟩).1 (checkP ⟨1, nm, pr, po⟩).2) := by
  have HK : Hid (∀ W, Below w.heap.size w W → Calls Tryd.prog 15 #[.string nm] W (PRes W (checkP ⟨1, nm, pr, po⟩).1 (checkP ⟨1, nm, pr, po⟩).2)) := Lib.hid (fun W hb => pc_host nm pr po W hs (hl.below hb))
  obtain ⟨R, hR⟩ : ∃ R, checkP ⟨1, nm, pr, po⟩ = R := ⟨_, rfl⟩
  rw [hR] at HK ⊢
  clear hR hs hp hl
  obtain ⟨⟨r0, r1, r2, r3⟩, c⟩ := R
  unfold PRes qV qC at HK ⊢
  simp only at HK ⊢
  generalize errQ c = ev at *
  have HQ : Hid (∀ W, (w.alloc (.cells #[.int .i64 1, .string nm, .string pr, .int .i64 po] 23)).alloc (.cells #[.int .i64 0, .string ⟨#[]⟩, .string ⟨#[]⟩, .int .i64 0] 23) = W → QB w W ⟨1, nm, pr, po⟩) := Lib.hid (fun W hW => QB.made w _ W hW)
  go_enter Tryd.func8, Tryd.ntmps8
  go_upto_region 1 with (fail)
  obtain ⟨W, hW⟩ : ∃ W, (w.alloc (.cells #[.int .i64 1, .string nm, .string pr, .int .i64 po] 23)).alloc (.cells #[.int .i64 0, .string ⟨#[]⟩, .string ⟨#[]⟩, .int .i64 0] 23) = W := ⟨_, rfl⟩
  have HB := Lib.hid (HQ.out W hW)
  rw [hW]
  clear hW HQ
  obtain ⟨⟨a0, a1, a2, a3⟩, ⟨d0, d1, d2, d3⟩, ⟨g0, g1, g2, g3⟩⟩ := HB.out.facts
  go_wp2_with (go_at_call 15; refine (HK.out _ HB.out.bel).mono ?_; rintro e w2 ⟨rfl, hb⟩; have HB2 := Lib.hid (HB.out.below hb); obtain ⟨⟨b0, b1, b2, b3⟩, ⟨c0, c1, c2, c3⟩, ⟨f0, f1, f2, f3⟩⟩ := HB2.out.facts; clear hb)
  refine bodyPost_ret (results_row2 rfl _ _ (w.heap.size + 1) _ _ _ _ rfl (set4_at HB2.out.res _ _ _ _) Tryd.underlying23 rfl sz_q4) rfl ?_
  exact ⟨rfl, bel_set4 HB2.out.bel (Nat.le_succ _) _ _ _ _⟩
set_option maxHeartbeats 4000000 in
set_option maxRecDepth 100000 in
theorem pcheck_2 (nm pr : ByteArray) (po : Int) (w : World) (hs : nm.size ≤ 1000000) (hp : pr.size ≤ 1000000) (hl : LibAt w) :
    Calls Tryd.prog 8 #[.agg #[.int .i64 2, .string nm, .string pr, .int .i64 po]] w (PRes w (checkP ⟨2, nm, pr, po⟩).1 (checkP ⟨2, nm, pr, po⟩).2) := by
  have HK : Hid (∀ W, Below w.heap.size w W → Calls Tryd.prog 16 #[.string nm] W (PRes W (checkP ⟨2, nm, pr, po⟩).1 (checkP ⟨2, nm, pr, po⟩).2)) := Lib.hid (fun W hb => pc_addr nm pr po W hs (hl.below hb))
  obtain ⟨R, hR⟩ : ∃ R, checkP ⟨2, nm, pr, po⟩ = R := ⟨_, rfl⟩
  rw [hR] at HK ⊢
  clear hR hs hp hl
  obtain ⟨⟨r0, r1, r2, r3⟩, c⟩ := R
  unfold PRes qV qC at HK ⊢
  simp only at HK ⊢
  generalize errQ c = ev at *
  have HQ : Hid (∀ W, (w.alloc (.cells #[.int .i64 2, .string nm, .string pr, .int .i64 po] 23)).alloc (.cells #[.int .i64 0, .string ⟨#[]⟩, .string ⟨#[]⟩, .int .i64 0] 23) = W → QB w W ⟨2, nm, pr, po⟩) := Lib.hid (fun W hW => QB.made w _ W hW)
  go_enter Tryd.func8, Tryd.ntmps8
  go_upto_region 1 with (fail)
  obtain ⟨W, hW⟩ : ∃ W, (w.alloc (.cells #[.int .i64 2, .string nm, .string pr, .int .i64 po] 23)).alloc (.cells #[.int .i64 0, .string ⟨#[]⟩, .string ⟨#[]⟩, .int .i64 0] 23) = W := ⟨_, rfl⟩
  have HB := Lib.hid (HQ.out W hW)
  rw [hW]
  clear hW HQ
  obtain ⟨⟨a0, a1, a2, a3⟩, ⟨d0, d1, d2, d3⟩, ⟨g0, g1, g2, g3⟩⟩ := HB.out.facts
  go_wp2_with (go_at_call 16; refine (HK.out _ HB.out.bel).mono ?_; rintro e w2 ⟨rfl, hb⟩; have HB2 := Lib.hid (HB.out.below hb); obtain ⟨⟨b0, b1, b2, b3⟩, ⟨c0, c1, c2, c3⟩, ⟨f0, f1, f2, f3⟩⟩ := HB2.out.facts; clear hb)
  refine bodyPost_ret (results_row2 rfl _ _ (w.heap.size + 1) _ _ _ _ rfl (set4_at HB2.out.res _ _ _ _) Tryd.underlying23 rfl sz_q4) rfl ?_
  exact ⟨rfl, bel_set4 HB2.out.bel (Nat.le_succ _) _ _ _ _⟩
set_option maxHeartbeats 4000000 in
set_option maxRecDepth 100000 in
theorem pcheck_3 (nm pr : ByteArray) (po : Int) (w : World) (hs : nm.size ≤ 1000000) (hp : pr.size ≤ 1000000) (hl : LibAt w) :
    Calls Tryd.prog 8 #[.agg #[.int .i64 3, .string nm, .string pr, .int .i64 po]] w (PRes w (checkP ⟨3, nm, pr, po⟩).1 (checkP ⟨3, nm, pr, po⟩).2) := by
  have HK : Hid (∀ W, Below w.heap.size w W → Calls Tryd.prog 17 #[.string nm, .string pr] W (PRes W (checkP ⟨3, nm, pr, po⟩).1 (checkP ⟨3, nm, pr, po⟩).2)) := Lib.hid (fun W hb => pc_svc nm pr po W hp)
  obtain ⟨R, hR⟩ : ∃ R, checkP ⟨3, nm, pr, po⟩ = R := ⟨_, rfl⟩
  rw [hR] at HK ⊢
  clear hR hs hp hl
  obtain ⟨⟨r0, r1, r2, r3⟩, c⟩ := R
  unfold PRes qV qC at HK ⊢
  simp only at HK ⊢
  generalize errQ c = ev at *
  have HQ : Hid (∀ W, (w.alloc (.cells #[.int .i64 3, .string nm, .string pr, .int .i64 po] 23)).alloc (.cells #[.int .i64 0, .string ⟨#[]⟩, .string ⟨#[]⟩, .int .i64 0] 23) = W → QB w W ⟨3, nm, pr, po⟩) := Lib.hid (fun W hW => QB.made w _ W hW)
  go_enter Tryd.func8, Tryd.ntmps8
  go_upto_region 1 with (fail)
  obtain ⟨W, hW⟩ : ∃ W, (w.alloc (.cells #[.int .i64 3, .string nm, .string pr, .int .i64 po] 23)).alloc (.cells #[.int .i64 0, .string ⟨#[]⟩, .string ⟨#[]⟩, .int .i64 0] 23) = W := ⟨_, rfl⟩
  have HB := Lib.hid (HQ.out W hW)
  rw [hW]
  clear hW HQ
  obtain ⟨⟨a0, a1, a2, a3⟩, ⟨d0, d1, d2, d3⟩, ⟨g0, g1, g2, g3⟩⟩ := HB.out.facts
  go_wp2_with (go_at_call 17; refine (HK.out _ HB.out.bel).mono ?_; rintro e w2 ⟨rfl, hb⟩; have HB2 := Lib.hid (HB.out.below hb); obtain ⟨⟨b0, b1, b2, b3⟩, ⟨c0, c1, c2, c3⟩, ⟨f0, f1, f2, f3⟩⟩ := HB2.out.facts; clear hb)
  refine bodyPost_ret (results_row2 rfl _ _ (w.heap.size + 1) _ _ _ _ rfl (set4_at HB2.out.res _ _ _ _) Tryd.underlying23 rfl sz_q4) rfl ?_
  exact ⟨rfl, bel_set4 HB2.out.bel (Nat.le_succ _) _ _ _ _⟩
set_option maxHeartbeats 4000000 in
set_option maxRecDepth 100000 in
theorem pcheck_4 (nm pr : ByteArray) (po : Int) (w : World) (hs : nm.size ≤ 1000000) (hp : pr.size ≤ 1000000) (hl : LibAt w) :
    Calls Tryd.prog 8 #[.agg #[.int .i64 4, .string nm, .string pr, .int .i64 po]] w (PRes w (checkP ⟨4, nm, pr, po⟩).1 (checkP ⟨4, nm, pr, po⟩).2) := by
  have HK : Hid (∀ W, Below w.heap.size w W → Calls Tryd.prog 18 #[.int .i64 po, .string pr] W (PRes W (checkP ⟨4, nm, pr, po⟩).1 (checkP ⟨4, nm, pr, po⟩).2)) := Lib.hid (fun W hb => pc_port nm pr po W hp)
  obtain ⟨R, hR⟩ : ∃ R, checkP ⟨4, nm, pr, po⟩ = R := ⟨_, rfl⟩
  rw [hR] at HK ⊢
  clear hR hs hp hl
  obtain ⟨⟨r0, r1, r2, r3⟩, c⟩ := R
  unfold PRes qV qC at HK ⊢
  simp only at HK ⊢
  generalize errQ c = ev at *
  have HQ : Hid (∀ W, (w.alloc (.cells #[.int .i64 4, .string nm, .string pr, .int .i64 po] 23)).alloc (.cells #[.int .i64 0, .string ⟨#[]⟩, .string ⟨#[]⟩, .int .i64 0] 23) = W → QB w W ⟨4, nm, pr, po⟩) := Lib.hid (fun W hW => QB.made w _ W hW)
  go_enter Tryd.func8, Tryd.ntmps8
  go_upto_region 1 with (fail)
  obtain ⟨W, hW⟩ : ∃ W, (w.alloc (.cells #[.int .i64 4, .string nm, .string pr, .int .i64 po] 23)).alloc (.cells #[.int .i64 0, .string ⟨#[]⟩, .string ⟨#[]⟩, .int .i64 0] 23) = W := ⟨_, rfl⟩
  have HB := Lib.hid (HQ.out W hW)
  rw [hW]
  clear hW HQ
  obtain ⟨⟨a0, a1, a2, a3⟩, ⟨d0, d1, d2, d3⟩, ⟨g0, g1, g2, g3⟩⟩ := HB.out.facts
  go_wp2_with (go_at_call 18; refine (HK.out _ HB.out.bel).mono ?_; rintro e w2 ⟨rfl, hb⟩; have HB2 := Lib.hid (HB.out.below hb); obtain ⟨⟨b0, b1, b2, b3⟩, ⟨c0, c1, c2, c3⟩, ⟨f0, f1, f2, f3⟩⟩ := HB2.out.facts; clear hb)
  refine bodyPost_ret (results_row2 rfl _ _ (w.heap.size + 1) _ _ _ _ rfl (set4_at HB2.out.res _ _ _ _) Tryd.underlying23 rfl sz_q4) rfl ?_
  exact ⟨rfl, bel_set4 HB2.out.bel (Nat.le_succ _) _ _ _ _⟩
set_option maxHeartbeats 4000000 in
set_option maxRecDepth 100000 in
theorem pcheck_5 (db : Int) (nm pr : ByteArray) (po : Int) (h1 : ¬ db = 1) (h2 : ¬ db = 2) (h3 : ¬ db = 3) (h4 : ¬ db = 4) (w : World) (hs : nm.size ≤ 1000000) (hp : pr.size ≤ 1000000) (hl : LibAt w) :
    Calls Tryd.prog 8 #[.agg #[.int .i64 db, .string nm, .string pr, .int .i64 po]] w (PRes w (checkP ⟨db, nm, pr, po⟩).1 (checkP ⟨db, nm, pr, po⟩).2) := by
  have e : checkP ⟨db, nm, pr, po⟩ = (zQ, 7) := by
    unfold checkP
    rw [if_neg h1, if_neg h2, if_neg h3, if_neg h4]
  rw [e]
  have e1 : (db == 1) = false := by simpa using h1
  have e2 : (db == 2) = false := by simpa using h2
  have e3 : (db == 3) = false := by simpa using h3
  have e4 : (db == 4) = false := by simpa using h4
  clear h1 h2 h3 h4 hs hp hl e
  show Calls Tryd.prog 8 #[.agg #[.int .i64 db, .string nm, .string pr, .int .i64 po]] w fun e w' => e = .returned (.tuple #[.agg #[.int .i64 0, .string ⟨#[]⟩, .string ⟨#[]⟩, .int .i64 0], .iface 30 (.int .i64 7)]) ∧ Below w.heap.size w w'
  have HQ : Hid (∀ W, (w.alloc (.cells #[.int .i64 db, .string nm, .string pr, .int .i64 po] 23)).alloc (.cells #[.int .i64 0, .string ⟨#[]⟩, .string ⟨#[]⟩, .int .i64 0] 23) = W → QB w W ⟨db, nm, pr, po⟩) := Lib.hid (fun W hW => QB.made w _ W hW)
  go_enter Tryd.func8, Tryd.ntmps8
  go_upto_region 1 with (fail)
  obtain ⟨W, hW⟩ : ∃ W, (w.alloc (.cells #[.int .i64 db, .string nm, .string pr, .int .i64 po] 23)).alloc (.cells #[.int .i64 0, .string ⟨#[]⟩, .string ⟨#[]⟩, .int .i64 0] 23) = W := ⟨_, rfl⟩
  have HB := Lib.hid (HQ.out W hW)
  rw [hW]
  clear hW HQ
  obtain ⟨⟨a0, a1, a2, a3⟩, ⟨d0, d1, d2, d3⟩, ⟨g0, g1, g2, g3⟩⟩ := HB.out.facts
  go_wp2
  refine bodyPost_ret (results_row2 rfl _ _ (w.heap.size + 1) _ _ _ _ rfl (set4_at HB.out.res _ _ _ _) Tryd.underlying23 rfl sz_q4) rfl ?_
  exact ⟨rfl, bel_set4 HB.out.bel (Nat.le_succ _) _ _ _ _⟩
/-- The program's Check, whatever the query. -/
theorem pcheck_any (q : QryL) (w : World) (hs : q.name.size ≤ 1000000) (hp : q.proto.size ≤ 1000000) (hl : LibAt w) :
    Calls Tryd.prog 8 #[qV q] w (PRes w (checkP q).1 (checkP q).2) := by
  obtain ⟨db, nm, pr, po⟩ := q
  show Calls Tryd.prog 8 #[.agg #[.int .i64 db, .string nm, .string pr, .int .i64 po]] w _
  by_cases h1 : db = 1
  · subst h1; exact pcheck_1 nm pr po w hs hp hl
  by_cases h2 : db = 2
  · subst h2; exact pcheck_2 nm pr po w hs hp hl
  by_cases h3 : db = 3
  · subst h3; exact pcheck_3 nm pr po w hs hp hl
  by_cases h4 : db = 4
  · subst h4; exact pcheck_4 nm pr po w hs hp hl
  · exact pcheck_5 db nm pr po h1 h2 h3 h4 w hs hp hl
end Go.Proofs.YtaoapkbfcofamaaDoor

namespace Go.Proofs.YtaoapkbfcofamaaDoor
open Go.RowKit Go.Lib Go.Tx
theorem itoa_any (n : Int) (w : World) (h0 : 0 ≤ n) (h1 : n ≤ 100000) (h : PrAt w) : Calls Tryd.prog 24 #[.int .i64 n] w fun e w' => e = .returned (.string ⟨(Lib.itoa n).toArray⟩) ∧ Below w.heap.size w w' := by
  refine (Tryd.strconv_Itoa n (by omega) (by omega) w h.pow).mono ?_
  rintro e w' ⟨rfl, k, os, rfl⟩
  exact ⟨rfl, below_grow w k os⟩
theorem itoa_short (n : Int) (h0 : 0 ≤ n) (h1 : n ≤ 100000) : (Lib.itoa n).length ≤ 900 := by
  unfold Lib.itoa
  rw [if_neg (by omega)]
  have := dec_len 5 n.toNat (by omega)
  omega
/-- What Check gives is no longer than what it was given. -/
theorem check_small (q : QryL) : (checkP q).1.name.size ≤ q.name.size ∧ (checkP q).1.proto.size ≤ q.proto.size := by
  have hf : (foldS q.proto).size = q.proto.size := by
    show (foldS q.proto).data.toList.length = q.proto.data.toList.length
    rw [foldS_list, List.length_map]
  have ha : (askS q.name).size ≤ q.name.size := by
    show (askS q.name).data.toList.length ≤ q.name.data.toList.length
    cases hr : isRoot q.name.data.toList with
    | true =>
      rw [askS_root hr]
      have := congrArg List.length (bare_root hr)
      simp only [List.length_append, List.length_map, List.length_singleton] at this ⊢
      omega
    | false => rw [askS_not hr, List.length_map]; exact Nat.le_refl _
  rcases check_ways q with (e | e) | ⟨_, e⟩ | ⟨_, e⟩ | ⟨_, _, e⟩ | ⟨_, _, e⟩ <;> rw [e]
  · exact ⟨Nat.zero_le _, Nat.zero_le _⟩
  · exact ⟨Nat.zero_le _, Nat.zero_le _⟩
  · exact ⟨ha, Nat.zero_le _⟩
  · exact ⟨Nat.le_refl _, Nat.zero_le _⟩
  · exact ⟨Nat.le_refl _, Nat.le_of_eq hf⟩
  · exact ⟨Nat.zero_le _, Nat.le_of_eq hf⟩
theorem neq_nil (w : World) : (binOp .neq 27 .nilIface .nilIface).run Tryd.prog w = .ok (.bool false) w := by kernel_rfl
theorem neq_code (c : Int) (w : World) : (binOp .neq 27 (.iface 30 (.int .i64 c)) .nilIface).run Tryd.prog w = .ok (.bool true) w := by kernel_rfl
/-- A block of a query held while calls make memory. -/
abbrev KS (w0 : World) (b : Nat) (r0 : Int) (r1 r2 : ByteArray) (r3 : Int) (W : World) : Prop :=
  (W.cell? ⟨b, 0, none⟩ = some (.int .i64 r0) ∧ W.cell? ⟨b, 1, none⟩ = some (.string r1) ∧ W.cell? ⟨b, 2, none⟩ = some (.string r2) ∧ W.cell? ⟨b, 3, none⟩ = some (.int .i64 r3)) ∧ b < W.heap.size ∧ Below w0.heap.size w0 W
theorem KS.below {w0 W W' : World} {b : Nat} {r0 r3 : Int} {r1 r2 : ByteArray} (h : KS w0 b r0 r1 r2 r3 W) (hb : Below W.heap.size W W') : KS w0 b r0 r1 r2 r3 W' := by
  obtain ⟨⟨h0, h1, h2, h3⟩, hl, hw⟩ := h
  exact ⟨⟨by rw [hb.cell (p := ⟨b, 0, none⟩) hl]; exact h0, by rw [hb.cell (p := ⟨b, 1, none⟩) hl]; exact h1, by rw [hb.cell (p := ⟨b, 2, none⟩) hl]; exact h2, by rw [hb.cell (p := ⟨b, 3, none⟩) hl]; exact h3⟩, Nat.lt_of_lt_of_le hl hb.size, keepE hw hb⟩
theorem KS.alloc {w0 W : World} {b : Nat} {r0 r3 : Int} {r1 r2 : ByteArray} (h : KS w0 b r0 r1 r2 r3 W) (o : Obj) : KS w0 b r0 r1 r2 r3 (W.alloc o) := h.below (al_bel W o)
theorem KS.drew {w0 W : World} {b : Nat} {r0 r3 : Int} {r1 r2 : ByteArray} (h : KS w0 b r0 r1 r2 r3 W) : KS w0 b r0 r1 r2 r3 W.drew := ⟨h.1, h.2.1, h.2.2.drew⟩
/-- The row of four texts, made and not yet written. -/
def ZR (w0 : World) (b : Nat) (V : World) (g : Nat) : Prop := V.heap[g]? = some (.cells #[.string ⟨#[]⟩, .string ⟨#[]⟩, .string ⟨#[]⟩, .string ⟨#[]⟩] 51 (0, 0)) ∧ b < g ∧ w0.heap.size ≤ g
theorem ZR.new {w0 W : World} {b : Nat} {r0 r3 : Int} {r1 r2 : ByteArray} (h : KS w0 b r0 r1 r2 r3 W) : ZR w0 b (W.alloc (.cells #[.string ⟨#[]⟩, .string ⟨#[]⟩, .string ⟨#[]⟩, .string ⟨#[]⟩] 51)) W.heap.size :=
  ⟨heap_alloc_new W _, h.2.1, h.2.2.size⟩
theorem ZR.below {w0 V V' : World} {b g : Nat} (h : ZR w0 b V g) (hb : Below V.heap.size V V') : ZR w0 b V' g := ⟨(hb.block _ (lt_of h.1)).trans h.1, h.2⟩
theorem ZR.facts {w0 V : World} {b g : Nat} (h : ZR w0 b V g) : (V.cell? ⟨g, 0, none⟩ = some (.string ⟨#[]⟩) ∧ V.cell? ⟨g, 1, none⟩ = some (.string ⟨#[]⟩) ∧ V.cell? ⟨g, 2, none⟩ = some (.string ⟨#[]⟩) ∧ V.cell? ⟨g, 3, none⟩ = some (.string ⟨#[]⟩)) ∧
    (V.frozen? ⟨g, 0, none⟩ = false ∧ V.frozen? ⟨g, 1, none⟩ = false ∧ V.frozen? ⟨g, 2, none⟩ = false ∧ V.frozen? ⟨g, 3, none⟩ = false) :=
  ⟨⟨cellJ h.1 rfl, cellJ h.1 rfl, cellJ h.1 rfl, cellJ h.1 rfl⟩, ⟨freeJ h.1 0, freeJ h.1 1, freeJ h.1 2, freeJ h.1 3⟩⟩
theorem KS.set4 {w0 V : World} {b g : Nat} {r0 r3 : Int} {r1 r2 : ByteArray} (h : KS w0 b r0 r1 r2 r3 V) (hz : ZR w0 b V g) (x0 x1 x2 x3 : Value) : KS w0 b r0 r1 r2 r3 ((((V.setCell ⟨g, 0, none⟩ x0).setCell ⟨g, 1, none⟩ x1).setCell ⟨g, 2, none⟩ x2).setCell ⟨g, 3, none⟩ x3) := by
  have hn := set4_ne (w := V) (b := g) (c := b) (by have := hz.2.1; omega) x0 x1 x2 x3
  obtain ⟨⟨h0, h1, h2, h3⟩, hl, hw⟩ := h
  have hc : ∀ j, ((((V.setCell ⟨g, 0, none⟩ x0).setCell ⟨g, 1, none⟩ x1).setCell ⟨g, 2, none⟩ x2).setCell ⟨g, 3, none⟩ x3).cell? ⟨b, j, none⟩ = V.cell? ⟨b, j, none⟩ := fun j => by
    unfold World.cell?
    rw [hn]
  refine ⟨⟨(hc 0).trans h0, (hc 1).trans h1, (hc 2).trans h2, (hc 3).trans h3⟩, ?_, bel_set4 hw hz.2.2 _ _ _ _⟩
  have := (bel_set4 (Below.refl b V) (Nat.le_of_lt hz.2.1) x0 x1 x2 x3).size
  omega
/-- Four texts in a row. -/
theorem join4 (W : World) (g : Nat) (a b c d : List UInt8) (ha : a.length ≤ 900) (hb : b.length ≤ 900) (hc : c.length ≤ 900) (hd : d.length ≤ 900) (t : TypeId) (fr : Nat × Nat)
    (h : W.heap[g]? = some (.cells #[.string ⟨a.toArray⟩, .string ⟨b.toArray⟩, .string ⟨c.toArray⟩, .string ⟨d.toArray⟩] t fr)) :
    Calls Tryd.prog 25 #[.slice (some ⟨g, 0, none⟩) 4 4, .string ⟨#[47]⟩] W fun e w' => e = .returned (.string ⟨(Lib.join [a, b, c, d] [47]).toArray⟩) ∧ Below W.heap.size W w' := by
  have := join_arr W g 0 4 [a, b, c, d] 47 900 (fun x hx => by
    simp only [List.mem_cons, List.not_mem_nil, or_false] at hx
    rcases hx with rfl | rfl | rfl | rfl <;> assumption) (by omega) (by simp) (by simp) (lt_of h) (fun j x hx => by
      match j, hx with
      | 0, hx => cases hx; exact cellJ h rfl
      | 1, hx => cases hx; exact cellJ h rfl
      | 2, hx => cases hx; exact cellJ h rfl
      | 3, hx => cases hx; exact cellJ h rfl
      | j + 4, hx => simp at hx)
  exact this
set_option maxHeartbeats 4000000 in
set_option maxRecDepth 100000 in
theorem key_bad (db : Int) (nm pr : ByteArray) (po : Int) (w : World) (hc : (checkP ⟨db, nm, pr, po⟩).2 ≠ 0) (hs : nm.size ≤ 900) (hp : pr.size ≤ 900) (hl : LibAt w) :
    Calls Tryd.prog 12 #[.agg #[.int .i64 db, .string nm, .string pr, .int .i64 po]] w fun e w' => e = .returned (.string ⟨#[]⟩) ∧ Below w.heap.size w w' := by
  have HC : Hid (∀ W, Below w.heap.size w W → Calls Tryd.prog 8 #[.agg #[.int .i64 db, .string nm, .string pr, .int .i64 po]] W (PRes W (checkP ⟨db, nm, pr, po⟩).1 (checkP ⟨db, nm, pr, po⟩).2)) := Lib.hid (fun W hb => pcheck_any ⟨db, nm, pr, po⟩ W (by show nm.size ≤ 1000000; omega) (by show pr.size ≤ 1000000; omega) (hl.below hb))
  obtain ⟨R, hR⟩ : ∃ R, checkP ⟨db, nm, pr, po⟩ = R := ⟨_, rfl⟩
  rw [hR] at HC hc
  clear hR hs hp hl
  obtain ⟨⟨r0, r1, r2, r3⟩, c⟩ := R
  unfold PRes qV qC errQ at HC
  simp only at HC hc
  rw [if_neg hc] at HC
  clear hc
  have hq := neq_code c
  have HQ : Hid (∀ W, w.alloc (.cells #[.int .i64 db, .string nm, .string pr, .int .i64 po] 23) = W → (W.cell? ⟨w.heap.size, 0, none⟩ = some (.int .i64 db) ∧ W.cell? ⟨w.heap.size, 1, none⟩ = some (.string nm) ∧ W.cell? ⟨w.heap.size, 2, none⟩ = some (.string pr) ∧ W.cell? ⟨w.heap.size, 3, none⟩ = some (.int .i64 po)) ∧ Below w.heap.size w W) := Lib.hid (fun W hW => by
    subst hW
    have h := heap_alloc_new w (.cells #[.int .i64 db, .string nm, .string pr, .int .i64 po] 23)
    exact ⟨⟨cellJ h rfl, cellJ h rfl, cellJ h rfl, cellJ h rfl⟩, al_bel w _⟩)
  go_enter Tryd.func12, Tryd.ntmps12
  go_upto_region 1 with (fail)
  obtain ⟨W, hW⟩ : ∃ W, w.alloc (.cells #[.int .i64 db, .string nm, .string pr, .int .i64 po] 23) = W := ⟨_, rfl⟩
  obtain ⟨⟨a0, a1, a2, a3⟩, hbel⟩ := HQ.out W hW
  have HB := Lib.hid hbel
  rw [hW]
  clear hW HQ hbel
  go_wp2_with (go_at_call 8; refine (HC.out _ HB.out).mono ?_; rintro e w2 ⟨rfl, hb⟩; have HB2 := Lib.hid (keepE HB.out hb); clear hb)
  go_ret
  exact ⟨rfl, HB2.out.alloc HB2.out.size _⟩
set_option maxHeartbeats 4000000 in
set_option maxRecDepth 100000 in
theorem key_good (db : Int) (nm pr : ByteArray) (po : Int) (w : World) (hc : (checkP ⟨db, nm, pr, po⟩).2 = 0) (hs : nm.size ≤ 900) (hp : pr.size ≤ 900) (hl : LibAt w) :
    Calls Tryd.prog 12 #[.agg #[.int .i64 db, .string nm, .string pr, .int .i64 po]] w fun e w' => e = .returned (.string ⟨(Lib.join (partsK (checkP ⟨db, nm, pr, po⟩).1) [47]).toArray⟩) ∧ Below w.heap.size w w' := by
  have HC : Hid (∀ W, Below w.heap.size w W → Calls Tryd.prog 8 #[.agg #[.int .i64 db, .string nm, .string pr, .int .i64 po]] W (PRes W (checkP ⟨db, nm, pr, po⟩).1 (checkP ⟨db, nm, pr, po⟩).2)) := Lib.hid (fun W hb => pcheck_any ⟨db, nm, pr, po⟩ W (by show nm.size ≤ 1000000; omega) (by show pr.size ≤ 1000000; omega) (hl.below hb))
  obtain ⟨hs1, hs2⟩ := check_small ⟨db, nm, pr, po⟩
  obtain ⟨_, ⟨hd1, hd2⟩, ⟨hp1, hp2⟩, _⟩ := check_again ⟨db, nm, pr, po⟩ hc
  obtain ⟨R, hR⟩ : ∃ R, checkP ⟨db, nm, pr, po⟩ = R := ⟨_, rfl⟩
  rw [hR] at HC hc hs1 hs2 hd1 hd2 hp1 hp2 ⊢
  clear hR
  obtain ⟨⟨r0, r1, r2, r3⟩, c⟩ := R
  unfold PRes qV qC errQ at HC
  unfold partsK
  simp only at HC hc hs1 hs2 hd1 hd2 hp1 hp2 ⊢
  subst hc
  rw [if_pos rfl] at HC
  have HI : Hid (∀ (n : Int) W, (n = r0 ∨ n = r3) → Below w.heap.size w W → Calls Tryd.prog 24 #[.int .i64 n] W fun e w' => e = .returned (.string ⟨(Lib.itoa n).toArray⟩) ∧ Below W.heap.size W w') := Lib.hid (fun n W hn hb => itoa_any n W (by omega) (by omega) (hl.pr.below hb))
  have HJ : Hid (∀ W g t fr, W.heap[g]? = some (.cells #[.string ⟨(Lib.itoa r0).toArray⟩, .string ⟨(Lib.itoa r3).toArray⟩, .string r2, .string r1] t fr) → Calls Tryd.prog 25 #[.slice (some ⟨g, 0, none⟩) 4 4, .string ⟨#[47]⟩] W fun e w' => e = .returned (.string ⟨(Lib.join [Lib.itoa r0, Lib.itoa r3, r2.data.toList, r1.data.toList] [47]).toArray⟩) ∧ Below W.heap.size W w') := Lib.hid (fun W g t fr h => join4 W g _ _ _ _ (itoa_short r0 (by omega) (by omega)) (itoa_short r3 (by omega) (by omega)) (by show r2.size ≤ 900; omega) (by show r1.size ≤ 900; omega) t fr h)
  clear hs1 hs2 hd1 hd2 hp1 hp2 hs hp hl
  generalize (⟨(Lib.join [Lib.itoa r0, Lib.itoa r3, r2.data.toList, r1.data.toList] [47]).toArray⟩ : ByteArray) = R at *
  have hq := neq_nil
  have HQ : Hid (∀ W, w.alloc (.cells #[.int .i64 db, .string nm, .string pr, .int .i64 po] 23) = W → (W.cell? ⟨w.heap.size, 0, none⟩ = some (.int .i64 db) ∧ W.cell? ⟨w.heap.size, 1, none⟩ = some (.string nm) ∧ W.cell? ⟨w.heap.size, 2, none⟩ = some (.string pr) ∧ W.cell? ⟨w.heap.size, 3, none⟩ = some (.int .i64 po)) ∧ Below w.heap.size w W) := Lib.hid (fun W hW => by
    subst hW
    have h := heap_alloc_new w (.cells #[.int .i64 db, .string nm, .string pr, .int .i64 po] 23)
    exact ⟨⟨cellJ h rfl, cellJ h rfl, cellJ h rfl, cellJ h rfl⟩, al_bel w _⟩)
  have HK : Hid (∀ w2 W, Below w.heap.size w w2 → w2.alloc (.cells #[.int .i64 r0, .string r1, .string r2, .int .i64 r3] 23) = W → KS w w2.heap.size r0 r1 r2 r3 W) := Lib.hid (fun w2 W hb hW => by
    subst hW
    have h := heap_alloc_new w2 (.cells #[.int .i64 r0, .string r1, .string r2, .int .i64 r3] 23)
    exact ⟨⟨cellJ h rfl, cellJ h rfl, cellJ h rfl, cellJ h rfl⟩, lt_of h, keepE hb (al_bel w2 _)⟩)
  go_enter Tryd.func12, Tryd.ntmps12
  go_upto_region 1 with (fail)
  obtain ⟨W, hW⟩ : ∃ W, w.alloc (.cells #[.int .i64 db, .string nm, .string pr, .int .i64 po] 23) = W := ⟨_, rfl⟩
  obtain ⟨⟨a0, a1, a2, a3⟩, hbel⟩ := HQ.out W hW
  have HB := Lib.hid hbel
  rw [hW]
  clear hW HQ hbel
  go_upto_region 4 with (go_at_call 8; refine (HC.out _ HB.out).mono ?_; rintro e w2 ⟨rfl, hb⟩; have HB2 := Lib.hid (keepE HB.out hb); clear hb)
  obtain ⟨W2, hW2⟩ : ∃ W2, w2.alloc (.cells #[.int .i64 r0, .string r1, .string r2, .int .i64 r3] 23) = W2 := ⟨_, rfl⟩
  have hks := HK.out w2 W2 HB2.out hW2
  rw [hW2]
  clear hW2 HK HC
  have hk0 := Lib.hid (KS.drew hks)
  refine wp_region_held_drew (S := fun V => (V.cell? ⟨w2.heap.size, 0, none⟩ = some (.int .i64 r0) ∧ V.cell? ⟨w2.heap.size, 1, none⟩ = some (.string r1) ∧ V.cell? ⟨w2.heap.size, 2, none⟩ = some (.string r2) ∧ V.cell? ⟨w2.heap.size, 3, none⟩ = some (.int .i64 r3)) ∧ w2.heap.size < V.heap.size ∧ Below w.heap.size w V) (by kernel_rfl) (hk0.out) (fun hHeld => ?_)
  try simp only [Act.put, List.setIfInBounds_toArray, List.set_cons_zero, List.set_cons_succ]
  clear hHeld
  obtain ⟨V0, hV0⟩ : ∃ V, W2.drew = V := ⟨_, rfl⟩
  rw [hV0] at hk0 ⊢
  have hHeld := hk0.out
  clear hV0
  refine wpAnyH_take (i := 0) (oi := { dst := some 13, op := Op.fieldAddr 23 (Operand.tmp 3) 0, type := 0, pos := "query.go:89", after := #[], guard := none }) (v := ?_) rfl (by kernel_rfl) (by kernel_rfl) (by kernel_rfl) (fun _ _ _ h => h) (Or.inl ⟨by rfl, ?_⟩) (by assumption) ?_
  rotate_left 1
  · (intro w hSw; (try dsimp only at hSw); go_simp; all_goals (first | with_reducible rfl | (simp; done)))
  try simp only [Act.put, List.setIfInBounds_toArray, List.set_cons_zero, List.set_cons_succ]
  refine wpAnyH_take (i := 1) (oi := { dst := some 14, op := Op.load 3 (Operand.tmp 13), type := 3, pos := "query.go:89", after := #[{ on := 0, ground := Ground.data }], guard := none }) (v := ?_) rfl (by kernel_rfl) (by kernel_rfl) (by kernel_rfl) (fun _ _ _ h => h) (Or.inl ⟨by rfl, ?_⟩) (by assumption) ?_
  rotate_left 1
  · (intro w hSw; (try dsimp only at hSw); go_simp; all_goals (first | with_reducible rfl | (simp; done)))
  try simp only [Act.put, List.setIfInBounds_toArray, List.set_cons_zero, List.set_cons_succ]
  refine wpAnyH_take (i := 3) (oi := { dst := some 16, op := Op.fieldAddr 23 (Operand.tmp 3) 3, type := 0, pos := "query.go:89", after := #[], guard := none }) (v := ?_) rfl (by kernel_rfl) (by kernel_rfl) (by kernel_rfl) (fun _ _ _ h => h) (Or.inl ⟨by rfl, ?_⟩) (by assumption) ?_
  rotate_left 1
  · (intro w hSw; (try dsimp only at hSw); go_simp; all_goals (first | with_reducible rfl | (simp; done)))
  try simp only [Act.put, List.setIfInBounds_toArray, List.set_cons_zero, List.set_cons_succ]
  refine wpAnyH_take (i := 4) (oi := { dst := some 17, op := Op.load 3 (Operand.tmp 16), type := 3, pos := "query.go:89", after := #[{ on := 3, ground := Ground.data }], guard := none }) (v := ?_) rfl (by kernel_rfl) (by kernel_rfl) (by kernel_rfl) (fun _ _ _ h => h) (Or.inl ⟨by rfl, ?_⟩) (by assumption) ?_
  rotate_left 1
  · (intro w hSw; (try dsimp only at hSw); go_simp; all_goals (first | with_reducible rfl | (simp; done)))
  try simp only [Act.put, List.setIfInBounds_toArray, List.set_cons_zero, List.set_cons_succ]
  refine wpAnyH_take (i := 6) (oi := { dst := some 19, op := Op.fieldAddr 23 (Operand.tmp 3) 2, type := 0, pos := "query.go:89", after := #[], guard := none }) (v := ?_) rfl (by kernel_rfl) (by kernel_rfl) (by kernel_rfl) (fun _ _ _ h => h) (Or.inl ⟨by rfl, ?_⟩) (by assumption) ?_
  rotate_left 1
  · (intro w hSw; (try dsimp only at hSw); go_simp; all_goals (first | with_reducible rfl | (simp; done)))
  try simp only [Act.put, List.setIfInBounds_toArray, List.set_cons_zero, List.set_cons_succ]
  refine wpAnyH_take (i := 7) (oi := { dst := some 20, op := Op.load 9 (Operand.tmp 19), type := 9, pos := "query.go:89", after := #[{ on := 6, ground := Ground.data }], guard := none }) (v := ?_) rfl (by kernel_rfl) (by kernel_rfl) (by kernel_rfl) (fun _ _ _ h => h) (Or.inl ⟨by rfl, ?_⟩) (by assumption) ?_
  rotate_left 1
  · (intro w hSw; (try dsimp only at hSw); go_simp; all_goals (first | with_reducible rfl | (simp; done)))
  try simp only [Act.put, List.setIfInBounds_toArray, List.set_cons_zero, List.set_cons_succ]
  refine wpAnyH_take (i := 8) (oi := { dst := some 21, op := Op.fieldAddr 23 (Operand.tmp 3) 1, type := 0, pos := "query.go:89", after := #[], guard := none }) (v := ?_) rfl (by kernel_rfl) (by kernel_rfl) (by kernel_rfl) (fun _ _ _ h => h) (Or.inl ⟨by rfl, ?_⟩) (by assumption) ?_
  rotate_left 1
  · (intro w hSw; (try dsimp only at hSw); go_simp; all_goals (first | with_reducible rfl | (simp; done)))
  try simp only [Act.put, List.setIfInBounds_toArray, List.set_cons_zero, List.set_cons_succ]
  refine wpAnyH_take (i := 9) (oi := { dst := some 22, op := Op.load 9 (Operand.tmp 21), type := 9, pos := "query.go:89", after := #[{ on := 8, ground := Ground.data }], guard := none }) (v := ?_) rfl (by kernel_rfl) (by kernel_rfl) (by kernel_rfl) (fun _ _ _ h => h) (Or.inl ⟨by rfl, ?_⟩) (by assumption) ?_
  rotate_left 1
  · (intro w hSw; (try dsimp only at hSw); go_simp; all_goals (first | with_reducible rfl | (simp; done)))
  try simp only [Act.put, List.setIfInBounds_toArray, List.set_cons_zero, List.set_cons_succ]
  refine wpAnyH_ready (rs := [2, 11]) (by kernel_rfl) (by simp) ?_
  refine (AllReadyH.cons (o := { dst := some 15, op := Op.call { callee := Callee.value (Operand.func 24), args := #[Operand.tmp 14], argTypes := #[3] }, type := 9, pos := "query.go:89", after := #[{ on := 1, ground := Ground.data }], guard := none }) rfl (fun K hK => ?_) (AllReadyH.cons (o := { dst := some 5, op := Op.alloc 51, type := 0, pos := "query.go:89", after := #[], guard := none }) rfl (fun K hK => ?_) AllReadyH.nil))
  · skip
    go_simp
    go_at_call 24
    refine (HI.out _ _ (.inl rfl) hk0.out.2.2).mono ?_
    rintro e V1 ⟨rfl, hb1⟩
    have hk1 := Lib.hid (KS.below hk0.out hb1)
    clear hb1
    try go_wp2_with fail
    refine hK.out _ _ ?_ (fun hHeld => ?_)
    · ((try dsimp only); exact hk1.out)
    clear hK K
    try simp only [Act.put, List.setIfInBounds_toArray, List.set_cons_zero, List.set_cons_succ]
    refine wpAnyH_ready (rs := [5, 11]) (by kernel_rfl) (by simp) ?_
    refine (AllReadyH.cons (o := { dst := some 18, op := Op.call { callee := Callee.value (Operand.func 24), args := #[Operand.tmp 17], argTypes := #[3] }, type := 9, pos := "query.go:89", after := #[{ on := 4, ground := Ground.data }, { on := 2, ground := Ground.chain }], guard := none }) rfl (fun K hK => ?_) (AllReadyH.cons (o := { dst := some 5, op := Op.alloc 51, type := 0, pos := "query.go:89", after := #[], guard := none }) rfl (fun K hK => ?_) AllReadyH.nil))
    · skip
      go_simp
      go_at_call 24
      refine (HI.out _ _ (.inr rfl) hk1.out.2.2).mono ?_
      rintro e V2 ⟨rfl, hb2⟩
      have hk2 := Lib.hid (KS.below hk1.out hb2)
      clear hb2
      try go_wp2_with fail
      refine hK.out _ _ ?_ (fun hHeld => ?_)
      · ((try dsimp only); exact hk2.out)
      clear hK K
      try simp only [Act.put, List.setIfInBounds_toArray, List.set_cons_zero, List.set_cons_succ]
      refine wpAnyH_take (i := 10) (oi := { dst := some 23, op := Op.build 51 #[(0, Operand.tmp 15), (1, Operand.tmp 18), (2, Operand.tmp 20), (3, Operand.tmp 22)], type := 51, pos := "query.go:89", after := #[{ on := 2, ground := Ground.data }, { on := 5, ground := Ground.data }, { on := 7, ground := Ground.data }, { on := 9, ground := Ground.data }], guard := none }) (v := ?_) rfl (by kernel_rfl) (by kernel_rfl) (by kernel_rfl) (fun _ _ _ h => h) (Or.inl ⟨by rfl, ?_⟩) (by assumption) ?_
      rotate_left 1
      · (intro w hSw; (try dsimp only at hSw); go_simp; all_goals (first | with_reducible rfl | (simp; done)))
      try simp only [Act.put, List.setIfInBounds_toArray, List.set_cons_zero, List.set_cons_succ]
      refine wpAnyH_ready (rs := [11]) (by kernel_rfl) (by simp) ?_
      refine (AllReadyH.cons (o := { dst := some 5, op := Op.alloc 51, type := 0, pos := "query.go:89", after := #[], guard := none }) rfl (fun K hK => ?_) AllReadyH.nil)
      · skip
        have hz3 := Lib.hid (ZR.new hk2.out)
        have hk3 := Lib.hid (KS.alloc hk2.out (.cells #[.string ⟨#[]⟩, .string ⟨#[]⟩, .string ⟨#[]⟩, .string ⟨#[]⟩] 51))
        go_simp
        obtain ⟨V3, hV⟩ : ∃ V, World.alloc V2 (.cells #[.string ⟨#[]⟩, .string ⟨#[]⟩, .string ⟨#[]⟩, .string ⟨#[]⟩] 51) = V := ⟨_, rfl⟩
        rw [hV] at hz3 hk3
        rw [hV]
        clear hV
        refine hK.out _ _ ?_ (fun hHeld => ?_)
        · ((try dsimp only); exact hk3.out)
        clear hK K
        try dsimp only at hHeld
        try simp only [Act.put, List.setIfInBounds_toArray, List.set_cons_zero, List.set_cons_succ]
        refine wpAnyH_ready (rs := [12]) (by kernel_rfl) (by simp) ?_
        refine (AllReadyH.cons (o := { dst := none, op := Op.store 51 (Operand.tmp 5) (Operand.tmp 23), type := 0, pos := "query.go:89", after := #[{ on := 11, ground := Ground.data }, { on := 10, ground := Ground.data }, { on := 5, ground := Ground.chain }, { on := 0, ground := Ground.phase }, { on := 1, ground := Ground.phase }, { on := 2, ground := Ground.phase }, { on := 3, ground := Ground.phase }, { on := 4, ground := Ground.phase }, { on := 5, ground := Ground.phase }, { on := 6, ground := Ground.phase }, { on := 7, ground := Ground.phase }, { on := 8, ground := Ground.phase }, { on := 9, ground := Ground.phase }, { on := 10, ground := Ground.phase }, { on := 11, ground := Ground.phase }], guard := none }) rfl (fun K hK => ?_) AllReadyH.nil)
        · skip
          obtain ⟨⟨z0, z1, z2, z3⟩, ⟨y0, y1, y2, y3⟩⟩ := hz3.out.facts
          go_simp
          refine hK.out _ _ ?_ (fun hHeld => ?_)
          · ((try dsimp only); exact KS.set4 hk3.out hz3.out _ _ _ _)
          clear hK K
          try simp only [Act.put, List.setIfInBounds_toArray, List.set_cons_zero, List.set_cons_succ]
          refine wpAnyH_done (by kernel_rfl) ?_ _
          go_wp2_with (go_at_call 25; refine (HJ.out _ _ _ _ (set4_at hz3.out.1 _ _ _ _)).mono ?_; rintro e w5 ⟨rfl, hb5⟩)
          go_ret
          exact ⟨rfl, keepE (bel_set4 hk3.out.2.2 hz3.out.2.2 _ _ _ _) hb5⟩
    · skip
      have hz5 := Lib.hid (ZR.new hk1.out)
      have hk5 := Lib.hid (KS.alloc hk1.out (.cells #[.string ⟨#[]⟩, .string ⟨#[]⟩, .string ⟨#[]⟩, .string ⟨#[]⟩] 51))
      go_simp
      obtain ⟨V5, hV⟩ : ∃ V, World.alloc V1 (.cells #[.string ⟨#[]⟩, .string ⟨#[]⟩, .string ⟨#[]⟩, .string ⟨#[]⟩] 51) = V := ⟨_, rfl⟩
      rw [hV] at hz5 hk5
      rw [hV]
      clear hV
      refine hK.out _ _ ?_ (fun hHeld => ?_)
      · ((try dsimp only); exact hk5.out)
      clear hK K
      try dsimp only at hHeld
      try simp only [Act.put, List.setIfInBounds_toArray, List.set_cons_zero, List.set_cons_succ]
      refine wpAnyH_ready (rs := [5]) (by kernel_rfl) (by simp) ?_
      refine (AllReadyH.cons (o := { dst := some 18, op := Op.call { callee := Callee.value (Operand.func 24), args := #[Operand.tmp 17], argTypes := #[3] }, type := 9, pos := "query.go:89", after := #[{ on := 4, ground := Ground.data }, { on := 2, ground := Ground.chain }], guard := none }) rfl (fun K hK => ?_) AllReadyH.nil)
      · skip
        go_simp
        go_at_call 24
        refine (HI.out _ _ (.inr rfl) hk5.out.2.2).mono ?_
        rintro e V6 ⟨rfl, hb6⟩
        have hk6 := Lib.hid (KS.below hk5.out hb6)
        have hz6 := Lib.hid (ZR.below hz5.out hb6)
        clear hb6
        try go_wp2_with fail
        refine hK.out _ _ ?_ (fun hHeld => ?_)
        · ((try dsimp only); exact hk6.out)
        clear hK K
        try simp only [Act.put, List.setIfInBounds_toArray, List.set_cons_zero, List.set_cons_succ]
        refine wpAnyH_take (i := 10) (oi := { dst := some 23, op := Op.build 51 #[(0, Operand.tmp 15), (1, Operand.tmp 18), (2, Operand.tmp 20), (3, Operand.tmp 22)], type := 51, pos := "query.go:89", after := #[{ on := 2, ground := Ground.data }, { on := 5, ground := Ground.data }, { on := 7, ground := Ground.data }, { on := 9, ground := Ground.data }], guard := none }) (v := ?_) rfl (by kernel_rfl) (by kernel_rfl) (by kernel_rfl) (fun _ _ _ h => h) (Or.inl ⟨by rfl, ?_⟩) (by assumption) ?_
        rotate_left 1
        · (intro w hSw; (try dsimp only at hSw); go_simp; all_goals (first | with_reducible rfl | (simp; done)))
        try simp only [Act.put, List.setIfInBounds_toArray, List.set_cons_zero, List.set_cons_succ]
        refine wpAnyH_ready (rs := [12]) (by kernel_rfl) (by simp) ?_
        refine (AllReadyH.cons (o := { dst := none, op := Op.store 51 (Operand.tmp 5) (Operand.tmp 23), type := 0, pos := "query.go:89", after := #[{ on := 11, ground := Ground.data }, { on := 10, ground := Ground.data }, { on := 5, ground := Ground.chain }, { on := 0, ground := Ground.phase }, { on := 1, ground := Ground.phase }, { on := 2, ground := Ground.phase }, { on := 3, ground := Ground.phase }, { on := 4, ground := Ground.phase }, { on := 5, ground := Ground.phase }, { on := 6, ground := Ground.phase }, { on := 7, ground := Ground.phase }, { on := 8, ground := Ground.phase }, { on := 9, ground := Ground.phase }, { on := 10, ground := Ground.phase }, { on := 11, ground := Ground.phase }], guard := none }) rfl (fun K hK => ?_) AllReadyH.nil)
        · skip
          obtain ⟨⟨z0, z1, z2, z3⟩, ⟨y0, y1, y2, y3⟩⟩ := hz6.out.facts
          go_simp
          refine hK.out _ _ ?_ (fun hHeld => ?_)
          · ((try dsimp only); exact KS.set4 hk6.out hz6.out _ _ _ _)
          clear hK K
          try simp only [Act.put, List.setIfInBounds_toArray, List.set_cons_zero, List.set_cons_succ]
          refine wpAnyH_done (by kernel_rfl) ?_ _
          go_wp2_with (go_at_call 25; refine (HJ.out _ _ _ _ (set4_at hz6.out.1 _ _ _ _)).mono ?_; rintro e w5 ⟨rfl, hb5⟩)
          go_ret
          exact ⟨rfl, keepE (bel_set4 hk6.out.2.2 hz6.out.2.2 _ _ _ _) hb5⟩
  · skip
    have hz8 := Lib.hid (ZR.new hk0.out)
    have hk8 := Lib.hid (KS.alloc hk0.out (.cells #[.string ⟨#[]⟩, .string ⟨#[]⟩, .string ⟨#[]⟩, .string ⟨#[]⟩] 51))
    go_simp
    obtain ⟨V8, hV⟩ : ∃ V, World.alloc V0 (.cells #[.string ⟨#[]⟩, .string ⟨#[]⟩, .string ⟨#[]⟩, .string ⟨#[]⟩] 51) = V := ⟨_, rfl⟩
    rw [hV] at hz8 hk8
    rw [hV]
    clear hV
    refine hK.out _ _ ?_ (fun hHeld => ?_)
    · ((try dsimp only); exact hk8.out)
    clear hK K
    try dsimp only at hHeld
    try simp only [Act.put, List.setIfInBounds_toArray, List.set_cons_zero, List.set_cons_succ]
    refine wpAnyH_ready (rs := [2]) (by kernel_rfl) (by simp) ?_
    refine (AllReadyH.cons (o := { dst := some 15, op := Op.call { callee := Callee.value (Operand.func 24), args := #[Operand.tmp 14], argTypes := #[3] }, type := 9, pos := "query.go:89", after := #[{ on := 1, ground := Ground.data }], guard := none }) rfl (fun K hK => ?_) AllReadyH.nil)
    · skip
      go_simp
      go_at_call 24
      refine (HI.out _ _ (.inl rfl) hk8.out.2.2).mono ?_
      rintro e V9 ⟨rfl, hb9⟩
      have hk9 := Lib.hid (KS.below hk8.out hb9)
      have hz9 := Lib.hid (ZR.below hz8.out hb9)
      clear hb9
      try go_wp2_with fail
      refine hK.out _ _ ?_ (fun hHeld => ?_)
      · ((try dsimp only); exact hk9.out)
      clear hK K
      try simp only [Act.put, List.setIfInBounds_toArray, List.set_cons_zero, List.set_cons_succ]
      refine wpAnyH_ready (rs := [5]) (by kernel_rfl) (by simp) ?_
      refine (AllReadyH.cons (o := { dst := some 18, op := Op.call { callee := Callee.value (Operand.func 24), args := #[Operand.tmp 17], argTypes := #[3] }, type := 9, pos := "query.go:89", after := #[{ on := 4, ground := Ground.data }, { on := 2, ground := Ground.chain }], guard := none }) rfl (fun K hK => ?_) AllReadyH.nil)
      · skip
        go_simp
        go_at_call 24
        refine (HI.out _ _ (.inr rfl) hk9.out.2.2).mono ?_
        rintro e V10 ⟨rfl, hb10⟩
        have hk10 := Lib.hid (KS.below hk9.out hb10)
        have hz10 := Lib.hid (ZR.below hz9.out hb10)
        clear hb10
        try go_wp2_with fail
        refine hK.out _ _ ?_ (fun hHeld => ?_)
        · ((try dsimp only); exact hk10.out)
        clear hK K
        try simp only [Act.put, List.setIfInBounds_toArray, List.set_cons_zero, List.set_cons_succ]
        refine wpAnyH_take (i := 10) (oi := { dst := some 23, op := Op.build 51 #[(0, Operand.tmp 15), (1, Operand.tmp 18), (2, Operand.tmp 20), (3, Operand.tmp 22)], type := 51, pos := "query.go:89", after := #[{ on := 2, ground := Ground.data }, { on := 5, ground := Ground.data }, { on := 7, ground := Ground.data }, { on := 9, ground := Ground.data }], guard := none }) (v := ?_) rfl (by kernel_rfl) (by kernel_rfl) (by kernel_rfl) (fun _ _ _ h => h) (Or.inl ⟨by rfl, ?_⟩) (by assumption) ?_
        rotate_left 1
        · (intro w hSw; (try dsimp only at hSw); go_simp; all_goals (first | with_reducible rfl | (simp; done)))
        try simp only [Act.put, List.setIfInBounds_toArray, List.set_cons_zero, List.set_cons_succ]
        refine wpAnyH_ready (rs := [12]) (by kernel_rfl) (by simp) ?_
        refine (AllReadyH.cons (o := { dst := none, op := Op.store 51 (Operand.tmp 5) (Operand.tmp 23), type := 0, pos := "query.go:89", after := #[{ on := 11, ground := Ground.data }, { on := 10, ground := Ground.data }, { on := 5, ground := Ground.chain }, { on := 0, ground := Ground.phase }, { on := 1, ground := Ground.phase }, { on := 2, ground := Ground.phase }, { on := 3, ground := Ground.phase }, { on := 4, ground := Ground.phase }, { on := 5, ground := Ground.phase }, { on := 6, ground := Ground.phase }, { on := 7, ground := Ground.phase }, { on := 8, ground := Ground.phase }, { on := 9, ground := Ground.phase }, { on := 10, ground := Ground.phase }, { on := 11, ground := Ground.phase }], guard := none }) rfl (fun K hK => ?_) AllReadyH.nil)
        · skip
          obtain ⟨⟨z0, z1, z2, z3⟩, ⟨y0, y1, y2, y3⟩⟩ := hz10.out.facts
          go_simp
          refine hK.out _ _ ?_ (fun hHeld => ?_)
          · ((try dsimp only); exact KS.set4 hk10.out hz10.out _ _ _ _)
          clear hK K
          try simp only [Act.put, List.setIfInBounds_toArray, List.set_cons_zero, List.set_cons_succ]
          refine wpAnyH_done (by kernel_rfl) ?_ _
          go_wp2_with (go_at_call 25; refine (HJ.out _ _ _ _ (set4_at hz10.out.1 _ _ _ _)).mono ?_; rintro e w5 ⟨rfl, hb5⟩)
          go_ret
          exact ⟨rfl, keepE (bel_set4 hk10.out.2.2 hz10.out.2.2 _ _ _ _) hb5⟩
theorem key_any (q : QryL) (w : World) (hs : q.name.size ≤ 900) (hp : q.proto.size ≤ 900) (hl : LibAt w) :
    Calls Tryd.prog 12 #[qV q] w fun e w' => e = .returned (.string ⟨(keyL q).toArray⟩) ∧ Below w.heap.size w w' := by
  obtain ⟨db, nm, pr, po⟩ := q
  unfold keyL
  by_cases hc : (checkP ⟨db, nm, pr, po⟩).2 = 0
  · rw [if_pos hc]
    exact key_good db nm pr po w hc hs hp hl
  · rw [if_neg hc]
    exact key_bad db nm pr po w hc hs hp hl
end Go.Proofs.YtaoapkbfcofamaaDoor

namespace Go.Proofs.YtaoapkbfcofamaaDoor
open Go.RowKit Go.Lib Go.Tx
theorem num_len (s : ByteArray) (m : Int) (w : World) (hs : s.size ≤ maxLen) (h : 9 < s.size) :
    Calls Tryd.prog 39 #[.string s, .int .i64 m] w fun e w' => e = .returned (.tuple #[.int .i64 0, .bool false]) ∧ w' = w := by
  unfold maxLen at hs
  go_enter Tryd.func39, Tryd.ntmps39
  go_wp2
  all_goals (go_ret2; exact ⟨rfl, rfl⟩)
theorem num_nil (s : ByteArray) (m : Int) (w : World) (h : s.size = 0) :
    Calls Tryd.prog 39 #[.string s, .int .i64 m] w fun e w' => e = .returned (.tuple #[.int .i64 0, .bool false]) ∧ w' = w := by
  have h1 : s.toList = [] := by
    cases hh : s.toList with
    | nil => rfl
    | cons a l => rw [toList_data] at hh; have := congrArg List.length hh; simp at this; omega
  go_enter Tryd.func39, Tryd.ntmps39
  go_wp2
  all_goals (go_ret2; exact ⟨rfl, rfl⟩)
theorem conv_any (s : ByteArray) (w : World) : ∃ (cap : Nat) (C : Array Value), (convert 9 56 (.string s)).run Tryd.prog w = .ok (.slice (some ⟨w.heap.size, 0, none⟩) s.size cap) (w.drew.alloc (.cells C 5 (C.size, C.size + 1))) ∧
    C.size = cap ∧ s.size ≤ cap ∧ (∀ (k : Nat) (h : k < s.size), C[k]? = some (.int .u8 (s[k].toNat : Int))) ∧ (∀ k, s.size ≤ k → k < cap → C[k]? = some (.int .u8 0)) := by
  have hge := grownCap_ge w s.size 0 5
  refine ⟨grownCap w s.size 0 5, bytesRow s (grownCap w s.size 0 5), run_bytes_of_string w 9 56 5 s Tryd.underlying9 Tryd.underlying56 Tryd.underlying5, ?_, hge, fun k h => ?_, fun k h1 h2 => ?_⟩
  · have : s.data.size = s.size := rfl
    simp [bytesRow, this]; omega
  · exact bytesRow_at s _ k h
  · have : s.data.size = s.size := rfl
    simp only [bytesRow]
    rw [Array.getElem?_append, if_neg (by simp [this]; omega)]
    rw [Array.getElem?_replicate, if_pos (by simp [this]; omega)]
theorem cell_new {w : World} {C : Array Value} {e : TypeId} {fr : Nat × Nat} {k : Nat} {v : Value} (h : C[k]? = some v) : (w.alloc (.cells C e fr)).cell? ⟨w.heap.size, k, none⟩ = some v := by
  rw [World.cell?_alloc_mark]; exact h
theorem head_ok (s : ByteArray) (h1 : 1 ≤ s.size) (h0 : ((s[0].toNat : Int) == 48) = false ∨ (((s[0].toNat : Int) == 48) = true ∧ (!s.toList == [48]) = false)) : ¬ (s.data.toList.head? = some 48 ∧ 1 < s.data.toList.length) := by
  rintro ⟨h2, h3⟩
  rw [head_eq s h1] at h2
  rcases h0 with h0 | ⟨_, h0⟩
  · rw [u8_48] at h0
    simp at h0 h2
    exact h0 h2
  · rw [toList_data] at h0
    simp at h0
    rw [h0] at h3
    simp at h3
set_option maxRecDepth 100000 in
theorem num_zero (s : ByteArray) (m : Int) (w : World) (h1 : 1 < s.size) (h9 : s.size ≤ 9) (h0 : ((s[0].toNat : Int) == 48) = true) :
    Calls Tryd.prog 39 #[.string s, .int .i64 m] w fun e w' => e = .returned (.tuple #[.int .i64 0, .bool false]) ∧ w' = w := by
  have hl : s.toList.length = s.size := by rw [toList_data]; rfl
  have e1 : s.toList.isEmpty = false := by
    cases hh : s.toList with
    | nil => rw [hh] at hl; simp at hl; omega
    | cons a l => rfl
  have e2 : ¬ s.toList = [] := by
    intro hh; rw [hh] at hl; simp at hl; omega
  have e3 : (!s.toList == [48]) = true := by
    simp only [Bool.not_eq_true', beq_eq_false_iff_ne]
    intro hh; rw [hh] at hl; simp at hl; omega
  clear hl
  go_enter Tryd.func39, Tryd.ntmps39
  go_wp2
  all_goals (go_ret2; exact ⟨rfl, rfl⟩)
set_option maxHeartbeats 1000000 in
set_option maxRecDepth 100000 in
theorem num_loop (s : ByteArray) (m : Int) (w : World) (h1 : 1 ≤ s.size) (h9 : s.size ≤ 9) (h0 : ((s[0].toNat : Int) == 48) = false ∨ (((s[0].toNat : Int) == 48) = true ∧ (!s.toList == [48]) = false)) :
    Calls Tryd.prog 39 #[.string s, .int .i64 m] w fun e w' => e = .returned (.tuple #[.int .i64 (numRes s.data.toList m).1, .bool (numRes s.data.toList m).2]) ∧ Below w.heap.size w w' := by
  have hl : s.toList.length = s.size := by rw [toList_data]; rfl
  have e1 : s.toList.isEmpty = false := by
    cases hh : s.toList with
    | nil => rw [hh] at hl; simp at hl; omega
    | cons a l => rfl
  have e2 : ¬ s.toList = [] := by
    intro hh; rw [hh] at hl; simp at hl; omega
  clear hl
  obtain ⟨cap, C, hconv, hC1, hC2, hC3, _⟩ := conv_any s w
  have HC1 := Lib.hid hC1
  have HC3 := Lib.hid hC3
  clear hC1 hC3
  have HZ : Hid (¬ (s.data.toList.head? = some 48 ∧ 1 < s.data.toList.length)) := Lib.hid (head_ok s h1 h0)
  rcases h0 with h0 | ⟨h0, h0'⟩
  all_goals
    go_enter Tryd.func39, Tryd.ntmps39
    go_wp2
    go_loop [6, 28] (fun n i => ∃ k : Nat, k ≤ s.size ∧ i = .int .i64 k ∧ n = .int .i64 (val (s.data.toList.take k)) ∧ (s.data.toList.take k).all dig = true) (fun _ i => s.size - (intOf i).toNat)
    case atStart => exact ⟨0, Nat.zero_le _, rfl, rfl, rfl⟩
    case round =>
      obtain ⟨k, hk, rfl, rfl, hall⟩ := hrel
      have hbd := val_bd s k hall h9
      have HALL := Lib.hid hall
      clear hall
      by_cases hlt : k < s.size
      · have hcell := cell_new (w := w) (e := 5) (fr := (C.size, C.size + 1)) (HC3.out k hlt)
        by_cases hlo : (s[k].toNat : Int) < 48
        · go_wp2
          go_ret2
          exact ⟨ret_num (numRes_no _ _ (all_no s k hlt (dig_lo _ hlo))), ((Below.refl _ _).alloc (Nat.le_refl _) _).drew⟩
        · by_cases hhi : 57 < (s[k].toNat : Int)
          · have hlo : 48 ≤ (s[k].toNat : Int) := by omega
            go_wp2
            go_ret2
            exact ⟨ret_num (numRes_no _ _ (all_no s k hlt (dig_hi _ hhi))), ((Below.refl _ _).alloc (Nat.le_refl _) _).drew⟩
          · have hlo : 48 ≤ (s[k].toNat : Int) := by omega
            have hhi : (s[k].toNat : Int) ≤ 57 := by omega
            have HS := Lib.hid (val_step s k hlt (dig_of _ hlo hhi))
            have HA := Lib.hid (all_step s k hlt)
            have hk1 : k + 1 ≤ s.size := hlt
            have HK1 := Lib.hid hk1
            clear hk1
            go_wp2
            go_round
            case rel => exact ⟨k + 1, HK1.out, by go_num, by rw [HS.out], by rw [HA.out, HALL.out, dig_of _ hlo hhi]; rfl⟩
            case measure => simp [intOf]; omega
      · go_wp2
        all_goals
          go_ret2
          have hkk : k = s.size := by omega
          have hall : s.data.toList.all dig = true := by rw [← take_all s k (by omega)]; exact HALL.out
          refine ⟨ret_num ?_, ((Below.refl _ _).alloc (Nat.le_refl _) _).drew⟩
          have ht := take_all s k (by omega)
          rw [numRes_ok _ _ h1 h9 HZ.out hall]
          try rw [ht]
          rw [← ht]
          first | rw [if_pos (by assumption)] | rw [if_neg (by omega)]
end Go.Proofs.YtaoapkbfcofamaaDoor

namespace Go.Proofs.YtaoapkbfcofamaaDoor
open Go.RowKit Go.Lib Go.Tx
theorem num_any (s : ByteArray) (m : Int) (w : World) (hs : s.size ≤ maxLen) :
    Calls Tryd.prog 39 #[.string s, .int .i64 m] w fun e w' => e = .returned (.tuple #[.int .i64 (numRes s.data.toList m).1, .bool (numRes s.data.toList m).2]) ∧ Below w.heap.size w w' := by
  have hl := size_len s
  by_cases h0 : s.size = 0
  · refine (num_nil s m w h0).mono ?_
    rintro e w' ⟨rfl, rfl⟩
    exact ⟨ret_num (numRes_nil _ _ (List.eq_nil_of_length_eq_zero (by omega))), Below.refl _ _⟩
  by_cases h9 : 9 < s.size
  · refine (num_len s m w hs h9).mono ?_
    rintro e w' ⟨rfl, rfl⟩
    exact ⟨ret_num (numRes_len _ _ (by omega)), Below.refl _ _⟩
  cases hz : ((s[0].toNat : Int) == 48) with
  | false => exact num_loop s m w (by omega) (by omega) (.inl hz)
  | true =>
    by_cases h1 : 1 < s.size
    · refine (num_zero s m w h1 (by omega) hz).mono ?_
      rintro e w' ⟨rfl, rfl⟩
      refine ⟨ret_num (numRes_zero _ _ (by omega) ?_), Below.refl _ _⟩
      rw [head_eq s (by omega)]
      rw [u8_48] at hz
      rw [eq_of_beq hz]
    · refine num_loop s m w (by omega) (by omega) (.inr ⟨hz, ?_⟩)
      have h2 : s.data.toList = [s[0]] := by
        apply List.ext_getElem?
        intro j
        cases j with
        | zero => rw [List.getElem?_eq_getElem (by omega)]; rfl
        | succ j => rw [List.getElem?_eq_none (by omega), List.getElem?_eq_none (by simp)]
      rw [u8_48] at hz
      rw [toList_data, h2, eq_of_beq hz]
      rfl
end Go.Proofs.YtaoapkbfcofamaaDoor

namespace Go.Proofs.YtaoapkbfcofamaaDoor
open Go.RowKit Go.Lib Go.Tx
theorem splitQ_any (s : ByteArray) (w : World) (hs : s.size ≤ 1000000) (hm : MaxAt w) :
    Calls Tryd.prog 38 #[.string s, .string ⟨#[47]⟩, .int .i64 4] w (SplitN w (cutN 47 4 s.data.toList)) := by
  obtain ⟨m, hm⟩ := hm
  refine (Tryd.strings_SplitN s ⟨#[47]⟩ 4 m w (by omega) hm (Nat.le_refl 1) (by omega) (by omega)).mono ?_
  rintro e w' ⟨rfl, rfl⟩
  have hd := splitB_data ⟨#[47]⟩ 0 (min 4 (s.size + 1) - 1) s
  have he : (splitB ⟨#[47]⟩ 0 (min 4 (s.size + 1) - 1) s).map (·.data.toList) = cutN 47 4 s.data.toList := hd
  have hlen : (cutN 47 4 s.data.toList).length = (splitB ⟨#[47]⟩ 0 (min 4 (s.size + 1) - 1) s).length := by rw [← he, List.length_map]
  have hcap := splitB_length_le ⟨#[47]⟩ 0 (min 4 (s.size + 1) - 1) s
  refine ⟨min 4 (s.size + 1), by rw [hlen], by omega, by omega, by show w.heap.size < (w.heap.push _).size; simp, fun i l hi => ?_, (Below.refl _ _).alloc (Nat.le_refl _) _⟩
  rw [World.cell?_alloc_new]
  rw [← he, List.getElem?_map] at hi
  obtain ⟨x, hx, rfl⟩ := Option.map_eq_some_iff.1 hi
  have hlt := (List.getElem?_eq_some_iff.1 hx).1
  unfold cellsOf
  rw [List.getElem?_toArray, List.getElem?_append_left (by simpa using hlt), List.getElem?_map, hx]
  rfl
/-- What a function that gives a query and a truth leaves. -/
def BRes (w : World) (r : Option QryL) (e : Ending) (w' : World) : Prop := e = .returned (.tuple #[qV (r.getD zQ), .bool r.isSome]) ∧ Below w.heap.size w w'
/-- Four texts that were cut. -/
def Row4 (g : Nat) (a b c d : ByteArray) (W : World) : Prop :=
  (W.cell? ⟨g, 0, none⟩ = some (.string a) ∧ W.cell? ⟨g, 1, none⟩ = some (.string b) ∧ W.cell? ⟨g, 2, none⟩ = some (.string c) ∧ W.cell? ⟨g, 3, none⟩ = some (.string d)) ∧ g < W.heap.size
theorem Row4.below {g : Nat} {a b c d : ByteArray} {W W' : World} (h : Row4 g a b c d W) (hb : Below W.heap.size W W') : Row4 g a b c d W' := by
  obtain ⟨⟨h0, h1, h2, h3⟩, hl⟩ := h
  exact ⟨⟨by rw [hb.cell (p := ⟨g, 0, none⟩) hl]; exact h0, by rw [hb.cell (p := ⟨g, 1, none⟩) hl]; exact h1, by rw [hb.cell (p := ⟨g, 2, none⟩) hl]; exact h2, by rw [hb.cell (p := ⟨g, 3, none⟩) hl]; exact h3⟩, Nat.lt_of_lt_of_le hl hb.size⟩
theorem QR.drew {w W : World} (h : QR w W) : QR w W.drew := ⟨h.res, h.bel.drew⟩

set_option maxHeartbeats 4000000 in
set_option maxRecDepth 100000 in
theorem read_few (s : ByteArray) (w : World) (hs : s.size ≤ 1000000) (hl : LibAt w) (h4 : (cutN 47 4 s.data.toList).length ≠ 4) :
    Calls Tryd.prog 26 #[.string s] w fun e w' => e = .returned (.tuple #[.agg #[.int .i64 0, .string ⟨#[]⟩, .string ⟨#[]⟩, .int .i64 0], .bool false]) ∧ Below w.heap.size w w' := by
  have HS : Hid (∀ W, Below w.heap.size w W → Calls Tryd.prog 38 #[.string s, .string ⟨#[47]⟩, .int .i64 4] W (SplitN W (cutN 47 4 s.data.toList))) := Lib.hid (fun W hb => splitQ_any s W hs (hl.max.below hb))
  obtain ⟨P, hP⟩ : ∃ P, cutN 47 4 s.data.toList = P := ⟨_, rfl⟩
  rw [hP] at HS h4
  have h4' : ((P.length : Int) != 4) = true := by simp; omega
  clear hP h4 hs hl
  have HQ : Hid (∀ W, w.alloc (.cells #[.int .i64 0, .string ⟨#[]⟩, .string ⟨#[]⟩, .int .i64 0] 23) = W → QR w W) := Lib.hid (fun W hW => QR.made w W hW)
  go_enter Tryd.func26, Tryd.ntmps26
  go_upto_region 1 with (fail)
  obtain ⟨W, hW⟩ : ∃ W, w.alloc (.cells #[.int .i64 0, .string ⟨#[]⟩, .string ⟨#[]⟩, .int .i64 0] 23) = W := ⟨_, rfl⟩
  have HB := Lib.hid (HQ.out W hW)
  rw [hW]
  clear hW HQ
  obtain ⟨⟨d0, d1, d2, d3⟩, ⟨g0, g1, g2, g3⟩⟩ := HB.out.facts
  go_wp2_with (go_at_call 38; refine (HS.out _ HB.out.bel).mono ?_; rintro e w2 ⟨cap, rfl, hc1, hc2, hlt2, hrd, hb⟩; have HB2 := Lib.hid (HB.out.below hb); obtain ⟨⟨b0, b1, b2, b3⟩, ⟨f0, f1, f2, f3⟩⟩ := HB2.out.facts; clear hb hrd)
  refine bodyPost_ret (results_row2 rfl _ _ w.heap.size _ _ _ _ rfl (set4_at HB2.out.res _ _ _ _) Tryd.underlying23 rfl sz_q4) rfl ?_
  exact ⟨rfl, bel_set4 HB2.out.bel (Nat.le_refl _) _ _ _ _⟩

set_option maxHeartbeats 4000000 in
set_option maxRecDepth 100000 in
theorem read_no1 (s : ByteArray) (w : World) (hs : s.size ≤ 1000000) (hl : LibAt w) (a b c d : List UInt8) (x y : Int) (u v : Bool) (hP : cutN 47 4 s.data.toList = [a, b, c, d]) (ha : a.length ≤ 1000000) (hb : b.length ≤ 1000000) (hx : numRes a 4 = (x, u)) (hy : numRes b 65535 = (y, v)) (hu : u = false) :
    Calls Tryd.prog 26 #[.string s] w fun e w' => e = .returned (.tuple #[.agg #[.int .i64 0, .string ⟨#[]⟩, .string ⟨#[]⟩, .int .i64 0], .bool false]) ∧ Below w.heap.size w w' := by
  have HS : Hid (∀ W, Below w.heap.size w W → Calls Tryd.prog 38 #[.string s, .string ⟨#[47]⟩, .int .i64 4] W (SplitN W (cutN 47 4 s.data.toList))) := Lib.hid (fun W hb => splitQ_any s W hs (hl.max.below hb))
  rw [hP] at HS
  have HN : Hid (∀ W, Calls Tryd.prog 39 #[.string ⟨a.toArray⟩, .int .i64 4] W fun e w' => e = .returned (.tuple #[.int .i64 x, .bool u]) ∧ Below W.heap.size W w') := Lib.hid (fun W => by
    have := num_any ⟨a.toArray⟩ 4 W (by unfold maxLen; show a.length ≤ _; omega)
    rw [show (ByteArray.data ⟨a.toArray⟩).toList = a from rfl, hx] at this
    exact this)
  have HM : Hid (∀ W, Calls Tryd.prog 39 #[.string ⟨b.toArray⟩, .int .i64 65535] W fun e w' => e = .returned (.tuple #[.int .i64 y, .bool v]) ∧ Below W.heap.size W w') := Lib.hid (fun W => by
    have := num_any ⟨b.toArray⟩ 65535 W (by unfold maxLen; show b.length ≤ _; omega)
    rw [show (ByteArray.data ⟨b.toArray⟩).toList = b from rfl, hy] at this
    exact this)
  have HR : Hid (∀ W W2 : World, (∀ (i : Nat) l, [a, b, c, d][i]? = some l → W2.cell? ⟨W.heap.size, i, none⟩ = some (.string ⟨l.toArray⟩)) → W.heap.size < W2.heap.size → Row4 W.heap.size ⟨a.toArray⟩ ⟨b.toArray⟩ ⟨c.toArray⟩ ⟨d.toArray⟩ W2) := Lib.hid (fun W W2 h hl => ⟨⟨h 0 a rfl, h 1 b rfl, h 2 c rfl, h 3 d rfl⟩, hl⟩)
  clear hP hx hy ha hb hs hl
  generalize (⟨a.toArray⟩ : ByteArray) = A at *
  generalize (⟨b.toArray⟩ : ByteArray) = B at *
  generalize (⟨c.toArray⟩ : ByteArray) = C at *
  generalize (⟨d.toArray⟩ : ByteArray) = D at *
  subst hu
  have HQ : Hid (∀ W, w.alloc (.cells #[.int .i64 0, .string ⟨#[]⟩, .string ⟨#[]⟩, .int .i64 0] 23) = W → QR w W) := Lib.hid (fun W hW => QR.made w W hW)
  go_enter Tryd.func26, Tryd.ntmps26
  go_upto_region 1 with (fail)
  obtain ⟨W, hW⟩ : ∃ W, w.alloc (.cells #[.int .i64 0, .string ⟨#[]⟩, .string ⟨#[]⟩, .int .i64 0] 23) = W := ⟨_, rfl⟩
  have HB := Lib.hid (HQ.out W hW)
  rw [hW]
  clear hW HQ
  obtain ⟨⟨d0, d1, d2, d3⟩, ⟨g0, g1, g2, g3⟩⟩ := HB.out.facts
  go_upto_region 2 with (go_at_call 38; refine (HS.out _ HB.out.bel).mono ?_; rintro e w2 ⟨cap, rfl, hc1, hc2, hlt2, hrd, hb⟩; have HB2 := Lib.hid (HB.out.below hb); have HR2 := Lib.hid (HR.out _ _ hrd hlt2); obtain ⟨⟨b0, b1, b2, b3⟩, ⟨f0, f1, f2, f3⟩⟩ := HB2.out.facts; obtain ⟨⟨k0, k1, k2, k3⟩, _⟩ := HR2.out; clear hb hrd hlt2)
  go_upto_region 5 with (go_at_call 39; refine (HN.out _).mono ?_; rintro e w3 ⟨rfl, hb⟩; have HB3 := Lib.hid (HB2.out.below hb); have HR3 := Lib.hid (HR2.out.below hb); obtain ⟨⟨m0, m1, m2, m3⟩, ⟨n0, n1, n2, n3⟩⟩ := HB3.out.facts; obtain ⟨⟨l0, l1, l2, l3⟩, _⟩ := HR3.out; clear hb)
  go_wp2_with (go_at_call 39; refine (HM.out _).mono ?_; rintro e w4 ⟨rfl, hb⟩; have HB4 := Lib.hid (HB3.out.below hb); have HR4 := Lib.hid (HR3.out.below hb); obtain ⟨⟨o0, o1, o2, o3⟩, ⟨p0, p1, p2, p3⟩⟩ := HB4.out.facts; obtain ⟨⟨q0, q1, q2, q3⟩, _⟩ := HR4.out; clear hb)
  refine bodyPost_ret (results_row2 rfl _ _ w.heap.size _ _ _ _ rfl (set4_at HB4.out.res _ _ _ _) Tryd.underlying23 rfl sz_q4) rfl ?_
  exact ⟨rfl, bel_set4 HB4.out.bel (Nat.le_refl _) _ _ _ _⟩

set_option maxHeartbeats 4000000 in
set_option maxRecDepth 100000 in
theorem read_no2 (s : ByteArray) (w : World) (hs : s.size ≤ 1000000) (hl : LibAt w) (a b c d : List UInt8) (x y : Int) (u v : Bool) (hP : cutN 47 4 s.data.toList = [a, b, c, d]) (ha : a.length ≤ 1000000) (hb : b.length ≤ 1000000) (hx : numRes a 4 = (x, u)) (hy : numRes b 65535 = (y, v)) (hu : u = true) (hv : v = false) :
    Calls Tryd.prog 26 #[.string s] w fun e w' => e = .returned (.tuple #[.agg #[.int .i64 0, .string ⟨#[]⟩, .string ⟨#[]⟩, .int .i64 0], .bool false]) ∧ Below w.heap.size w w' := by
  have HS : Hid (∀ W, Below w.heap.size w W → Calls Tryd.prog 38 #[.string s, .string ⟨#[47]⟩, .int .i64 4] W (SplitN W (cutN 47 4 s.data.toList))) := Lib.hid (fun W hb => splitQ_any s W hs (hl.max.below hb))
  rw [hP] at HS
  have HN : Hid (∀ W, Calls Tryd.prog 39 #[.string ⟨a.toArray⟩, .int .i64 4] W fun e w' => e = .returned (.tuple #[.int .i64 x, .bool u]) ∧ Below W.heap.size W w') := Lib.hid (fun W => by
    have := num_any ⟨a.toArray⟩ 4 W (by unfold maxLen; show a.length ≤ _; omega)
    rw [show (ByteArray.data ⟨a.toArray⟩).toList = a from rfl, hx] at this
    exact this)
  have HM : Hid (∀ W, Calls Tryd.prog 39 #[.string ⟨b.toArray⟩, .int .i64 65535] W fun e w' => e = .returned (.tuple #[.int .i64 y, .bool v]) ∧ Below W.heap.size W w') := Lib.hid (fun W => by
    have := num_any ⟨b.toArray⟩ 65535 W (by unfold maxLen; show b.length ≤ _; omega)
    rw [show (ByteArray.data ⟨b.toArray⟩).toList = b from rfl, hy] at this
    exact this)
  have HR : Hid (∀ W W2 : World, (∀ (i : Nat) l, [a, b, c, d][i]? = some l → W2.cell? ⟨W.heap.size, i, none⟩ = some (.string ⟨l.toArray⟩)) → W.heap.size < W2.heap.size → Row4 W.heap.size ⟨a.toArray⟩ ⟨b.toArray⟩ ⟨c.toArray⟩ ⟨d.toArray⟩ W2) := Lib.hid (fun W W2 h hl => ⟨⟨h 0 a rfl, h 1 b rfl, h 2 c rfl, h 3 d rfl⟩, hl⟩)
  clear hP hx hy ha hb hs hl
  generalize (⟨a.toArray⟩ : ByteArray) = A at *
  generalize (⟨b.toArray⟩ : ByteArray) = B at *
  generalize (⟨c.toArray⟩ : ByteArray) = C at *
  generalize (⟨d.toArray⟩ : ByteArray) = D at *
  subst hu
  subst hv
  have HQ : Hid (∀ W, w.alloc (.cells #[.int .i64 0, .string ⟨#[]⟩, .string ⟨#[]⟩, .int .i64 0] 23) = W → QR w W) := Lib.hid (fun W hW => QR.made w W hW)
  go_enter Tryd.func26, Tryd.ntmps26
  go_upto_region 1 with (fail)
  obtain ⟨W, hW⟩ : ∃ W, w.alloc (.cells #[.int .i64 0, .string ⟨#[]⟩, .string ⟨#[]⟩, .int .i64 0] 23) = W := ⟨_, rfl⟩
  have HB := Lib.hid (HQ.out W hW)
  rw [hW]
  clear hW HQ
  obtain ⟨⟨d0, d1, d2, d3⟩, ⟨g0, g1, g2, g3⟩⟩ := HB.out.facts
  go_upto_region 2 with (go_at_call 38; refine (HS.out _ HB.out.bel).mono ?_; rintro e w2 ⟨cap, rfl, hc1, hc2, hlt2, hrd, hb⟩; have HB2 := Lib.hid (HB.out.below hb); have HR2 := Lib.hid (HR.out _ _ hrd hlt2); obtain ⟨⟨b0, b1, b2, b3⟩, ⟨f0, f1, f2, f3⟩⟩ := HB2.out.facts; obtain ⟨⟨k0, k1, k2, k3⟩, _⟩ := HR2.out; clear hb hrd hlt2)
  go_upto_region 5 with (go_at_call 39; refine (HN.out _).mono ?_; rintro e w3 ⟨rfl, hb⟩; have HB3 := Lib.hid (HB2.out.below hb); have HR3 := Lib.hid (HR2.out.below hb); obtain ⟨⟨m0, m1, m2, m3⟩, ⟨n0, n1, n2, n3⟩⟩ := HB3.out.facts; obtain ⟨⟨l0, l1, l2, l3⟩, _⟩ := HR3.out; clear hb)
  go_wp2_with (go_at_call 39; refine (HM.out _).mono ?_; rintro e w4 ⟨rfl, hb⟩; have HB4 := Lib.hid (HB3.out.below hb); have HR4 := Lib.hid (HR3.out.below hb); obtain ⟨⟨o0, o1, o2, o3⟩, ⟨p0, p1, p2, p3⟩⟩ := HB4.out.facts; obtain ⟨⟨q0, q1, q2, q3⟩, _⟩ := HR4.out; clear hb)
  refine bodyPost_ret (results_row2 rfl _ _ w.heap.size _ _ _ _ rfl (set4_at HB4.out.res _ _ _ _) Tryd.underlying23 rfl sz_q4) rfl ?_
  exact ⟨rfl, bel_set4 HB4.out.bel (Nat.le_refl _) _ _ _ _⟩

set_option maxHeartbeats 4000000 in
set_option maxRecDepth 100000 in
theorem read_yes (s : ByteArray) (w : World) (hs : s.size ≤ 1000000) (hl : LibAt w) (a b c d : List UInt8) (x y : Int) (u v : Bool) (hP : cutN 47 4 s.data.toList = [a, b, c, d]) (ha : a.length ≤ 1000000) (hb : b.length ≤ 1000000) (hx : numRes a 4 = (x, u)) (hy : numRes b 65535 = (y, v)) (hu : u = true) (hv : v = true) :
    Calls Tryd.prog 26 #[.string s] w fun e w' => e = .returned (.tuple #[.agg #[.int .i64 x, .string ⟨d.toArray⟩, .string ⟨c.toArray⟩, .int .i64 y], .bool true]) ∧ Below w.heap.size w w' := by
  have HS : Hid (∀ W, Below w.heap.size w W → Calls Tryd.prog 38 #[.string s, .string ⟨#[47]⟩, .int .i64 4] W (SplitN W (cutN 47 4 s.data.toList))) := Lib.hid (fun W hb => splitQ_any s W hs (hl.max.below hb))
  rw [hP] at HS
  have HN : Hid (∀ W, Calls Tryd.prog 39 #[.string ⟨a.toArray⟩, .int .i64 4] W fun e w' => e = .returned (.tuple #[.int .i64 x, .bool u]) ∧ Below W.heap.size W w') := Lib.hid (fun W => by
    have := num_any ⟨a.toArray⟩ 4 W (by unfold maxLen; show a.length ≤ _; omega)
    rw [show (ByteArray.data ⟨a.toArray⟩).toList = a from rfl, hx] at this
    exact this)
  have HM : Hid (∀ W, Calls Tryd.prog 39 #[.string ⟨b.toArray⟩, .int .i64 65535] W fun e w' => e = .returned (.tuple #[.int .i64 y, .bool v]) ∧ Below W.heap.size W w') := Lib.hid (fun W => by
    have := num_any ⟨b.toArray⟩ 65535 W (by unfold maxLen; show b.length ≤ _; omega)
    rw [show (ByteArray.data ⟨b.toArray⟩).toList = b from rfl, hy] at this
    exact this)
  have HR : Hid (∀ W W2 : World, (∀ (i : Nat) l, [a, b, c, d][i]? = some l → W2.cell? ⟨W.heap.size, i, none⟩ = some (.string ⟨l.toArray⟩)) → W.heap.size < W2.heap.size → Row4 W.heap.size ⟨a.toArray⟩ ⟨b.toArray⟩ ⟨c.toArray⟩ ⟨d.toArray⟩ W2) := Lib.hid (fun W W2 h hl => ⟨⟨h 0 a rfl, h 1 b rfl, h 2 c rfl, h 3 d rfl⟩, hl⟩)
  clear hP hx hy ha hb hs hl
  generalize (⟨a.toArray⟩ : ByteArray) = A at *
  generalize (⟨b.toArray⟩ : ByteArray) = B at *
  generalize (⟨c.toArray⟩ : ByteArray) = C at *
  generalize (⟨d.toArray⟩ : ByteArray) = D at *
  subst hu
  subst hv
  have HQ : Hid (∀ W, w.alloc (.cells #[.int .i64 0, .string ⟨#[]⟩, .string ⟨#[]⟩, .int .i64 0] 23) = W → QR w W) := Lib.hid (fun W hW => QR.made w W hW)
  go_enter Tryd.func26, Tryd.ntmps26
  go_upto_region 1 with (fail)
  obtain ⟨W, hW⟩ : ∃ W, w.alloc (.cells #[.int .i64 0, .string ⟨#[]⟩, .string ⟨#[]⟩, .int .i64 0] 23) = W := ⟨_, rfl⟩
  have HB := Lib.hid (HQ.out W hW)
  rw [hW]
  clear hW HQ
  obtain ⟨⟨d0, d1, d2, d3⟩, ⟨g0, g1, g2, g3⟩⟩ := HB.out.facts
  go_upto_region 2 with (go_at_call 38; refine (HS.out _ HB.out.bel).mono ?_; rintro e w2 ⟨cap, rfl, hc1, hc2, hlt2, hrd, hb⟩; have HB2 := Lib.hid (HB.out.below hb); have HR2 := Lib.hid (HR.out _ _ hrd hlt2); obtain ⟨⟨b0, b1, b2, b3⟩, ⟨f0, f1, f2, f3⟩⟩ := HB2.out.facts; obtain ⟨⟨k0, k1, k2, k3⟩, _⟩ := HR2.out; clear hb hrd hlt2)
  go_upto_region 5 with (go_at_call 39; refine (HN.out _).mono ?_; rintro e w3 ⟨rfl, hb⟩; have HB3 := Lib.hid (HB2.out.below hb); have HR3 := Lib.hid (HR2.out.below hb); obtain ⟨⟨m0, m1, m2, m3⟩, ⟨n0, n1, n2, n3⟩⟩ := HB3.out.facts; obtain ⟨⟨l0, l1, l2, l3⟩, _⟩ := HR3.out; clear hb)
  go_upto_region 8 with (go_at_call 39; refine (HM.out _).mono ?_; rintro e w4 ⟨rfl, hb⟩; have HB4 := Lib.hid (HB3.out.below hb); have HR4 := Lib.hid (HR3.out.below hb); obtain ⟨⟨o0, o1, o2, o3⟩, ⟨p0, p1, p2, p3⟩⟩ := HB4.out.facts; obtain ⟨⟨q0, q1, q2, q3⟩, _⟩ := HR4.out; clear hb)
  have HB5 := Lib.hid HB4.out.drew
  go_region
  go_wp2
  refine bodyPost_ret (results_row2 rfl _ _ w.heap.size _ _ _ _ rfl (set4_at HB5.out.res _ _ _ _) Tryd.underlying23 rfl sz_q4) rfl ?_
  exact ⟨rfl, bel_set4 HB5.out.bel (Nat.le_refl _) _ _ _ _⟩

end Go.Proofs.YtaoapkbfcofamaaDoor

namespace Go.Proofs.YtaoapkbfcofamaaDoor
open Go.RowKit Go.Lib Go.Tx
theorem read_any (s : ByteArray) (w : World) (hs : s.size ≤ 900) (hl : LibAt w) : Calls Tryd.prog 26 #[.string s] w (BRes w (readP s.data.toList)) := by
  have hsz : s.data.toList.length = s.size := rfl
  by_cases h4 : (cutN 47 4 s.data.toList).length = 4
  · obtain ⟨a, b, c, d, hP⟩ := list4q _ h4
    have ha := cutN_mem (c := 47) (n := 4) (l := s.data.toList) (x := a) (by rw [hP]; simp)
    have hb := cutN_mem (c := 47) (n := 4) (l := s.data.toList) (x := b) (by rw [hP]; simp)
    obtain ⟨⟨x, u⟩, hx⟩ : ∃ p, numRes a 4 = p := ⟨_, rfl⟩
    obtain ⟨⟨y, v⟩, hy⟩ : ∃ p, numRes b 65535 = p := ⟨_, rfl⟩
    have hr : readP s.data.toList = if u = true ∧ v = true then some ⟨x, ⟨d.toArray⟩, ⟨c.toArray⟩, y⟩ else none := by
      unfold readP
      rw [hP]
      simp only
      rw [hx, hy]
    rw [hr]
    cases hu : u with
    | false =>
      rw [if_neg (by simp)]
      exact read_no1 s w (by omega) hl a b c d x y u v hP (by omega) (by omega) hx hy hu
    | true =>
      cases hv : v with
      | false =>
        rw [if_neg (by simp)]
        exact read_no2 s w (by omega) hl a b c d x y u v hP (by omega) (by omega) hx hy hu hv
      | true =>
        rw [if_pos ⟨rfl, rfl⟩]
        exact read_yes s w (by omega) hl a b c d x y u v hP (by omega) (by omega) hx hy hu hv
  · have hr : readP s.data.toList = none := by
      unfold readP
      split
      · rename_i e
        rw [e] at h4
        exact absurd rfl h4
      · rfl
    rw [hr]
    exact read_few s w (by omega) hl h4
theorem read_small {l : List UInt8} {q : QryL} (h : readP l = some q) : q.name.size ≤ l.length ∧ q.proto.size ≤ l.length := by
  unfold readP at h
  split at h
  · rename_i a b c d e
    split at h
    · cases h
      exact ⟨cutN_mem (c := 47) (n := 4) (l := l) (x := d) (by rw [e]; simp), cutN_mem (c := 47) (n := 4) (l := l) (x := c) (by rw [e]; simp)⟩
    · cases h
  · cases h

set_option maxHeartbeats 4000000 in
set_option maxRecDepth 100000 in
theorem from_none (s : ByteArray) (w : World) (hs : s.size ≤ 900) (hl : LibAt w) (hr : readP s.data.toList = none) :
    Calls Tryd.prog 13 #[.string s] w fun e w' => e = .returned (.tuple #[.agg #[.int .i64 0, .string ⟨#[]⟩, .string ⟨#[]⟩, .int .i64 0], .bool false]) ∧ Below w.heap.size w w' := by
  have HR : Hid (∀ W, Below w.heap.size w W → Calls Tryd.prog 26 #[.string s] W (BRes W (readP s.data.toList))) := Lib.hid (fun W hb => read_any s W hs (hl.below hb))
  unfold BRes qV qC at HR
  rw [hr] at HR
  simp only [Option.getD_none, Option.getD_some, Option.isSome_none, Option.isSome_some, zQ] at HR
  clear hr hs hl
  have HQ : Hid (∀ W, w.alloc (.cells #[.int .i64 0, .string ⟨#[]⟩, .string ⟨#[]⟩, .int .i64 0] 23) = W → QR w W) := Lib.hid (fun W hW => QR.made w W hW)
  have HK : Hid (∀ w2 W, QR w w2 → w2.alloc (.cells #[.int .i64 0, .string ⟨#[]⟩, .string ⟨#[]⟩, .int .i64 0] 23) = W → (QR w W ∧ KS w w2.heap.size 0 ⟨#[]⟩ ⟨#[]⟩ 0 W)) := Lib.hid (fun w2 W hb hW => by
    subst hW
    have h := heap_alloc_new w2 (.cells #[.int .i64 0, .string ⟨#[]⟩, .string ⟨#[]⟩, .int .i64 0] 23)
    exact ⟨hb.below (al_bel w2 _), ⟨cellJ h rfl, cellJ h rfl, cellJ h rfl, cellJ h rfl⟩, lt_of h, keepE hb.bel (al_bel w2 _)⟩)
  go_enter Tryd.func13, Tryd.ntmps13
  go_upto_region 1 with (fail)
  obtain ⟨W, hW⟩ : ∃ W, w.alloc (.cells #[.int .i64 0, .string ⟨#[]⟩, .string ⟨#[]⟩, .int .i64 0] 23) = W := ⟨_, rfl⟩
  have HB := Lib.hid (HQ.out W hW)
  rw [hW]
  clear hW HQ
  obtain ⟨⟨d0, d1, d2, d3⟩, ⟨g0, g1, g2, g3⟩⟩ := HB.out.facts
  go_upto_region 2 with (go_at_call 26; refine (HR.out _ HB.out.bel).mono ?_; rintro e w2 ⟨rfl, hb⟩; have HB2 := Lib.hid (HB.out.below hb); clear hb)
  obtain ⟨W3, hW3⟩ : ∃ W3, w2.alloc (.cells #[.int .i64 0, .string ⟨#[]⟩, .string ⟨#[]⟩, .int .i64 0] 23) = W3 := ⟨_, rfl⟩
  obtain ⟨hB3, hK3⟩ := HK.out w2 W3 HB2.out hW3
  have HB3 := Lib.hid hB3
  have HK3 := Lib.hid hK3
  rw [hW3]
  clear hW3 HK hB3 hK3
  obtain ⟨⟨b0, b1, b2, b3⟩, ⟨f0, f1, f2, f3⟩⟩ := HB3.out.facts
  obtain ⟨⟨k0, k1, k2, k3⟩, _⟩ := HK3.out
  go_wp2
  refine bodyPost_ret (results_row2 rfl _ _ w.heap.size _ _ _ _ rfl (set4_at HB3.out.res _ _ _ _) Tryd.underlying23 rfl sz_q4) rfl ?_
  exact ⟨rfl, bel_set4 HB3.out.bel (Nat.le_refl _) _ _ _ _⟩

set_option maxHeartbeats 4000000 in
set_option maxRecDepth 100000 in
theorem from_other (s : ByteArray) (w : World) (hs : s.size ≤ 900) (hl : LibAt w) (q0 : Int) (q1 q2 : ByteArray) (q3 : Int) (X : ByteArray) (hr : readP s.data.toList = some ⟨q0, q1, q2, q3⟩) (hX : ⟨(keyL ⟨q0, q1, q2, q3⟩).toArray⟩ = X) (hc : (X.toList == s.toList) = false) :
    Calls Tryd.prog 13 #[.string s] w fun e w' => e = .returned (.tuple #[.agg #[.int .i64 0, .string ⟨#[]⟩, .string ⟨#[]⟩, .int .i64 0], .bool false]) ∧ Below w.heap.size w w' := by
  have HC : Hid (∀ W, Below w.heap.size w W → Calls Tryd.prog 12 #[.agg #[.int .i64 q0, .string q1, .string q2, .int .i64 q3]] W fun e w' => e = .returned (.string X) ∧ Below W.heap.size W w') := Lib.hid (fun W hb => by
    obtain ⟨h1, h2⟩ := read_small hr
    have e : s.data.toList.length = s.size := rfl
    rw [← hX]
    exact key_any ⟨q0, q1, q2, q3⟩ W (by simp only at h1 ⊢; omega) (by simp only at h2 ⊢; omega) (hl.below hb))
  have HR : Hid (∀ W, Below w.heap.size w W → Calls Tryd.prog 26 #[.string s] W (BRes W (readP s.data.toList))) := Lib.hid (fun W hb => read_any s W hs (hl.below hb))
  unfold BRes qV qC at HR
  rw [hr] at HR
  simp only [Option.getD_none, Option.getD_some, Option.isSome_none, Option.isSome_some, zQ] at HR
  clear hr hs hl hX
  have HQ : Hid (∀ W, w.alloc (.cells #[.int .i64 0, .string ⟨#[]⟩, .string ⟨#[]⟩, .int .i64 0] 23) = W → QR w W) := Lib.hid (fun W hW => QR.made w W hW)
  have HK : Hid (∀ w2 W, QR w w2 → w2.alloc (.cells #[.int .i64 q0, .string q1, .string q2, .int .i64 q3] 23) = W → (QR w W ∧ KS w w2.heap.size q0 q1 q2 q3 W)) := Lib.hid (fun w2 W hb hW => by
    subst hW
    have h := heap_alloc_new w2 (.cells #[.int .i64 q0, .string q1, .string q2, .int .i64 q3] 23)
    exact ⟨hb.below (al_bel w2 _), ⟨cellJ h rfl, cellJ h rfl, cellJ h rfl, cellJ h rfl⟩, lt_of h, keepE hb.bel (al_bel w2 _)⟩)
  go_enter Tryd.func13, Tryd.ntmps13
  go_upto_region 1 with (fail)
  obtain ⟨W, hW⟩ : ∃ W, w.alloc (.cells #[.int .i64 0, .string ⟨#[]⟩, .string ⟨#[]⟩, .int .i64 0] 23) = W := ⟨_, rfl⟩
  have HB := Lib.hid (HQ.out W hW)
  rw [hW]
  clear hW HQ
  obtain ⟨⟨d0, d1, d2, d3⟩, ⟨g0, g1, g2, g3⟩⟩ := HB.out.facts
  go_upto_region 2 with (go_at_call 26; refine (HR.out _ HB.out.bel).mono ?_; rintro e w2 ⟨rfl, hb⟩; have HB2 := Lib.hid (HB.out.below hb); clear hb)
  obtain ⟨W3, hW3⟩ : ∃ W3, w2.alloc (.cells #[.int .i64 q0, .string q1, .string q2, .int .i64 q3] 23) = W3 := ⟨_, rfl⟩
  obtain ⟨hB3, hK3⟩ := HK.out w2 W3 HB2.out hW3
  have HB3 := Lib.hid hB3
  have HK3 := Lib.hid hK3
  rw [hW3]
  clear hW3 HK hB3 hK3
  obtain ⟨⟨b0, b1, b2, b3⟩, ⟨f0, f1, f2, f3⟩⟩ := HB3.out.facts
  obtain ⟨⟨k0, k1, k2, k3⟩, _⟩ := HK3.out
  go_wp2_with (go_at_call 12; refine (HC.out _ HB3.out.bel).mono ?_; rintro e w4 ⟨rfl, hb⟩; have HB4 := Lib.hid (HB3.out.below hb); have HK4 := Lib.hid (KS.below HK3.out hb); obtain ⟨⟨m0, m1, m2, m3⟩, ⟨n0, n1, n2, n3⟩⟩ := HB4.out.facts; obtain ⟨⟨l0, l1, l2, l3⟩, _⟩ := HK4.out; clear hb)
  refine bodyPost_ret (results_row2 rfl _ _ w.heap.size _ _ _ _ rfl (set4_at HB4.out.res _ _ _ _) Tryd.underlying23 rfl sz_q4) rfl ?_
  exact ⟨rfl, bel_set4 HB4.out.bel (Nat.le_refl _) _ _ _ _⟩

set_option maxHeartbeats 4000000 in
set_option maxRecDepth 100000 in
theorem from_same (s : ByteArray) (w : World) (hs : s.size ≤ 900) (hl : LibAt w) (q0 : Int) (q1 q2 : ByteArray) (q3 : Int) (X : ByteArray) (hr : readP s.data.toList = some ⟨q0, q1, q2, q3⟩) (hX : ⟨(keyL ⟨q0, q1, q2, q3⟩).toArray⟩ = X) (hc : (X.toList == s.toList) = true) :
    Calls Tryd.prog 13 #[.string s] w fun e w' => e = .returned (.tuple #[.agg #[.int .i64 q0, .string q1, .string q2, .int .i64 q3], .bool true]) ∧ Below w.heap.size w w' := by
  have HC : Hid (∀ W, Below w.heap.size w W → Calls Tryd.prog 12 #[.agg #[.int .i64 q0, .string q1, .string q2, .int .i64 q3]] W fun e w' => e = .returned (.string X) ∧ Below W.heap.size W w') := Lib.hid (fun W hb => by
    obtain ⟨h1, h2⟩ := read_small hr
    have e : s.data.toList.length = s.size := rfl
    rw [← hX]
    exact key_any ⟨q0, q1, q2, q3⟩ W (by simp only at h1 ⊢; omega) (by simp only at h2 ⊢; omega) (hl.below hb))
  have HR : Hid (∀ W, Below w.heap.size w W → Calls Tryd.prog 26 #[.string s] W (BRes W (readP s.data.toList))) := Lib.hid (fun W hb => read_any s W hs (hl.below hb))
  unfold BRes qV qC at HR
  rw [hr] at HR
  simp only [Option.getD_none, Option.getD_some, Option.isSome_none, Option.isSome_some, zQ] at HR
  clear hr hs hl hX
  have HQ : Hid (∀ W, w.alloc (.cells #[.int .i64 0, .string ⟨#[]⟩, .string ⟨#[]⟩, .int .i64 0] 23) = W → QR w W) := Lib.hid (fun W hW => QR.made w W hW)
  have HK : Hid (∀ w2 W, QR w w2 → w2.alloc (.cells #[.int .i64 q0, .string q1, .string q2, .int .i64 q3] 23) = W → (QR w W ∧ KS w w2.heap.size q0 q1 q2 q3 W)) := Lib.hid (fun w2 W hb hW => by
    subst hW
    have h := heap_alloc_new w2 (.cells #[.int .i64 q0, .string q1, .string q2, .int .i64 q3] 23)
    exact ⟨hb.below (al_bel w2 _), ⟨cellJ h rfl, cellJ h rfl, cellJ h rfl, cellJ h rfl⟩, lt_of h, keepE hb.bel (al_bel w2 _)⟩)
  go_enter Tryd.func13, Tryd.ntmps13
  go_upto_region 1 with (fail)
  obtain ⟨W, hW⟩ : ∃ W, w.alloc (.cells #[.int .i64 0, .string ⟨#[]⟩, .string ⟨#[]⟩, .int .i64 0] 23) = W := ⟨_, rfl⟩
  have HB := Lib.hid (HQ.out W hW)
  rw [hW]
  clear hW HQ
  obtain ⟨⟨d0, d1, d2, d3⟩, ⟨g0, g1, g2, g3⟩⟩ := HB.out.facts
  go_upto_region 2 with (go_at_call 26; refine (HR.out _ HB.out.bel).mono ?_; rintro e w2 ⟨rfl, hb⟩; have HB2 := Lib.hid (HB.out.below hb); clear hb)
  obtain ⟨W3, hW3⟩ : ∃ W3, w2.alloc (.cells #[.int .i64 q0, .string q1, .string q2, .int .i64 q3] 23) = W3 := ⟨_, rfl⟩
  obtain ⟨hB3, hK3⟩ := HK.out w2 W3 HB2.out hW3
  have HB3 := Lib.hid hB3
  have HK3 := Lib.hid hK3
  rw [hW3]
  clear hW3 HK hB3 hK3
  obtain ⟨⟨b0, b1, b2, b3⟩, ⟨f0, f1, f2, f3⟩⟩ := HB3.out.facts
  obtain ⟨⟨k0, k1, k2, k3⟩, _⟩ := HK3.out
  go_wp2_with (go_at_call 12; refine (HC.out _ HB3.out.bel).mono ?_; rintro e w4 ⟨rfl, hb⟩; have HB4 := Lib.hid (HB3.out.below hb); have HK4 := Lib.hid (KS.below HK3.out hb); obtain ⟨⟨m0, m1, m2, m3⟩, ⟨n0, n1, n2, n3⟩⟩ := HB4.out.facts; obtain ⟨⟨l0, l1, l2, l3⟩, _⟩ := HK4.out; clear hb)
  refine bodyPost_ret (results_row2 rfl _ _ w.heap.size _ _ _ _ rfl (set4_at HB4.out.res _ _ _ _) Tryd.underlying23 rfl sz_q4) rfl ?_
  exact ⟨rfl, bel_set4 HB4.out.bel (Nat.le_refl _) _ _ _ _⟩

/-- The program's FromKey, whatever the text. -/
theorem from_any (s : ByteArray) (w : World) (hs : s.size ≤ 900) (hl : LibAt w) : Calls Tryd.prog 13 #[.string s] w (BRes w (fromP s.data.toList)) := by
  unfold fromP
  cases hr : readP s.data.toList with
  | none => exact from_none s w hs hl hr
  | some q =>
    obtain ⟨q0, q1, q2, q3⟩ := q
    simp only
    by_cases hk : keyL ⟨q0, q1, q2, q3⟩ = s.data.toList
    · rw [if_pos hk]
      exact from_same s w hs hl q0 q1 q2 q3 _ hr rfl (by rw [list_beq, decide_eq_true]; exact ba_ext hk)
    · rw [if_neg hk]
      exact from_other s w hs hl q0 q1 q2 q3 _ hr rfl (by rw [list_beq, decide_eq_false]; exact fun e => hk (by rw [← e]))
end Go.Proofs.YtaoapkbfcofamaaDoor

namespace Go.Proofs.YtaoapkbfcofamaaDoor
open Go.RowKit Go.Extern.Stop Go.Stop Go.Extern Go.Lib Go.Tx
theorem nilE (t : TypeId) (x : Value) (w : World) : (binOp .eql 27 (.iface t x) .nilIface).run Tryd.prog w = .ok (.bool false) w := run_eql_iface_nil w _ (by kernel_rfl) _ _
theorem nilN (w : World) : (binOp .eql 27 .nilIface .nilIface).run Tryd.prog w = .ok (.bool true) w := by kernel_rfl
theorem nilNe (t : TypeId) (x : Value) (w : World) : (binOp .neq 27 (.iface t x) .nilIface).run Tryd.prog w = .ok (.bool true) w := run_neq_iface_nil w _ (by kernel_rfl) _ _
theorem asCC (v : Value) (x : TypeId) (w : World) : (Instr.typeAssert (.iface 30 v) x 30 true).run Tryd.prog w = .ok (.tuple #[v, .bool true]) w := by kernel_rfl
theorem asCW (v : Value) (x : TypeId) (w : World) : (Instr.typeAssert (.iface 30 v) x 59 true).run Tryd.prog w = .ok (.tuple #[.nilIface, .bool false]) w := run_typeAssert_lacksB Tryd.underlying59 (by kernel_rfl) (by kernel_rfl) v x w
set_option maxHeartbeats 1000000 in
set_option maxRecDepth 100000 in
theorem isQ_any (w : World) (k c : Int) : Calls Tryd.prog 23 #[.iface 30 (.int .i64 k), .int .i64 c] w fun e w' => e = .returned (.bool (decide (k = c))) ∧ w = w' := by
  have n1 := nilNe
  have t1 := asCC
  have t2 := asCW
  by_cases hk : k = c
  · subst hk
    have hq : (k == k) = true := by simp
    go_enter Tryd.func23, Tryd.ntmps23
    go_wp2
    refine wp_loop_rounds 1 ?_
    rw [rounds_succ]
    go_wp2
    go_ret
    exact ⟨by simp, rfl⟩
  · have hq : (k == c) = false := by simpa using hk
    go_enter Tryd.func23, Tryd.ntmps23
    go_wp2
    refine wp_loop_rounds 1 ?_
    rw [rounds_succ]
    go_wp2
    go_ret
    exact ⟨by simp [hk], rfl⟩
def codesL : List Int := [1, 3, 4, 7, 5, 6, 8, 9, 10, 11]
/-- The code that the laws' own Code tells of a code. -/
def codeV (k : Int) : Int := if k ∈ codesL then k else 2
theorem codeV_at {k : Int} {i : Nat} (hi : i < 10) (h : k = codesL.getD i 0) : codeV k = k := by
  subst h
  revert hi
  revert i
  decide
theorem codeV_none {k : Int} (h : ∀ i, i < 10 → ¬ k = codesL.getD i 0) : codeV k = 2 := by
  unfold codeV
  rw [if_neg]
  intro hm
  simp only [codesL, List.mem_cons, List.not_mem_nil, or_false] at hm
  have g := fun i hi => h i hi
  rcases hm with e | e | e | e | e | e | e | e | e | e
  · exact h 0 (by decide) e
  · exact h 1 (by decide) e
  · exact h 2 (by decide) e
  · exact h 3 (by decide) e
  · exact h 4 (by decide) e
  · exact h 5 (by decide) e
  · exact h 6 (by decide) e
  · exact h 7 (by decide) e
  · exact h 8 (by decide) e
  · exact h 9 (by decide) e
theorem codeQ_nil (w : World) : Calls Tryd.prog 10 #[.nilIface] w fun e w' => e = .returned (.int .i64 0) ∧ w = w' := by
  have n1 := nilN
  go_enter Tryd.func10, Tryd.ntmps10
  go_wp2
  go_ret
  exact ⟨rfl, rfl⟩
set_option maxHeartbeats 1000000 in
set_option maxRecDepth 100000 in
theorem codeQ_any (w : World) (k : Int) :
    Calls Tryd.prog 10 #[.iface 30 (.int .i64 k)] w fun e w' => e = .returned (.int .i64 (codeV k)) ∧ Below w.heap.size w w' := by
  have hcell : ∀ j : Nat, j < 10 → (w.alloc (.cells #[.int .i64 1, .int .i64 3, .int .i64 4, .int .i64 7, .int .i64 5, .int .i64 6, .int .i64 8, .int .i64 9, .int .i64 10, .int .i64 11] 30)).cell? ⟨w.heap.size, j, none⟩ = some (.int .i64 (codesL.getD j 0)) := fun j hj => by
    rw [World.cell?_alloc_new]
    match j, hj with
    | 0, _ => rfl
    | 1, _ => rfl
    | 2, _ => rfl
    | 3, _ => rfl
    | 4, _ => rfl
    | 5, _ => rfl
    | 6, _ => rfl
    | 7, _ => rfl
    | 8, _ => rfl
    | 9, _ => rfl
  have HC := Lib.hid hcell
  have HI : Hid (∀ c o, Calls Tryd.prog 23 #[.iface 30 (.int .i64 k), .int .i64 c] (w.alloc o) fun e w' => e = .returned (.bool (decide (k = c))) ∧ w.alloc o = w') := Lib.hid (fun c o => isQ_any (w.alloc o) k c)
  have n1 := nilE
  clear hcell
  go_enter Tryd.func10, Tryd.ntmps10
  go_wp2
  go_loopw [4] (fun iv wr => ∃ i : Nat, i ≤ 10 ∧ iv = .int .i64 i ∧ wr = w.alloc (.cells #[.int .i64 1, .int .i64 3, .int .i64 4, .int .i64 7, .int .i64 5, .int .i64 6, .int .i64 8, .int .i64 9, .int .i64 10, .int .i64 11] 30) ∧ ∀ j, j < i → ¬ k = codesL.getD j 0) (fun iv _ => 10 - (intOf iv).toNat)
  case atStart => exact ⟨0, by omega, rfl, rfl, fun j hj => by omega⟩
  case round =>
    obtain ⟨i, hi, rfl, rfl, hno⟩ := hrel
    have HN := Lib.hid hno
    clear hno
    by_cases hlt : i < 10
    · have hc := HC.out i hlt
      by_cases hk : k = codesL.getD i 0
      · have HV := Lib.hid (codeV_at hlt hk)
        have HK := Lib.hid hk
        have hd : decide (k = codesL.getD i 0) = true := by simpa using hk
        clear hk
        rw [← HK.out] at hc hd
        go_wp2_with (go_at_call 23; refine (HI.out _ _).mono ?_; rintro e w2 ⟨rfl, hw⟩; obtain rfl := hw)
        go_ret
        exact ⟨by rw [HV.out]; rfl, (Below.refl _ _).alloc (Nat.le_refl _) _⟩
      · have hd : decide (k = codesL.getD i 0) = false := by simpa using hk
        have HK := Lib.hid hk
        clear hk
        generalize hg : codesL.getD i 0 = q at hc hd
        go_wp2_with (go_at_call 23; refine (HI.out _ _).mono ?_; rintro e w2 ⟨rfl, hw⟩; obtain rfl := hw)
        go_roundw
        case rel => exact ⟨i + 1, by omega, by go_num, trivial, fun j hj => by
          by_cases hji : j < i
          · exact HN.out j hji
          · obtain rfl : j = i := by omega
            exact HK.out⟩
        case measure => simp [intOf]; omega
    · obtain rfl : i = 10 := by omega
      have HV := Lib.hid (codeV_none (k := k) HN.out)
      go_wp2
      go_ret
      exact ⟨by rw [HV.out]; rfl, (Below.refl _ _).alloc (Nat.le_refl _) _⟩
theorem checkP_code (q : QryL) : (checkP q).2 = 0 ∨ (checkP q).2 = 6 ∨ (checkP q).2 = 7 := by
  rcases check_ways q with (e | e) | ⟨_, e⟩ | ⟨_, e⟩ | ⟨_, _, e⟩ | ⟨_, _, e⟩ <;> rw [e] <;> simp
theorem code_any (q : QryL) (w : World) : Calls Tryd.prog 10 #[errQ (checkP q).2] w fun e w' => e = .returned (.int .i64 (checkP q).2) ∧ Below w.heap.size w w' := by
  rcases checkP_code q with h | h | h <;> rw [h]
  · refine (codeQ_nil w).mono ?_
    rintro e w' ⟨rfl, rfl⟩
    exact ⟨rfl, Below.refl _ _⟩
  · exact codeQ_any w 6
  · exact codeQ_any w 7
end Go.Proofs.YtaoapkbfcofamaaDoor

namespace Go.Proofs.YtaoapkbfcofamaaDoor
open Go.RowKit Go.Ev Go.Fr Go.Lib Go.ChangeShapes Go.Tx
theorem maxAt (W : World) (hsh : W.ShapedOpen Tryd.prog) : ∃ m, W.cell? ⟨1, 0, none⟩ = some (.int .i64 m) :=
  cell_of_shapedOpen_int (P := Tryd.prog) (g := 1) (t := 3) (zero := #[.int .i64 0]) hsh (of_decide_eq_true (by kernel_rfl)) (by kernel_rfl) rfl (by kernel_rfl) (by kernel_rfl) Tryd.underlying3
theorem lib_at (W : World) (hL : laidMetH Tryd.prog laidL W) (hsh : W.ShapedOpen Tryd.prog) : LibAt W := by
  have hE := eok W hL hsh
  refine ⟨maxAt W hsh, ⟨?_, ?_⟩⟩
  · obtain ⟨hs, arr, elem, fr, h1, vs, hv, hc⟩ := hE.glo 3 _ rfl
    obtain ⟨v, hv1, hv2⟩ := hv.get 15 (.int .u8 4) rfl
    have h3 := hc 15 v hv1
    simp only [VR] at hv2
    subst hv2
    refine ⟨?_, hs⟩
    unfold World.cell?
    have h1' : W.heap[3]? = some (.cells arr elem fr) := h1
    rw [h1']
    simpa using h3
  · rw [MakeChecks.laidMetH_plain _ _ _ (by kernel_rfl)] at hL
    exact Lib.tabIs_of_head (zs := Lib.pow10Tab) (g := 0) (t := 102) (by kernel_rfl) (by kernel_rfl) Tryd.underlying102 Tryd.underlying82 (by kernel_rfl) (by kernel_rfl) hL.tail.tail
end Go.Proofs.YtaoapkbfcofamaaDoor

