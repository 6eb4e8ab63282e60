/- Contracts and plain facts that the law leans on. -/
import Derived.Test.YtabkdaaenikliaaGreatDoorRows
import Derived.WalkKit
import Derived.Below
import Derived.Laws.IdiomStrings
import Derived.Laws.OwnMore
import Derived.Lib.Hide
import Derived.Test.YtabkdaaenikliaaGreatDoorEvB
import Derived.Lib.SlBytesConst
import Derived.KernelRfl
import Derived.Lib.FieldsP
import Derived.Laws.RangeString
import Derived.LoopTactic
import Derived.Lib.BytesEntry
import Derived.Deep.QuietTactic
import Derived.BigQuiet
import Derived.ChangeAlike
import Derived.Test.YtabkdaaenikliaaGreatDoorShelf
import Derived.OwnWalk
import Derived.Test.YtabkdaaenikliaaGreatDoorWb
import Derived.Deep.RegionHeld3
import Derived.Lib.Strings
import Derived.Lib.Bytes
import Derived.Lib.SplitLaws
import Derived.Laws.RangeAny
import Derived.Shelf.GgClosure.StringsIndexFunc
import Derived.Laws.CopyOwn
import Derived.Test.YtabkdaaenikliaaGreatDoorChecked
import Derived.Laws.AppendOwnNone
import Derived.Test.YtabkdaaenikliaaGreatDoorMa
import Derived.StillTailTactics
import Derived.Laws.Cover3
namespace Go.Rb
open Go.RowKit
/-- Block b is a row of bytes of some capacity, of which the first are l. -/
def RowB (e : TypeId) (w : World) (b cap : Nat) (l : List UInt8) : Prop :=
  ∃ arr lo hi, w.heap[b]? = some (.cells arr e (lo, hi)) ∧ (cap ≤ lo ∨ hi = 0) ∧ arr.size = cap ∧ l.length ≤ cap ∧ ∀ (j : Nat) (c : UInt8), l[j]? = some c → arr[j]? = some (Value.int .u8 (c.toNat : Int))
theorem RowB.cell {e : TypeId} {w : World} {b cap : Nat} {l : List UInt8} (h : RowB e w b cap l) {j : Nat} {c : UInt8} (hj : l[j]? = some c) : w.cell? ⟨b, j, none⟩ = some (.int .u8 (c.toNat : Int)) := by
  obtain ⟨arr, lo, hi, h1, h2, h3, h4, h5⟩ := h
  unfold World.cell?
  rw [h1]
  simp only
  exact h5 j c hj
theorem RowB.frozen {e : TypeId} {w : World} {b cap : Nat} {l : List UInt8} (h : RowB e w b cap l) {j : Nat} (hj : j < cap) : w.frozen? ⟨b, j, none⟩ = false := by
  obtain ⟨arr, lo, hi, h1, h2, h3, h4, h5⟩ := h
  unfold World.frozen?
  rw [h1]
  simp only [Bool.and_eq_false_iff, decide_eq_false_iff_not]
  omega
theorem RowB.drew {e : TypeId} {w : World} {b cap : Nat} {l : List UInt8} (h : RowB e w b cap l) : RowB e w.drew b cap l := by
  obtain ⟨arr, lo, hi, h1, h2⟩ := h
  exact ⟨arr, lo, hi, h1, h2⟩
theorem RowB.set {e : TypeId} {w : World} {b cap : Nat} {l : List UInt8} (h : RowB e w b cap l) {j : Nat} (hj : j < l.length) (c : UInt8) : RowB e (w.setCell ⟨b, j, none⟩ (.int .u8 (c.toNat : Int))) b cap (l.set j c) := by
  obtain ⟨arr, lo, hi, h1, h2, h3, h4, h5⟩ := h
  have hb : b < w.heap.size := (Array.getElem?_eq_some_iff.1 h1).1
  refine ⟨arr.setIfInBounds j (.int .u8 (c.toNat : Int)), lo, hi, ?_, h2, by simpa using h3, by simpa using h4, fun i d hi => ?_⟩
  · show (w.heap.modify b _)[b]? = _
    rw [Array.getElem?_modify]
    simp [h1]
  · rw [List.getElem?_set] at hi
    rw [Array.getElem?_setIfInBounds]
    split at hi
    · rename_i e1
      subst e1
      rw [if_pos rfl, if_pos (by omega)]
      cases hi
      rfl
    · rename_i e1
      rw [if_neg e1]
      exact h5 i d hi
theorem RowB.alloc {e : TypeId} {w : World} {b cap : Nat} {l : List UInt8} (h : RowB e w b cap l) (o : Obj) : RowB e (w.alloc o) b cap l := by
  obtain ⟨arr, lo, hi, h1, h2⟩ := h
  have hb : b < w.heap.size := (Array.getElem?_eq_some_iff.1 h1).1
  exact ⟨arr, lo, hi, by show (w.heap.push o)[b]? = _; rw [Array.getElem?_push, if_neg (by omega)]; exact h1, h2⟩
theorem RowB.below {e : TypeId} {w w' : World} {b cap B : Nat} {l : List UInt8} (h : RowB e w b cap l) (hb : Below B w w') (hlt : b < B) : RowB e w' b cap l := by
  obtain ⟨arr, lo, hi, h1, h2⟩ := h
  exact ⟨arr, lo, hi, by rw [hb.block b hlt]; exact h1, h2⟩
theorem RowB.str {e : TypeId} {w : World} {b cap : Nat} {l : List UInt8} (h : RowB e w b cap l) {P : Program} {src dst : TypeId} (c : Nat) (hs : P.underlying src = some (.slice e)) (he : P.underlying e = some (.int .u8)) (hd : P.underlying dst = some .string) :
    (convert src dst (.slice (some ⟨b, 0, none⟩) l.length c)).run P w = .ok (.string ⟨l.toArray⟩) w :=
  run_convert_bytes_back w src dst e _ c l hs he hd fun j hj => by
    have ha : (⟨b, 0, none⟩ : Addr).add j = ⟨b, j, none⟩ := by unfold Addr.add; split <;> simp_all
    rw [ha]
    exact h.cell (List.getElem?_eq_getElem hj)
theorem RowB.made {P : Program} {src dst e : TypeId} (s : ByteArray) (w : World) (hs : P.underlying src = some .string) (hd : P.underlying dst = some (.slice e)) (he : P.underlying e = some (.int .u8)) :
    ∃ (cap : Nat) (o : Obj), (convert src dst (.string s)).run P w = .ok (.slice (some ⟨w.heap.size, 0, none⟩) s.size cap) (w.drew.alloc o) ∧ s.size ≤ cap ∧ RowB e (w.alloc o) w.heap.size cap s.data.toList := by
  have hge := grownCap_ge w s.size 0 e
  have hsz : s.data.size = s.size := rfl
  have hC : (bytesRow s (grownCap w s.size 0 e)).size = grownCap w s.size 0 e := by simp [bytesRow, hsz]; omega
  refine ⟨grownCap w s.size 0 e, _, run_bytes_of_string w src dst e s hs hd he, hge, _, _, _, heap_alloc_new w _, .inl (by rw [hC]; exact Nat.le_refl _), hC, by simpa [hsz] using hge, fun j c hj => ?_⟩
  have hj' : j < s.data.size := by
    have := (List.getElem?_eq_some_iff.1 hj).1
    simpa using this
  rw [bytesRow_at s _ j hj']
  rw [Array.getElem?_toList, Array.getElem?_eq_getElem hj'] at hj
  cases hj
  rfl
end Go.Rb

namespace Go.Rb
open Go.RowKit Go.Ev
def vbytes (l : List UInt8) : List Value := l.map fun c => .int .u8 (c.toNat : Int)
/-- What append reads: a text or a slice that reads as m. -/
structure Src (P : Program) (w : World) (v : Value) (m : List UInt8) : Prop where
  len : ∀ w' : World, (Builtin.lenOf v).run P w' = .ok m.length w'
  read : ∀ w' : World, w'.heap = w.heap → (Builtin.firstCells 1 m.length v).run P w' = .ok (vbytes m).toArray w'
theorem Src.str (P : Program) (w : World) (s : ByteArray) : Src P w (.string s) s.data.toList := by
  refine ⟨fun w' => by simp [Builtin.lenOf], fun w' _ => ?_⟩
  simp only [Builtin.firstCells, Sem.run_pure]
  congr 1
  apply Array.ext'
  simp [vbytes, ByteArray.extract, ByteArray.copySlice]
  exact List.take_of_length_le (by simp)
theorem Src.row {P : Program} {w : World} {b cap c : Nat} {l : List UInt8} (h : RowB 5 w b cap l) : Src P w (.slice (some ⟨b, 0, none⟩) l.length c) l := by
  refine ⟨fun w' => rfl, fun w' hw => ?_⟩
  refine run_firstCells_some w' 1 _ _ l.length c (vbytes l) (by simp [vbytes]) fun j v hj => ?_
  have ha : (⟨b, 0, none⟩ : Addr).add j = ⟨b, j, none⟩ := by unfold Addr.add; split <;> simp_all
  rw [ha]
  simp only [vbytes, List.getElem?_map, Option.map_eq_some_iff] at hj
  obtain ⟨c, hc, rfl⟩ := hj
  have := h.cell hc
  simpa [World.cell?, hw] using this
/-- Cells written over. -/
theorem run_stores' {P : Program} (b el : Nat) (fr : Nat × Nat) : ∀ (vs : List Value) (off i : Nat) (w : World) (arr : Array Value), w.heap[b]? = some (.cells arr el fr) → off + i + vs.length ≤ arr.size →
    (∀ i, i < arr.size → ¬ (fr.1 ≤ i ∧ i < fr.2)) → (∀ v ∈ vs, v.oneCell' = true) →
    ∃ w' arr', (storeCells ⟨b, off, none⟩ vs i).run P w = .ok () w' ∧ w'.heap[b]? = some (.cells arr' el fr) ∧ arr'.size = arr.size ∧ (∀ j, arr'[j]? = if off + i ≤ j ∧ j < off + i + vs.length then vs[j - (off + i)]? else arr[j]?) ∧
      (∀ k, k ≠ b → w'.heap[k]? = w.heap[k]?) ∧ w'.heap.size = w.heap.size ∧ w'.os = w.os ∧ w'.tape = w.tape ∧ w'.output = w.output
  | [], off, i, w, arr, hb, _, _, _ => ⟨w, arr, rfl, hb, rfl, fun j => by rw [if_neg (by simp <;> omega)], fun _ _ => rfl, rfl, rfl, rfl, rfl⟩
  | v :: vs, off, i, w, arr, hb, hl, hf, h1 => by
    simp only [List.length_cons] at hl
    have hcell : w.cell? ⟨b, off + i, none⟩ = some arr[off + i] := by simp [World.cell?, hb]
    have hfz : w.frozen? ⟨b, off + i, none⟩ = false := by
      simp only [World.frozen?, hb]
      have := hf (off + i) (by omega)
      cases h : decide (fr.1 ≤ off + i) && decide (off + i < fr.2)
      · rfl
      · simp at h; exact absurd h this
    have hb1 : (w.setCell ⟨b, off + i, none⟩ v).heap[b]? = some (.cells (arr.setIfInBounds (off + i) v) el fr) := by
      simp [World.setCell, Array.getElem?_modify, hb]
    obtain ⟨w', arr', e1, e2, e3, e4, e5, e6, e7, e8, e9⟩ := run_stores' b el fr vs off (i + 1) (w.setCell ⟨b, off + i, none⟩ v) (arr.setIfInBounds (off + i) v) hb1 (by simp; omega) (by simpa using hf) (fun u hu => h1 u (by simp [hu]))
    refine ⟨w', arr', ?_, e2, by simpa using e3, fun j => ?_, fun k hk => ?_, by simpa using e6, e7, e8, e9⟩
    · unfold storeCells
      simp only [Sem.run_bind]
      rw [add_off, run_store P w _ v .plain (h1 v (by simp)), hcell]
      simp only [hfz, Bool.false_eq_true, if_false, Result.andThen_ok]
      exact e1
    · rw [e4 j, Array.getElem?_setIfInBounds]
      simp only [List.length_cons]
      by_cases c1 : off + (i + 1) ≤ j ∧ j < off + (i + 1) + vs.length
      · rw [if_pos c1, if_pos (by omega), show j - (off + i) = (j - (off + (i + 1))) + 1 from by omega, List.getElem?_cons_succ]
      · rw [if_neg c1]
        by_cases c2 : off + i = j
        · rw [if_pos c2, if_pos (by omega), if_pos (by omega), show j - (off + i) = 0 from by omega]; rfl
        · rw [if_neg c2, if_neg (by omega)]
    · rw [e5 k hk]
      simp only [World.setCell, Array.getElem?_modify]
      rw [if_neg (by omega)]
theorem run_append_row {P : Program} {ts : Array TypeId} {ty t u : TypeId} {d : TypeDesc} {i : TypeInfo} {w : World} {b cap B : Nat} {l m : List UInt8} {v : Value}
    (h0 : ts[0]? = some t) (h1 : ts[1]? = some u) (ht : P.underlying t = some (.slice 5)) (hu : P.underlying u = some d) (hd : ∀ k, d ≠ .int k)
    (hi : P.info? 5 = some i) (hz0 : i.zero = some (.int .u8 0)) (hz1 : i.size = 1) (hz2 : i.bytes = 1)
    (hr : RowB 5 w b cap l) (hs : Src P w v m) (hB : B ≤ b) (hcap : cap ≤ 9223372036854775807) (hbd : l.length + m.length ≤ 1000000) :
    ∃ b' cap' w', (Builtin.append_ ts ty #[.slice (some ⟨b, 0, none⟩) l.length cap, v]).run P w = .ok (.slice (some ⟨b', 0, none⟩) (l.length + m.length) cap') w' ∧
      RowB 5 w' b' cap' (l ++ m) ∧ Below B w w' ∧ B ≤ b' ∧ cap' ≤ 9223372036854775807 ∧ l.length + m.length ≤ cap' := by
  have hr0 := hr
  obtain ⟨arr, lo, hi', hh, hmk, hsz, hle, hat⟩ := hr
  have hb : b < w.heap.size := (Array.getElem?_eq_some_iff.1 hh).1
  have hsrc := hs.read
  rw [← hz1] at hsrc
  by_cases hfit : l.length + m.length ≤ cap
  · have hrun := append_fits (P := P) (w := w) (ty := ty) (base := some ⟨b, 0, none⟩) (sLen := l.length) (sCap := cap) h0 h1 ht hu hd hi hs.len (hsrc w rfl) hfit
    have hadd : (⟨b, 0, none⟩ : Addr).add (l.length * i.size) = ⟨b, l.length, none⟩ := by
      rw [hz1]; unfold Addr.add; split <;> simp_all
    obtain ⟨w', arr', e1, e2, e3, e4, e5, e6, e7, e8, e9⟩ := run_stores' b 5 (lo, hi') (P := P) (vbytes m) l.length 0 w arr hh (by simp [vbytes]; omega) (fun j hj hc => by
        simp only at hc
        omega) (by simp [vbytes, Value.oneCell'])
    simp only [hadd, e1, Result.andThen_ok] at hrun
    refine ⟨b, cap, w', hrun, ⟨arr', lo, hi', e2, hmk, e3.trans hsz, by simpa using hfit, fun j c hj => ?_⟩, ⟨e7, e8, e9, by omega, fun k hk => e5 k (by omega)⟩, hB, hcap, hfit⟩
    rw [e4 j]
    have hjl := (List.getElem?_eq_some_iff.1 hj).1
    simp at hjl
    by_cases hlt : j < l.length
    · rw [if_neg (by omega)]
      rw [List.getElem?_append_left hlt] at hj
      exact hat j c hj
    · rw [if_pos (by simp [vbytes]; omega)]
      rw [List.getElem?_append_right (by omega)] at hj
      simp only [vbytes, List.getElem?_map, Nat.add_zero, hj, Option.map_some]
  · have hold := (Src.row (P := P) (c := cap) hr0).read
    rw [← hz1] at hold
    have hrun := append_grows (P := P) (w := w) (ty := ty) (base := some ⟨b, 0, none⟩) (sLen := l.length) (sCap := cap) (us := vbytes l) h0 h1 ht hu hd hi hz0 hs.len (hsrc w.drew rfl) (hold w.drew rfl) (by omega) (by rw [hz2]; omega) (by omega)
    have hge := grownCap_ge w (l.length + m.length) cap 5
    have hmx := grownCap_le_maxLen w (l.length + m.length) cap 5 (by unfold maxLen; omega)
    unfold maxLen at hmx
    refine ⟨w.heap.size, _, _, hrun, ⟨_, 0, 0, heap_alloc_new w.drew _, .inr rfl, ?_, by simpa using hge, fun j c hj => ?_⟩, (Below.refl _ _).drew.alloc (by show B ≤ w.heap.size; omega) _, by omega, by omega, hge⟩
    · simp [vbytes, Builtin.zeroCells, Value.cells]
      omega
    · have hjl := (List.getElem?_eq_some_iff.1 hj).1
      simp at hjl
      have e : (vbytes l).toArray ++ (vbytes m).toArray = (vbytes (l ++ m)).toArray := by simp [vbytes]
      rw [e, Array.getElem?_append_left (by simp [vbytes]; omega), List.getElem?_toArray]
      simp only [vbytes, List.getElem?_map, hj, Option.map_some]
end Go.Rb

namespace Go.Tx
open Go.Lib
/-- One byte more: the word that stands open, and the words that are closed. -/
def stepW (p : Nat → Bool) (st : List UInt8 × List (List UInt8)) (c : UInt8) : List UInt8 × List (List UInt8) :=
  if p c.toNat = true then (if st.1 = [] then ([], st.2) else ([], st.2 ++ [st.1])) else (st.1 ++ [c], st.2)
def closeW (st : List UInt8 × List (List UInt8)) : List (List UInt8) := if st.1 = [] then st.2 else st.2 ++ [st.1]
/-- The words of bytes. -/
def wordsL (p : Nat → Bool) (l : List UInt8) : List (List UInt8) := closeW (l.foldl (stepW p) ([], []))
theorem take_size (s : ByteArray) : s.data.toList.take s.size = s.data.toList := List.take_of_length_le (Nat.le_refl _)
theorem stepW_nil {p : Nat → Bool} {u : List UInt8 × List (List UInt8)} {c : UInt8} (h : p c.toNat = true) (hu : u.1 = []) : stepW p u c = ([], u.2) := by simp [stepW, h, hu]
theorem stepW_end {p : Nat → Bool} {u : List UInt8 × List (List UInt8)} {c : UInt8} (h : p c.toNat = true) (hu : ¬ u.1 = []) : stepW p u c = ([], u.2 ++ [u.1]) := by simp [stepW, h, hu]
theorem stepW_in {p : Nat → Bool} {u : List UInt8 × List (List UInt8)} {c : UInt8} (h : ¬ p c.toNat = true) : stepW p u c = (u.1 ++ [c], u.2) := by simp [stepW, h]
theorem foldl_take_succ (p : Nat → Bool) (s : ByteArray) (k : Nat) (h : k < s.size) : (s.data.toList.take (k + 1)).foldl (stepW p) ([], []) = stepW p ((s.data.toList.take k).foldl (stepW p) ([], [])) s[k] := by
  rw [List.take_succ_eq_append_getElem (by simpa using h), List.foldl_append]
  rfl
/-- Spans and words tell the same. -/
def SameW (s : ByteArray) (pos : Nat) (st : Option Nat) (acc : List (Nat × Nat)) (u : List UInt8 × List (List UInt8)) : Prop :=
  (acc.map fun x => (s.extract x.1 x.2).data.toList) = u.2 ∧
  match st with
  | none => u.1 = []
  | some a => a < pos ∧ u.1 = (s.extract a pos).data.toList
theorem ext_list (s : ByteArray) (a b : Nat) : (s.extract a b).data.toList = (s.data.toList.take b).drop a := by
  simp [ByteArray.extract, ByteArray.copySlice, List.drop_take, List.extract]
theorem spans_words (p : Nat → Bool) (s : ByteArray) (ha : ∀ (k : Nat) (h : k < s.size), s[k].toNat < 128) : ∀ (f pos : Nat) (st : Option Nat) (acc : List (Nat × Nat)), pos ≤ s.size → s.size - pos ≤ f →
    SameW s pos st acc ((s.data.toList.take pos).foldl (stepW p) ([], [])) →
    SameW s s.size (spansFromP p s f pos st acc).2 (spansFromP p s f pos st acc).1 (s.data.toList.foldl (stepW p) ([], [])) := by
  intro f
  induction f with
  | zero =>
    intro pos st acc h1 h2 h3
    have : pos = s.size := by omega
    subst this
    simp only [spansFromP]
    rw [take_size] at h3
    exact h3
  | succ f ih =>
    intro pos st acc h1 h2 h3
    unfold spansFromP
    by_cases hp : pos < s.size
    · rw [if_pos hp, decode_ascii s pos hp (ha pos hp)]
      simp only
      have hstep := foldl_take_succ p s pos hp
      have hsnoc : ∀ a, a ≤ pos → (s.extract a (pos + 1)).data.toList = (s.extract a pos).data.toList ++ [s[pos]] := by
        intro a hle
        rw [ext_list, ext_list, List.take_succ_eq_append_getElem (by simpa using hp), List.drop_append_of_le_length (by simp; omega)]
        rfl
      obtain ⟨e1, e2⟩ := h3
      by_cases hc : p s[pos].toNat = true
      · rw [if_pos hc]
        cases st with
        | none =>
          simp only at e2 ⊢
          refine ih _ _ _ hp (by omega) ?_
          rw [hstep, stepW_nil hc e2]
          exact ⟨e1, rfl⟩
        | some a =>
          simp only at e2 ⊢
          refine ih _ _ _ hp (by omega) ?_
          have hne : ¬ ((s.data.toList.take pos).foldl (stepW p) ([], [])).1 = [] := by
            rw [e2.2, ext_list]
            intro hh
            have := congrArg List.length hh
            simp at this
            omega
          rw [hstep, stepW_end hc hne]
          refine ⟨?_, rfl⟩
          rw [List.map_append, e1, e2.2]
          rfl
      · rw [if_neg hc]
        cases st with
        | none =>
          simp only at e2 ⊢
          refine ih _ _ _ hp (by omega) ?_
          rw [hstep, stepW_in hc]
          refine ⟨e1, by omega, ?_⟩
          rw [e2, hsnoc pos (Nat.le_refl _), ext_list, List.drop_of_length_le (by simp; omega)]
        | some a =>
          simp only at e2 ⊢
          refine ih _ _ _ hp (by omega) ?_
          rw [hstep, stepW_in hc]
          refine ⟨e1, by omega, ?_⟩
          rw [e2.2, hsnoc a (by omega)]
    · have : pos = s.size := by omega
      subst this
      rw [if_neg hp]
      rw [take_size] at h3
      exact h3
theorem fields_words (p : Nat → Bool) (s : ByteArray) (ha : ∀ (k : Nat) (h : k < s.size), s[k].toNat < 128) : (goFieldsP p s).map (fun x => x.data.toList) = wordsL p s.data.toList := by
  have h := spans_words p s ha s.size 0 none [] (Nat.zero_le _) (by omega) ⟨rfl, rfl⟩
  unfold goFieldsP spansOfP wordsL closeW
  obtain ⟨e1, e2⟩ := h
  generalize spansFromP p s s.size 0 none [] = r at e1 e2
  obtain ⟨acc, st⟩ := r
  cases st with
  | none =>
    simp only at e1 e2
    rw [if_pos e2, ← e1]
    simp [closeSpans]
  | some a =>
    simp only at e1 e2
    have hne : ¬ (s.data.toList.foldl (stepW p) ([], [])).1 = [] := by
      rw [e2.2, ext_list]
      intro hh
      have := congrArg List.length hh
      simp at this
      omega
    rw [if_neg hne, ← e1, e2.2]
    simp [closeSpans]
end Go.Tx

namespace Go.Tx
open Go.RowKit
def blankN (x : Nat) : Bool := x == 32 || x == 9 || x == 13
def forB (c : UInt8) : Bool := decide (127 ≤ c.toNat) || (decide (c.toNat < 32) && !blankN c.toNat)
/-- A slice of bytes that reads as l. -/
structure BA (w : World) (a : Option Addr) (n c : Nat) (l : List UInt8) : Prop where
  len : l.length = n
  cap : n ≤ c
  max : c ≤ 9223372036854775807
  none : a = none → c = 0
  cell : ∀ x, a = some x → ∀ j b, l[j]? = some b → w.cell? (x.add j) = some (.int .u8 (b.toNat : Int))
theorem BA.below {w w' : World} {a : Option Addr} {n c : Nat} {l : List UInt8} (h : BA w a n c l) {B : Nat} (hb : Below B w w') (hlt : ∀ x, a = some x → x.block < B) : BA w' a n c l :=
  ⟨h.len, h.cap, h.max, h.none, fun x hx j b hj => by
    have hblk : (x.add j).block = x.block := by unfold Addr.add; split <;> rfl
    rw [hb.cell (by rw [hblk]; exact hlt x hx)]; exact h.cell x hx j b hj⟩
end Go.Tx
namespace Go.Proofs.YtabkdaaenikliaaGreatDoor
open Go.RowKit Go.Lib Go.Tx
theorem ret_bool {a b : Bool} (h : a = b) : Ending.returned (.bool a) = .returned (.bool b) := by rw [h]
theorem isBlank_any (x : Nat) (w : World) :
    Calls Tryz.prog 57 #[.int .i32 x] w fun e w' => e = .returned (.bool (blankN x)) ∧ w' = w := by
  by_cases h1 : x = 32
  · subst h1
    go_enter Tryz.func57, Tryz.ntmps57
    go_wp2
    all_goals (go_ret; exact ⟨rfl, rfl⟩)
  by_cases h2 : x = 9
  · subst h2
    go_enter Tryz.func57, Tryz.ntmps57
    go_wp2
    all_goals (go_ret; exact ⟨rfl, rfl⟩)
  by_cases h3 : x = 13
  · subst h3
    go_enter Tryz.func57, Tryz.ntmps57
    go_wp2
    all_goals (go_ret; exact ⟨rfl, rfl⟩)
  have e0 : blankN x = false := by simp [blankN, h1, h2, h3]
  have e1 : ((x : Int) == 32) = false := by rw [beq_eq_false_iff_ne]; omega
  have e2 : ((x : Int) == 9) = false := by rw [beq_eq_false_iff_ne]; omega
  have e3 : ((x : Int) == 13) = false := by rw [beq_eq_false_iff_ne]; omega
  clear h1 h2 h3
  have E0 := Lib.hid e0
  clear e0
  go_enter Tryz.func57, Tryz.ntmps57
  go_wp2
  all_goals (go_ret; exact ⟨ret_bool E0.out.symm, rfl⟩)
set_option maxRecDepth 100000 in
theorem isForeign_any (c : UInt8) (w : World) :
    Calls Tryz.prog 55 #[.int .u8 (c.toNat : Int)] w fun e w' => e = .returned (.bool (forB c)) ∧ w' = w := by
  by_cases h1 : 127 ≤ (c.toNat : Int)
  · have E0 : Hid (forB c = true) := Lib.hid (by have : 127 ≤ c.toNat := by omega
                                                 simp [forB, this])
    go_enter Tryz.func55, Tryz.ntmps55
    go_wp2
    all_goals (go_ret; exact ⟨ret_bool E0.out.symm, rfl⟩)
  by_cases h2 : (c.toNat : Int) < 32
  · have E0 : Hid (forB c = !blankN c.toNat) := Lib.hid (by have a1 : ¬ 127 ≤ c.toNat := by omega
                                                            have a2 : c.toNat < 32 := by omega
                                                            simp [forB, a1, a2])
    have h3 : (c.toNat : Int) < 127 := by omega
    clear h1
    go_enter Tryz.func55, Tryz.ntmps55
    go_wp2_with (go_at_call 57; refine (isBlank_any c.toNat _).mono ?_; rintro e w' ⟨rfl, rfl⟩)
    all_goals (go_ret; exact ⟨ret_bool (by rw [E0.out, show decide (127 ≤ (c.toNat : Int)) = false from by rw [decide_eq_false_iff_not]; omega]; rfl), rfl⟩)
  · have E0 : Hid (forB c = false) := Lib.hid (by have a1 : ¬ 127 ≤ c.toNat := by omega
                                                  have a2 : ¬ c.toNat < 32 := by omega
                                                  simp [forB, a1, a2])
    have h3 : (c.toNat : Int) < 127 := by omega
    have h4 : 32 ≤ (c.toNat : Int) := by omega
    clear h1 h2
    go_enter Tryz.func55, Tryz.ntmps55
    go_wp2
    all_goals (go_ret; exact ⟨ret_bool (by rw [E0.out, decide_eq_false_iff_not]; omega), rfl⟩)
end Go.Proofs.YtabkdaaenikliaaGreatDoor

namespace Go.Tx
open Go.Lib
def hashCut (l : List UInt8) : List UInt8 := l.takeWhile (· != 35)
theorem hashCut_eq (l : List UInt8) : hashCut l = if 0 ≤ indexByte l 35 then l.take (indexByte l 35).toNat else l := by
  induction l with
  | nil => simp [hashCut, indexByte]
  | cons c l ih =>
    have hge := indexByte_ge l 35
    unfold hashCut at ih ⊢
    by_cases hc : c = 35
    · subst hc; simp [indexByte]
    · have hb : (c == 35) = false := beq_eq_false_iff_ne.2 hc
      have hb2 : (c != 35) = true := by simp [hc]
      simp only [List.takeWhile_cons, hb2, if_true, indexByte, hb, Bool.false_eq_true, if_false]
      rw [ih]
      by_cases hr : 0 ≤ indexByte l 35
      · have h1 : (indexByte l 35 == -1) = false := beq_eq_false_iff_ne.2 (by omega)
        have h2 : (indexByte l 35 + 1).toNat = (indexByte l 35).toNat + 1 := by omega
        have h3 : 0 ≤ indexByte l 35 + 1 := by omega
        simp [hr, h1, h2, h3]
      · have h1 : (indexByte l 35 == -1) = true := by simp; omega
        simp [hr, h1]
theorem hashCut_snoc (l : List UInt8) (c : UInt8) : hashCut (l ++ [c]) = if (35 : UInt8) ∈ l ∨ c = 35 then hashCut l else l ++ [c] := by
  unfold hashCut
  induction l with
  | nil =>
    by_cases hc : c = 35 <;> simp [hc]
  | cons d l ih =>
    by_cases hd : d = 35
    · subst hd; simp
    · have hd' : ¬ (35 : UInt8) = d := fun h => hd h.symm
      have hb2 : (d != 35) = true := by simp [hd]
      simp only [List.cons_append, List.takeWhile_cons, hb2, if_true, ih, List.mem_cons, hd', false_or]
      split <;> rfl
theorem hashCut_none (l : List UInt8) (h : ¬ (35 : UInt8) ∈ l) : hashCut l = l := by
  unfold hashCut
  induction l with
  | nil => rfl
  | cons d l ih =>
    simp only [List.mem_cons, not_or] at h
    have hb2 : (d != 35) = true := by simp; exact fun h' => h.1 h'.symm
    simp only [List.takeWhile_cons, hb2, if_true, ih h.2]
def badSeg (l : List UInt8) : Bool := decide (512 < l.length) || l.any forB
def wordsOf (l : List UInt8) : List (List UInt8) := if badSeg l = true then [] else wordsL blankN (hashCut l)
theorem wordsOf_nil : wordsOf [] = [] := by decide
def tell (no : Nat) (l : List UInt8) : List (Nat × List (List UInt8)) := if wordsOf l = [] then [] else [(no, wordsOf l)]
/-- The lines that are told; 'cur': what stands ahead in the line. -/
def toldG : Nat → List UInt8 → List UInt8 → List (Nat × List (List UInt8))
  | no, cur, [] => tell no cur
  | no, cur, c :: l => if c = 10 then tell no cur ++ toldG (no + 1) [] l else toldG no (cur ++ [c]) l
theorem toldG_nl (i : Nat) : ∀ (l : List UInt8) (no : Nat) (cur : List UInt8), indexByte l 10 = i → toldG no cur l = tell no (cur ++ l.take i) ++ toldG (no + 1) [] (l.drop (i + 1)) := by
  induction i with
  | zero =>
    intro l no cur h
    cases l with
    | nil => simp [indexByte] at h
    | cons c l =>
      have hge := indexByte_ge l 10
      by_cases hc : c = 10
      · simp [toldG, hc]
      · have hb : (c == 10) = false := beq_eq_false_iff_ne.2 hc
        simp only [indexByte, hb, Bool.false_eq_true, if_false] at h
        split at h
        · cases h
        · rename_i h1
          have h1 : ¬ indexByte l 10 = -1 := by simpa using h1
          simp at h
          omega
  | succ i ih =>
    intro l no cur h
    cases l with
    | nil => simp [indexByte] at h; omega
    | cons c l =>
      by_cases hc : c = 10
      · subst hc; simp [indexByte] at h; omega
      · have hb : (c == 10) = false := beq_eq_false_iff_ne.2 hc
        simp only [indexByte, hb, Bool.false_eq_true, if_false] at h
        split at h
        · omega
        · have h' : indexByte l 10 = (i : Int) := by omega
          rw [toldG, if_neg hc, ih l no (cur ++ [c]) h']
          simp
theorem toldG_no : ∀ (l : List UInt8) (no : Nat) (cur : List UInt8), indexByte l 10 < 0 → toldG no cur l = tell no (cur ++ l) := by
  intro l
  induction l with
  | nil => intro no cur _; simp [toldG]
  | cons c l ih =>
    intro no cur h
    have hge := indexByte_ge l 10
    by_cases hc : c = 10
    · subst hc; simp [indexByte] at h
    · have hb : (c == 10) = false := beq_eq_false_iff_ne.2 hc
      simp only [indexByte, hb, Bool.false_eq_true, if_false] at h
      have h' : indexByte l 10 < 0 := by
        split at h
        · rename_i h1; have : indexByte l 10 = -1 := by simpa using h1
          omega
        · omega
      rw [toldG, if_neg hc, ih no (cur ++ [c]) h']
      simp
end Go.Tx

namespace Go.Proofs.YtabkdaaenikliaaGreatDoor
open Go.RowKit Go.Lib Go.Tx Go.Proofs
theorem slcut_no (s : ByteArray) (w : World) (hs : s.size ≤ 4294967296) (hi : Lib.indexByte s.data.toList 35 < 0) :
    Calls Tryz.prog 71 #[.string s, .string ⟨#[35]⟩] w fun e w' => e = .returned (.tuple #[.string s, .string ⟨#[]⟩, .bool false]) ∧ w' = w := by
  go_enter Tryz.func71, Tryz.ntmps71
  go_wp2_with (go_at_call 79; refine (Tryz.stringslite_Index_one s 35 _).mono ?_; rintro e w' ⟨rfl, rfl⟩)
  go_ret3
  exact ⟨rfl, rfl⟩
theorem slcut_yes (s : ByteArray) (i : Nat) (w : World) (hs : s.size ≤ 4294967296) (hi : Lib.indexByte s.data.toList 35 = i) (hlt : i < s.size) :
    Calls Tryz.prog 71 #[.string s, .string ⟨#[35]⟩] w fun e w' => e = .returned (.tuple #[.string (s.extract 0 i), .string (s.extract (i + 1) s.size), .bool true]) ∧ ∃ q, w' = w.drewN q := by
  go_enter Tryz.func71, Tryz.ntmps71
  go_wp2_with (go_at_call 79; refine (Tryz.stringslite_Index_one s 35 _).mono ?_; rintro e w' ⟨rfl, rfl⟩)
  go_quiet (fail)
  go_wp2
  go_ret3
  exact ⟨rfl, _, rfl⟩
def CutR (s : ByteArray) (w : World) (e : Ending) (w' : World) : Prop := ∃ x y, e = .returned (.tuple #[.string ⟨(hashCut s.data.toList).toArray⟩, x, y]) ∧ ∃ q, w' = w.drewN q
theorem ret_cut {s t : ByteArray} {x y : Value} (h : s = t) : Ending.returned (.tuple #[.string s, x, y]) = .returned (.tuple #[.string t, x, y]) := by rw [h]
theorem indexByte_lt (l : List UInt8) (c : UInt8) : Lib.indexByte l c < l.length ∨ l = [] := by
  induction l with
  | nil => exact .inr rfl
  | cons d l ih =>
    left
    unfold Lib.indexByte
    have hge := Lib.indexByte_ge l c
    split
    · simp
    · split
      · simp; omega
      · rcases ih with h | h
        · simp; omega
        · subst h; simp [Lib.indexByte] at *
theorem slcut_any (s : ByteArray) (w : World) (hs : s.size ≤ 4294967296) : Calls Tryz.prog 71 #[.string s, .string ⟨#[35]⟩] w (CutR s w) := by
  have hl : s.data.toList.length = s.size := rfl
  by_cases hi : Lib.indexByte s.data.toList 35 < 0
  · refine (slcut_no s w hs hi).mono ?_
    rintro e w' ⟨rfl, rfl⟩
    refine ⟨_, _, ret_cut ?_, 0, rfl⟩
    rw [hashCut_eq, if_neg (by omega)]
  · have hlt := indexByte_lt s.data.toList 35
    have hlt : (Lib.indexByte s.data.toList 35).toNat < s.size := by
      rcases hlt with h | h
      · omega
      · rw [h] at hi; simp [Lib.indexByte] at hi
    refine (slcut_yes s (Lib.indexByte s.data.toList 35).toNat w hs (by omega) hlt).mono ?_
    rintro e w' ⟨rfl, q, rfl⟩
    refine ⟨_, _, ret_cut ?_, q, rfl⟩
    rw [hashCut_eq, if_pos (by omega)]
    have : s.extract 0 (Lib.indexByte s.data.toList 35).toNat = ⟨(s.data.toList.take (Lib.indexByte s.data.toList 35).toNat).toArray⟩ := by
      have := ext_list s 0 (Lib.indexByte s.data.toList 35).toNat
      rw [List.drop_zero] at this
      rw [← this]
    rw [this]
theorem scut_any (s : ByteArray) (w : World) (hs : s.size ≤ 4294967296) : Calls Tryz.prog 49 #[.string s, .string ⟨#[35]⟩] w (CutR s w) := by
  go_enter Tryz.func49, Tryz.ntmps49
  go_wp2_with (go_at_call 71; refine (slcut_any s _ hs).mono ?_; rintro e w' ⟨x, y, rfl, q, rfl⟩)
  go_ret3
  exact ⟨_, _, rfl, q, rfl⟩
def IdxR (l : List UInt8) (w : World) (e : Ending) (w' : World) : Prop := ∃ r : Int, e = .returned (.int .i64 r) ∧ (decide (0 ≤ r) = l.any forB) ∧ w' = w
theorem any_no (l : List UInt8) (k : Nat) (hk : l.length ≤ k) (h : ∀ j b, j < k → l[j]? = some b → forB b = false) : l.any forB = false := by
  rw [List.any_eq_false]
  intro b hb
  obtain ⟨j, hj, rfl⟩ := List.getElem_of_mem hb
  rw [h j _ (by omega) (List.getElem?_eq_getElem hj)]
  simp
theorem any_yes (l : List UInt8) (k : Nat) (b : UInt8) (hk : l[k]? = some b) (h : forB b = true) : l.any forB = true := by
  rw [List.any_eq_true]
  exact ⟨b, List.mem_of_getElem? hk, h⟩
set_option maxHeartbeats 1000000 in
set_option maxRecDepth 100000 in
theorem idx_any (a : Option Addr) (n c : Nat) (l : List UInt8) (w : World) (h : BA w a n c l) :
    Calls Tryz.prog 78 #[.slice a n c, .func (.func 55) #[] #[]] w (IdxR l w) := by
  have hcap := h.cap
  have hmax := h.max
  have hlen := h.len
  go_enter Tryz.func78, Tryz.ntmps78
  go_wp2
  go_loop [8] (fun i => ∃ k : Nat, k ≤ n ∧ i = .int .i64 k ∧ Hid (∀ j b, j < k → l[j]? = some b → forB b = false)) (fun i => n - (intOf i).toNat)
  case atStart => exact ⟨0, Nat.zero_le _, rfl, Lib.hid (by omega)⟩
  case round =>
    obtain ⟨k, hk, rfl, hall⟩ := hrel
    by_cases hlt : k < n
    · have hkl : k < l.length := by omega
      obtain ⟨x, rfl⟩ : ∃ x, a = some x := by
        cases a with
        | none => have := h.none rfl; omega
        | some x => exact ⟨x, rfl⟩
      have hcell := h.cell x rfl k l[k] (List.getElem?_eq_getElem hkl)
      have HK := Lib.hid (List.getElem?_eq_getElem hkl)
      clear hlen
      generalize l[k] = b at hcell HK
      cases hb : forB b with
      | true =>
        have HB := Lib.hid hb
        clear hb
        go_wp2_with (go_at_call 55; refine (isForeign_any b _).mono ?_; rw [HB.out]; rintro e w' ⟨rfl, rfl⟩)
        go_ret
        exact ⟨k, rfl, by rw [any_yes l k b HK.out HB.out]; simp, rfl⟩
      | false =>
        have HB := Lib.hid hb
        clear hb
        go_wp2_with (go_at_call 55; refine (isForeign_any b _).mono ?_; rw [HB.out]; rintro e w' ⟨rfl, rfl⟩)
        go_round
        case rel => exact ⟨k + 1, hlt, by go_num, Lib.hid (by
          intro j d hj hd
          by_cases e : j = k
          · subst e
            have := HK.out
            rw [this] at hd
            cases hd
            exact HB.out
          · exact hall.out j d (by omega) hd)⟩
        case measure => simp [intOf]; omega
    · go_wp2
      go_ret
      exact ⟨-1, rfl, by rw [any_no l k (by omega) hall.out]; rfl, rfl⟩
end Go.Proofs.YtabkdaaenikliaaGreatDoor

namespace Go.Tx
/-- A slice of texts that reads as ws: nil, or a row from block B on. -/
def Strs (B : Nat) (w : World) (v : Value) (ws : List (List UInt8)) : Prop :=
  (v = .slice none 0 0 ∧ ws = []) ∨
  ∃ A, v = .slice (some ⟨A, 0, none⟩) ws.length ws.length ∧ B ≤ A ∧ w.ownsRow B 9 1 v ws.length (ws.map fun l => .string ⟨l.toArray⟩)
end Go.Tx
namespace Go.Proofs.YtabkdaaenikliaaGreatDoor
open Go.RowKit Go.Lib Go.Tx Go.Proofs
theorem cf_any (a : Option Addr) (n c : Nat) (l : List UInt8) (w : World) (h : BA w a n c l) :
    Calls Tryz.prog 54 #[.slice a n c, .func (.func 55) #[] #[]] w fun e w' => e = .returned (.bool (l.any forB)) ∧ w' = w := by
  go_enter Tryz.func54, Tryz.ntmps54
  go_wp2_with (go_at_call 78; refine (idx_any a n c l _ h).mono ?_; rintro e w' ⟨r, rfl, hr, rfl⟩)
  go_ret
  exact ⟨rfl, rfl⟩
theorem ba_str (a : Option Addr) (n c : Nat) (l : List UInt8) (w : World) (h : BA w a n c l) : (convert 41 9 (.slice a n c)).run Tryz.prog w = .ok (.string ⟨l.toArray⟩) w := by
  have hlen := h.len
  cases a with
  | none =>
    have := h.none rfl
    have hcap := h.cap
    obtain rfl : c = 0 := by omega
    obtain rfl : n = 0 := by omega
    obtain rfl : l = [] := List.eq_nil_of_length_eq_zero hlen
    rw [run_convert_bytes_string w 41 9 5 none 0 0 Tryz.underlying41 Tryz.underlying5 Tryz.underlying9]
    rfl
  | some x =>
    subst hlen
    exact run_convert_bytes_back w 41 9 5 x c l Tryz.underlying41 Tryz.underlying5 Tryz.underlying9 fun j hj => h.cell x rfl j _ (List.getElem?_eq_getElem hj)
def WordsR (w : World) (ws : List (List UInt8)) (e : Ending) (w' : World) : Prop := ∃ v, e = .returned v ∧ Strs w.heap.size w' v ws ∧ Below w.heap.size w w'
theorem blank_pays (w : World) : PredAt Tryz.prog 57 #[] encR blankN w := fun W x _ => by
  unfold FnGives
  refine (isBlank_any x W).mono ?_
  rintro e w' ⟨rfl, rfl⟩
  exact ⟨rfl, 0, rfl⟩
theorem enter72 (args : Array Value) (w : World) : (callFunc 57 args).run Tryz.prog w = .ok (.enter 57 args) w := Go.Ev.enters_run (by kernel_rfl) args w
theorem ff_any (l : List UInt8) (w : World) (hl : l.length ≤ 512) (ha : ∀ b ∈ l, forB b = false) :
    Calls Tryz.prog 56 #[.string ⟨l.toArray⟩, .func (.func 57) #[] #[]] w (WordsR w (wordsL blankN l)) := by
  refine (Tryz.strings_FieldsFunc 57 #[] enter72 blankN ⟨l.toArray⟩ w (by show l.toArray.size ≤ _; simp; omega) (blank_pays w)).mono ?_
  rintro e w' ⟨A, rfl, hA, hown, hb⟩
  have hf := fields_words blankN ⟨l.toArray⟩ (fun k h => by
    have hk : k < l.length := by have h2 : k < l.toArray.size := h; simpa using h2
    have := ha l[k] (List.getElem_mem hk)
    have h2 : l[k].toNat < 127 := by
      simp only [forB, Bool.or_eq_false_iff, decide_eq_false_iff_not] at this
      omega
    show l.toArray[k].toNat < 128
    simp; omega)
  have hg : (goFieldsP blankN ⟨l.toArray⟩).map Value.string = (wordsL blankN l).map fun l => Value.string ⟨l.toArray⟩ := by
    have h1 : (⟨l.toArray⟩ : ByteArray).data.toList = l := by simp
    rw [h1] at hf
    rw [← hf, List.map_map]
    apply List.map_congr_left
    intro x _
    simp
  have hlen : (goFieldsP blankN ⟨l.toArray⟩).length = (wordsL blankN l).length := by
    have := congrArg List.length hg
    simpa using this
  rw [hg, hlen] at hown
  rw [hlen]
  exact ⟨_, rfl, .inr ⟨A, rfl, hA, hown⟩, hb⟩
theorem words_long (a : Option Addr) (n c : Nat) (l : List UInt8) (w : World) (h : BA w a n c l) (hn : 512 < n) :
    Calls Tryz.prog 41 #[.slice a n c] w (WordsR w (wordsOf l)) := by
  have hb : Hid (wordsOf l = []) := Lib.hid (by have := h.len; simp [wordsOf, badSeg, this, hn])
  have hcap := h.cap
  have hmax := h.max
  go_enter Tryz.func41, Tryz.ntmps41
  go_wp2
  go_ret
  exact ⟨_, rfl, .inl ⟨rfl, hb.out⟩, Below.refl _ _⟩
theorem words_bad (a : Option Addr) (n c : Nat) (l : List UInt8) (w : World) (h : BA w a n c l) (hn : n ≤ 512) (hf : l.any forB = true) :
    Calls Tryz.prog 41 #[.slice a n c] w (WordsR w (wordsOf l)) := by
  have hb : Hid (wordsOf l = []) := Lib.hid (by simp [wordsOf, badSeg, hf])
  have HF := Lib.hid hf
  clear hf
  go_enter Tryz.func41, Tryz.ntmps41
  go_wp2_with (go_at_call 54; refine (cf_any a n c l _ h).mono ?_; rw [HF.out]; rintro e w' ⟨rfl, rfl⟩)
  go_ret
  exact ⟨_, rfl, .inl ⟨rfl, hb.out⟩, Below.refl _ _⟩
theorem cut_any (l : List UInt8) (w : World) (hl : l.length ≤ 512) : Calls Tryz.prog 49 #[.string ⟨l.toArray⟩, .string ⟨#[35]⟩] w fun e w' => ∃ x y, e = .returned (.tuple #[.string ⟨(hashCut l).toArray⟩, x, y]) ∧ ∃ q, w' = w.drewN q := by
  refine (scut_any ⟨l.toArray⟩ w (by show l.toArray.size ≤ _; simp; omega)).mono ?_
  rintro e w' ⟨x, y, rfl, q, rfl⟩
  exact ⟨x, y, by simp, q, rfl⟩
theorem takeWhile_len {α : Type} (p : α → Bool) : ∀ l : List α, (l.takeWhile p).length ≤ l.length
  | [] => Nat.le_refl _
  | x :: l => by
    unfold List.takeWhile
    split
    · simp; exact takeWhile_len p l
    · simp
theorem takeWhile_mem {α : Type} (p : α → Bool) : ∀ (l : List α) (x : α), x ∈ l.takeWhile p → x ∈ l
  | [], x, h => by simp at h
  | y :: l, x, h => by
    unfold List.takeWhile at h
    split at h
    · rcases List.mem_cons.1 h with h | h
      · simp [h]
      · simp [takeWhile_mem p l x h]
    · simp at h
set_option maxRecDepth 100000 in
theorem words_ok (a : Option Addr) (n c : Nat) (l : List UInt8) (w : World) (h : BA w a n c l) (hn : n ≤ 512) (hf : l.any forB = false) :
    Calls Tryz.prog 41 #[.slice a n c] w (WordsR w (wordsOf l)) := by
  have hlen := h.len
  have hb : wordsOf l = wordsL blankN (hashCut l) := by
    have : ¬ 512 < l.length := by omega
    simp [wordsOf, badSeg, hf, this]
  have hl : l.length ≤ 512 := by omega
  have hl2 : (hashCut l).length ≤ 512 := Nat.le_trans (takeWhile_len _ l) hl
  have ha : ∀ b ∈ hashCut l, forB b = false := fun b hb => by
    rw [List.any_eq_false] at hf
    simpa using hf b (takeWhile_mem _ l b hb)
  have HF := Lib.hid hf
  have HA := Lib.hid ha
  rw [hb]
  have hconv := ba_str a n c l w h
  clear hf ha hb hlen
  go_enter Tryz.func41, Tryz.ntmps41
  go_wp2_with (first | (go_at_call 54; refine (cf_any a n c l _ h).mono ?_; rw [HF.out]; rintro e w' ⟨rfl, rfl⟩) | (go_at_call 49; refine (cut_any l _ hl).mono ?_; rintro e w' ⟨x, y, rfl, q, rfl⟩) | (go_at_call 56; refine (ff_any (hashCut l) _ hl2 HA.out).mono ?_; rintro e w' ⟨v, rfl, hs, hbel⟩))
  go_ret
  exact ⟨_, rfl, hs, ⟨hbel.os, hbel.tape, hbel.output, hbel.size, hbel.block⟩⟩
theorem words_any (a : Option Addr) (n c : Nat) (l : List UInt8) (w : World) (h : BA w a n c l) :
    Calls Tryz.prog 41 #[.slice a n c] w (WordsR w (wordsOf l)) := by
  by_cases hn : 512 < n
  · exact words_long a n c l w h hn
  · cases hf : l.any forB with
    | true => exact words_bad a n c l w h (by omega) hf
    | false => exact words_ok a n c l w h (by omega) hf
end Go.Proofs.YtabkdaaenikliaaGreatDoor

namespace Go.Tx
open Go.RowKit
theorem own_below {B : Nat} {e : TypeId} {size n : Nat} {v : Value} {xs : List Value} {w w' : World} (h : w.ownsRow B e size v n xs) (hb : Below w.heap.size w w') : w'.ownsRow B e size v n xs := by
  refine ⟨h.1, ?_⟩
  rcases h.2 with h | ⟨g, cap, cur, h1, h2, h3, h4⟩
  · exact .inl h
  · exact .inr ⟨g, cap, cur, h1, h2, by rw [hb.block g (Array.getElem?_eq_some_iff.1 h3).1]; exact h3, h4⟩
theorem Strs.below {B : Nat} {v : Value} {ws : List (List UInt8)} {w w' : World} (h : Strs B w v ws) (hb : Below w.heap.size w w') : Strs B w' v ws := by
  rcases h with h | ⟨A, h1, h2, h3⟩
  · exact .inl h
  · exact .inr ⟨A, h1, h2, own_below h3 hb⟩
theorem own_base {B B' : Nat} {e : TypeId} {size n : Nat} {v : Value} {xs : List Value} {w : World} (h : w.ownsRow B e size v n xs) (hb : B' ≤ B) : w.ownsRow B' e size v n xs := by
  refine ⟨h.1, ?_⟩
  rcases h.2 with h | ⟨g, cap, cur, h1, h2, h4⟩
  · exact .inl h
  · exact .inr ⟨g, cap, cur, h1, Nat.le_trans hb h2, h4⟩
theorem Strs.base {B B' : Nat} {v : Value} {ws : List (List UInt8)} {w : World} (h : Strs B w v ws) (hb : B' ≤ B) : Strs B' w v ws := by
  rcases h with h | ⟨A, h1, h2, h3⟩
  · exact .inl h
  · exact .inr ⟨A, h1, Nat.le_trans hb h2, own_base h3 hb⟩
theorem Strs.shape {B : Nat} {v : Value} {ws : List (List UInt8)} {w : World} (h : Strs B w v ws) : ∃ p, v = .slice p ws.length ws.length := by
  rcases h with ⟨h, h2⟩ | ⟨A, h1, _⟩
  · subst h2; exact ⟨none, h⟩
  · exact ⟨_, h1⟩
theorem Strs.grown {B : Nat} {v : Value} {ws : List (List UInt8)} {w w' : World} {row : Option Nat} (h : Strs B w v ws) (hg : w.grownBy w' row) (hr : ∀ g, row = some g → ∃ cur fr, w.heap[g]? = some (.cells cur 95 fr)) : Strs B w' v ws := by
  rcases h with h | ⟨A, h1, h2, h3⟩
  · exact .inl h
  · refine .inr ⟨A, h1, h2, h3.kept hg ?_⟩
    cases row with
    | none => right; rw [h1]; simp [Value.ownBlock]
    | some g =>
      right
      rw [h1]
      simp only [Value.ownBlock, ne_eq, Option.some.injEq]
      rintro rfl
      obtain ⟨cur, fr, hc⟩ := hr A rfl
      rcases h3.2 with ⟨h4, _⟩ | ⟨g', cap, cur', h5, _, h6, _⟩
      · rw [h1] at h4; cases h4
      · rw [h1] at h5
        cases h5
        rw [hc] at h6
        cases h6
/-- A slice of lines that reads as T, in rows from block B on. -/
def LinesAt (B : Nat) (w : World) (v : Value) (T : List (Nat × List (List UInt8))) : Prop :=
  ∃ xs, w.ownsRow B 95 2 v T.length xs ∧ ∀ i no ws, T[i]? = some (no, ws) → xs[2 * i]? = some (.int .i64 (no : Int)) ∧ ∃ wv, xs[2 * i + 1]? = some wv ∧ Strs B w wv ws
theorem LinesAt.nil (B : Nat) (w : World) : LinesAt B w (.slice none 0 0) [] := ⟨[], World.ownsRow_nil w B 95 2, by simp⟩
theorem LinesAt.below {B : Nat} {v : Value} {T : List (Nat × List (List UInt8))} {w w' : World} (h : LinesAt B w v T) (hb : Below w.heap.size w w') : LinesAt B w' v T := by
  obtain ⟨xs, h1, h2⟩ := h
  refine ⟨xs, own_below h1 hb, fun i no ws hi => ?_⟩
  obtain ⟨a, wv, b, c⟩ := h2 i no ws hi
  exact ⟨a, wv, b, c.below hb⟩
theorem LinesAt.shape {B : Nat} {v : Value} {T : List (Nat × List (List UInt8))} {w : World} (h : LinesAt B w v T) : ∃ p c, v = .slice p T.length c := by
  obtain ⟨xs, h1, _⟩ := h
  rcases h1.2 with ⟨a, b⟩ | ⟨g, cap, cur, a, _⟩
  · exact ⟨none, 0, by rw [a, b]⟩
  · exact ⟨_, _, a⟩
/-- One line more. -/
theorem LinesAt.push {B : Nat} {v v' wv : Value} {T : List (Nat × List (List UInt8))} {w w' : World} {xs : List Value} {no : Nat} {ws : List (List UInt8)}
    (h1 : w.ownsRow B 95 2 v T.length xs) (h2 : ∀ i no ws, T[i]? = some (no, ws) → xs[2 * i]? = some (.int .i64 (no : Int)) ∧ ∃ wv, xs[2 * i + 1]? = some wv ∧ Strs B w wv ws)
    (hs : Strs B w wv ws) (ho : w'.ownsRow B 95 2 v' (T.length + 1) (xs ++ [.int .i64 (no : Int), wv])) (hg : w.grownBy w' v.ownBlock) : LinesAt B w' v' (T ++ [(no, ws)]) := by
  have hr : ∀ g, v.ownBlock = some g → ∃ cur fr, w.heap[g]? = some (.cells cur 95 fr) := by
    intro g hg
    rcases h1.2 with ⟨a, _⟩ | ⟨g', cap, cur, a, _, c, _⟩
    · rw [a] at hg; cases hg
    · rw [a] at hg
      cases hg
      exact ⟨cur, _, c⟩
  have hlen : xs.length = T.length * 2 := h1.1
  refine ⟨_, by simpa using ho, fun i no' ws' hi => ?_⟩
  by_cases hlt : i < T.length
  · rw [List.getElem?_append_left hlt] at hi
    obtain ⟨a, wv', b, c⟩ := h2 i no' ws' hi
    exact ⟨by rw [List.getElem?_append_left (by omega)]; exact a, wv', by rw [List.getElem?_append_left (by omega)]; exact b, c.grown hg hr⟩
  · have hle : i < (T ++ [(no, ws)]).length := (List.getElem?_eq_some_iff.1 hi).1
    have : i = T.length := by simp at hle; omega
    subst this
    rw [List.getElem?_append_right (Nat.le_refl _), Nat.sub_self] at hi
    cases hi
    refine ⟨?_, wv, ?_, hs.grown hg hr⟩
    · rw [List.getElem?_append_right (by omega), show 2 * T.length - xs.length = 0 from by omega]; rfl
    · rw [List.getElem?_append_right (by omega), show 2 * T.length + 1 - xs.length = 1 from by omega]; rfl
end Go.Tx

namespace Go.Proofs.YtabkdaaenikliaaGreatDoor
open Go.RowKit Go.Lib Go.Tx Go.Proofs
theorem idx10 (a : Option Addr) (n c : Nat) (l : List UInt8) (b2 : Nat) (w : World) (h : BA w a n c l) (h2 : w.cell? ⟨b2, 0, none⟩ = some (.int .u8 10)) :
    Calls Tryz.prog 53 #[.slice a n c, .slice (some ⟨b2, 0, none⟩) 1 1] w fun e w' => e = .returned (.int .i64 (Lib.indexByte l 10)) ∧ ∃ q, w' = w.drewN q := by
  have hlen := h.len
  cases a with
  | none =>
    have := h.none rfl
    have hcap := h.cap
    obtain rfl : c = 0 := by omega
    obtain rfl : n = 0 := by omega
    obtain rfl : l = [] := List.eq_nil_of_length_eq_zero hlen
    refine (Tryz.bytes_Index_one_nil b2 0 1 10 w h2).mono ?_
    rintro e w' ⟨rfl, rfl⟩
    exact ⟨rfl, 0, rfl⟩
  | some x =>
    have := Tryz.bytes_Index_one_at x n c b2 0 1 (l.map fun b => (b.toNat : Int)) 10 w (by simpa using hlen) (fun i hi => by
      have hil : i < l.length := by omega
      rw [h.cell x rfl i _ (List.getElem?_eq_getElem hil)]
      simp [hil]) h2
    have e1 : Lib.bytesOf (l.map fun b => (b.toNat : Int)) = l := by
      simp [Lib.bytesOf, Function.comp_def]
    rw [e1] at this
    refine this.mono ?_
    rintro e w' ⟨rfl, rfl⟩
    exact ⟨rfl, 0, rfl⟩
theorem _root_.Go.Tx.BA.take {w : World} {a : Option Addr} {n c : Nat} {l : List UInt8} (h : BA w a n c l) {i : Nat} (hi : i ≤ n) : BA w a i c (l.take i) :=
  ⟨by rw [List.length_take, h.len]; omega, Nat.le_trans hi h.cap, h.max, h.none, fun x hx j b hj => h.cell x hx j b (by
    rw [List.getElem?_take] at hj
    split at hj
    · exact hj
    · cases hj)⟩
theorem add_add (x : Addr) (i j : Nat) : (x.add i).add j = x.add (i + j) := by
  unfold Addr.add
  by_cases h1 : i = 0
  · subst h1; simp
  · by_cases h2 : j = 0
    · subst h2; simp [h1]
    · simp [h1, h2]; omega
theorem _root_.Go.Tx.BA.from {w : World} {a : Option Addr} {n c : Nat} {l : List UInt8} (h : BA w a n c l) {j : Nat} (hj : j ≤ n) : BA w (if c = j then a else a.map fun x => x.add j) (n - j) (c - j) (l.drop j) := by
  have hcap := h.cap
  have hmax := h.max
  refine ⟨by rw [List.length_drop, h.len], by omega, by omega, fun ha => ?_, fun x hx k b hk => ?_⟩
  · split at ha
    · omega
    · have : a = none := by simpa using ha
      have := h.none this
      omega
  · rw [List.getElem?_drop] at hk
    have hlt := (List.getElem?_eq_some_iff.1 hk).1
    rw [h.len] at hlt
    split at hx
    · omega
    · cases a with
      | none => simp at hx
      | some y =>
        simp at hx
        subst hx
        rw [add_add]
        exact h.cell y rfl _ b hk
theorem cut10_yes (a : Option Addr) (n c : Nat) (l : List UInt8) (b2 i : Nat) (w : World) (h : BA w a n c l) (h2 : w.cell? ⟨b2, 0, none⟩ = some (.int .u8 10)) (hn : n ≤ 1000000) (hi : Lib.indexByte l 10 = i) :
    Calls Tryz.prog 40 #[.slice a n c, .slice (some ⟨b2, 0, none⟩) 1 1] w fun e w' => e = .returned (.tuple #[.slice a i c, .slice (if c = i + 1 then a else a.map fun x => x.add (i + 1)) (n - (i + 1)) (c - (i + 1)), .bool true]) ∧ ∃ q, w' = w.drewN q := by
  have hlt := indexByte_lt l 10
  have hlt : i < n := by
    rw [hi, h.len] at hlt
    rcases hlt with hlt | hlt
    · omega
    · rw [hlt] at hi; simp [Lib.indexByte] at hi
  have := Tryz.bytes_Cut_of a (some ⟨b2, 0, none⟩) n c 1 1 (Lib.indexByte l 10) w h.cap (Lib.indexByte_ge _ _) (by rw [hi]; omega) (by omega) (idx10 a n c l b2 w h h2)
  rw [hi] at this
  have e1 : Lib.cutV a n c 1 (i : Int) = .tuple #[.slice a i c, .slice (if c = i + 1 then a else a.map fun x => x.add (i + 1)) (n - (i + 1)) (c - (i + 1)), .bool true] := by
    unfold Lib.cutV Lib.fromV
    rw [if_pos (by omega)]
    simp
  rw [e1] at this
  exact this
theorem cut10_no (a : Option Addr) (n c : Nat) (l : List UInt8) (b2 : Nat) (w : World) (h : BA w a n c l) (h2 : w.cell? ⟨b2, 0, none⟩ = some (.int .u8 10)) (hn : n ≤ 1000000) (hi : Lib.indexByte l 10 < 0) :
    Calls Tryz.prog 40 #[.slice a n c, .slice (some ⟨b2, 0, none⟩) 1 1] w fun e w' => e = .returned (.tuple #[.slice a n c, .slice none 0 0, .bool false]) ∧ ∃ q, w' = w.drewN q := by
  have := Tryz.bytes_Cut_of a (some ⟨b2, 0, none⟩) n c 1 1 (Lib.indexByte l 10) w h.cap (Lib.indexByte_ge _ _) (by omega) (by omega) (idx10 a n c l b2 w h h2)
  have e1 : Lib.cutV a n c 1 (Lib.indexByte l 10) = .tuple #[.slice a n c, .slice none 0 0, .bool false] := by
    unfold Lib.cutV
    rw [if_neg (by omega)]
  rw [e1] at this
  exact this
theorem info68 : (Tryz.prog.info? 95).map (fun i => (i.zero, i.size, i.bytes)) = some (some (.agg #[.int .i64 0, .slice none 0 0]), 2, 32) := by kernel_rfl
theorem _root_.Go.Tx.BA.nil (w : World) : BA w none 0 0 [] := ⟨rfl, Nat.le_refl _, by decide, fun _ => rfl, fun x hx => by cases hx⟩
def LinesR (w : World) (T : List (Nat × List (List UInt8))) (e : Ending) (w' : World) : Prop := ∃ v, e = .returned v ∧ LinesAt w.heap.size w' v T ∧ Below w.heap.size w w'
theorem new_cells (w : World) (x y : Value) (e : TypeId) : ∀ j u, [x, y][j]? = some u → (w.alloc (.cells #[x, y] e)).cell? ((⟨w.heap.size, 0, none⟩ : Addr).add j) = some u := by
  intro j u hj
  have ha : (⟨w.heap.size, 0, none⟩ : Addr).add j = ⟨w.heap.size, j, none⟩ := by unfold Addr.add; split <;> simp_all
  rw [ha, World.cell?_alloc_new]
  simpa using hj
def lenOfV : Value → Nat
  | .slice _ n _ => n
  | _ => 0
/-- What holds at the head of each round. -/
structure LI (w : World) (l0 : List UInt8) (body told no : Value) (wr : World) (a : Option Addr) (n c N : Nat) (l : List UInt8) (T : List (Nat × List (List UInt8))) : Prop where
  body : body = .slice a n c
  no : no = .int .i64 N
  ba : BA w a n c l
  old : ∀ x, a = some x → x.block < w.heap.size
  told : LinesAt w.heap.size wr told T
  all : toldG 1 [] l0 = T ++ toldG N [] l
  few : T.length + 1 ≤ N
  sum : N + n ≤ l0.length + 1
  bel : Below w.heap.size w wr
theorem words_none (a : Option Addr) (n c : Nat) (l : List UInt8) (w : World) (h : BA w a n c l) (hw : wordsOf l = []) :
    Calls Tryz.prog 41 #[.slice a n c] w fun e w' => ∃ p, e = .returned (.slice p 0 0) ∧ Below w.heap.size w w' := by
  refine (words_any a n c l w h).mono ?_
  rintro e w' ⟨v, rfl, hs, hb⟩
  obtain ⟨p, rfl⟩ := hs.shape
  rw [hw]
  exact ⟨p, rfl, hb⟩
theorem words_some (a : Option Addr) (n c : Nat) (l : List UInt8) (w : World) (h : BA w a n c l) (hw : ¬ wordsOf l = []) :
    Calls Tryz.prog 41 #[.slice a n c] w fun e w' => ∃ p k, e = .returned (.slice p k k) ∧ 0 < k ∧ Hid (Strs w.heap.size w' (.slice p k k) (wordsOf l)) ∧ Below w.heap.size w w' := by
  refine (words_any a n c l w h).mono ?_
  rintro e w' ⟨v, rfl, hs, hb⟩
  obtain ⟨p, rfl⟩ := hs.shape
  exact ⟨p, _, rfl, List.length_pos_iff.2 hw, Lib.hid hs, hb⟩
theorem tell_none {no : Nat} {l : List UInt8} (h : wordsOf l = []) : tell no l = [] := by simp [tell, h]
theorem tell_some {no : Nat} {l : List UInt8} (h : ¬ wordsOf l = []) : tell no l = [(no, wordsOf l)] := by simp [tell, h]
theorem told_end (N : Nat) : toldG N [] [] = [] := by simp [toldG, tell_none wordsOf_nil]
/-- The world behind a cut and the words of a line. -/
theorem bel_words {w wr w3 : World} {o : Obj} {q : Nat} (hbel : Below w.heap.size w wr) (hb3 : Below ((wr.alloc o).drewN q).heap.size ((wr.alloc o).drewN q) w3) : Below w.heap.size w w3 :=
  (below_drewN' (hbel.alloc hbel.size o) q).trans (hb3.mono (by have := hbel.size; show w.heap.size ≤ (wr.heap.push o).size; simp; omega))
set_option maxHeartbeats 2000000 in
set_option maxRecDepth 100000 in
theorem lines_any (a : Option Addr) (n c : Nat) (l : List UInt8) (w : World) (h : BA w a n c l) (hold : ∀ x, a = some x → x.block < w.heap.size) (hn : n ≤ 1000000) :
    Calls Tryz.prog 30 #[.slice a n c] w (LinesR w (toldG 1 [] l)) := by
  obtain ⟨i0, hi, hz0, hz1, hz2⟩ := info_parts info68
  have hsum := h.len
  have HS := Lib.hid hsum
  clear hsum
  go_enter Tryz.func30, Tryz.ntmps30
  go_wp2
  go_loopw [0, 3, 4] (fun body told no wr => ∃ a n c N l' T, LI w l body told no wr a n c N l' T) (fun body _ _ _ => lenOfV body)
  case atStart => exact ⟨a, n, c, 1, l, [], rfl, rfl, h, hold, LinesAt.nil _ _, rfl, by simp, by rw [HS.out]; omega, Below.refl _ _⟩
  case round =>
    clear h hold
    obtain ⟨a', n', c', N, l', T, hL⟩ := hrel
    obtain ⟨rfl, rfl, hba, hold, htold, hall, hfew, hsum, hbel⟩ := hL
    have hw0 := hbel.size
    by_cases hpos : 0 < n'
    · have hn' : n' ≤ 1000000 := by have := HS.out; omega
      have hN : N ≤ 1000001 := by have := HS.out; omega
      have HBA : Hid (∀ o, BA (wr.alloc o) a' n' c' l') := Lib.hid fun o => hba.below (hbel.alloc hbel.size o) hold
      have HQ : Hid (∀ o q, BA ((wr.alloc o).drewN q) a' n' c' l') := Lib.hid fun o q => hba.below (below_drewN' (hbel.alloc hbel.size o) q) hold
      have hcap := hba.cap
      have hmax := hba.max
      obtain ⟨xs, hown, hent⟩ := htold
      have HE := Lib.hid hent
      have HO := Lib.hid hown
      have HALL := Lib.hid hall
      have HLEN := Lib.hid hba.len
      clear hent hown hall
      by_cases hidx : Lib.indexByte l' 10 < 0
      · have HI := Lib.hid hidx
        clear hidx
        by_cases hws : wordsOf l' = []
        · have HW := Lib.hid hws
          clear hws hba
          go_wp2_with (first | (go_at_call 40; refine (cut10_no a' n' c' l' wr.heap.size _ (HBA.out _) (World.cell?_alloc_new _ _ _ _) hn' HI.out).mono ?_; rintro e w2 ⟨rfl, q, rfl⟩) | (go_at_call 41; refine (words_none a' n' c' l' _ (HQ.out _ _) HW.out).mono ?_; rintro e w3 ⟨p, rfl, hb3⟩))
          go_roundw
          case rel => exact ⟨none, 0, 0, N + 1, [], T, rfl, by go_num, BA.nil w, (fun x hx => by cases hx), (show LinesAt w.heap.size wr _ T from ⟨xs, HO.out, HE.out⟩).below (bel_words (Below.refl _ _) hb3), by rw [HALL.out, toldG_no _ _ _ HI.out, List.nil_append, tell_none HW.out, told_end], by omega, by omega, bel_words hbel hb3⟩
          case measure => exact hpos
        · have HW := Lib.hid hws
          clear hws hba
          go_wp2_with (first | (go_at_call 40; refine (cut10_no a' n' c' l' wr.heap.size _ (HBA.out _) (World.cell?_alloc_new _ _ _ _) hn' HI.out).mono ?_; rintro e w2 ⟨rfl, q, rfl⟩) | (go_at_call 41; refine (words_some a' n' c' l' _ (HQ.out _ _) HW.out).mono ?_; rintro e w3 ⟨p, k, rfl, hk, hs, hb3⟩) | (at_builtin; refine wpList_append_own _ rfl _ _ 92 rfl w.heap.size 95 i0 (.agg #[.int .i64 0, .slice none 0 0]) 2 32 Tryz.underlying92 hi hz0 hz1 hz2 rfl (by decide) _ _ _ rfl ((own_below (own_drewN (HO.out.alloc _) q) hb3).alloc _) ⟨w3.heap.size, 0, none⟩ 1 1 [.int .i64 N, .slice p k k] rfl rfl (new_cells _ _ _ _) (by simp [Value.oneCell']) (by unfold maxLen; omega) (by omega) (by have := (bel_words hbel hb3).size; show w.heap.size ≤ (w3.heap.push _).size; simp; omega) ?_; intro v' w5 hown5 hg5 _))
          go_roundw
          case rel => exact ⟨none, 0, 0, N + 1, [], T ++ [(N, wordsOf l')], rfl, by go_num, BA.nil w, (fun x hx => by cases hx), LinesAt.push ((own_below (own_drewN (HO.out.alloc _) q) hb3).alloc _) (fun i no ws h => by obtain ⟨x1, wv, x2, x3⟩ := HE.out i no ws h; exact ⟨x1, wv, x2, (x3.below (bel_words (Below.refl _ _) hb3)).below (Below.alloc (Below.refl _ _) (Nat.le_refl _) _)⟩) ((hs.out.base (by show w.heap.size ≤ (wr.heap.push _).size; simp; omega)).below (Below.alloc (Below.refl _ _) (Nat.le_refl _) _)) hown5 hg5, by rw [HALL.out, toldG_no _ _ _ HI.out, List.nil_append, tell_some HW.out, told_end, List.append_nil], by simp; omega, by omega, ((bel_words hbel hb3).alloc (bel_words hbel hb3).size _).grown hg5 (by have := (bel_words hbel hb3).size; show w.heap.size ≤ (w3.heap.push _).size; simp; omega) (fun g hg => (HO.out.lt g hg).1)⟩
          case measure => exact hpos
      · obtain ⟨i, hi'⟩ : ∃ i : Nat, Lib.indexByte l' 10 = i := ⟨(Lib.indexByte l' 10).toNat, by omega⟩
        have hlt : i < n' := by
          have h1 := indexByte_lt l' 10
          have h2 := HLEN.out
          rcases h1 with h1 | h1
          · omega
          · rw [h1] at h2; simp at h2; omega
        have HI := Lib.hid hi'
        have HF := Lib.hid (hba.from (j := i + 1) hlt)
        have HOLD : Hid (∀ x, (if c' = i + 1 then a' else a'.map fun x => x.add (i + 1)) = some x → x.block < w.heap.size) := Lib.hid (by
          intro x hx
          split at hx
          · exact hold x hx
          · cases a' with
            | none => simp at hx
            | some y =>
              simp at hx
              subst hx
              have : (y.add (i + 1)).block = y.block := by unfold Addr.add; split <;> rfl
              rw [this]
              exact hold y rfl)
        have HLT := Lib.hid hlt
        clear hidx hi' hba
        by_cases hws : wordsOf (l'.take i) = []
        · have HW := Lib.hid hws
          clear hws
          go_wp2_with (first | (go_at_call 40; refine (cut10_yes a' n' c' l' wr.heap.size i _ (HBA.out _) (World.cell?_alloc_new _ _ _ _) hn' HI.out).mono ?_; rintro e w2 ⟨rfl, q, rfl⟩) | (go_at_call 41; refine (words_none a' i c' (l'.take i) _ ((HQ.out _ _).take (Nat.le_of_lt HLT.out)) HW.out).mono ?_; rintro e w3 ⟨p, rfl, hb3⟩))
          go_roundw
          case rel => exact ⟨_, _, _, N + 1, _, T, rfl, by go_num, HF.out, HOLD.out, (show LinesAt w.heap.size wr _ T from ⟨xs, HO.out, HE.out⟩).below (bel_words (Below.refl _ _) hb3), by rw [HALL.out, toldG_nl i _ _ _ HI.out, List.nil_append, tell_none HW.out, List.nil_append], by omega, by omega, bel_words hbel hb3⟩
          case measure => simp only [lenOfV]; omega
        · have HW := Lib.hid hws
          clear hws
          go_wp2_with (first | (go_at_call 40; refine (cut10_yes a' n' c' l' wr.heap.size i _ (HBA.out _) (World.cell?_alloc_new _ _ _ _) hn' HI.out).mono ?_; rintro e w2 ⟨rfl, q, rfl⟩) | (go_at_call 41; refine (words_some a' i c' (l'.take i) _ ((HQ.out _ _).take (Nat.le_of_lt HLT.out)) HW.out).mono ?_; rintro e w3 ⟨p, k, rfl, hk, hs, hb3⟩) | (at_builtin; refine wpList_append_own _ rfl _ _ 92 rfl w.heap.size 95 i0 (.agg #[.int .i64 0, .slice none 0 0]) 2 32 Tryz.underlying92 hi hz0 hz1 hz2 rfl (by decide) _ _ _ rfl ((own_below (own_drewN (HO.out.alloc _) q) hb3).alloc _) ⟨w3.heap.size, 0, none⟩ 1 1 [.int .i64 N, .slice p k k] rfl rfl (new_cells _ _ _ _) (by simp [Value.oneCell']) (by unfold maxLen; omega) (by omega) (by have := (bel_words hbel hb3).size; show w.heap.size ≤ (w3.heap.push _).size; simp; omega) ?_; intro v' w5 hown5 hg5 _))
          go_roundw
          case rel => exact ⟨_, _, _, N + 1, _, T ++ [(N, wordsOf (l'.take i))], rfl, by go_num, HF.out, HOLD.out, LinesAt.push ((own_below (own_drewN (HO.out.alloc _) q) hb3).alloc _) (fun i no ws h => by obtain ⟨x1, wv, x2, x3⟩ := HE.out i no ws h; exact ⟨x1, wv, x2, (x3.below (bel_words (Below.refl _ _) hb3)).below (Below.alloc (Below.refl _ _) (Nat.le_refl _) _)⟩) ((hs.out.base (by show w.heap.size ≤ (wr.heap.push _).size; simp; omega)).below (Below.alloc (Below.refl _ _) (Nat.le_refl _) _)) hown5 hg5, by rw [HALL.out, toldG_nl i _ _ _ HI.out, List.nil_append, tell_some HW.out, List.append_assoc], by simp; omega, by omega, ((bel_words hbel hb3).alloc (bel_words hbel hb3).size _).grown hg5 (by have := (bel_words hbel hb3).size; show w.heap.size ≤ (w3.heap.push _).size; simp; omega) (fun g hg => (HO.out.lt g hg).1)⟩
          case measure => simp only [lenOfV]; omega
    · have HALL := Lib.hid hall
      have HT := Lib.hid htold
      obtain rfl : l' = [] := List.eq_nil_of_length_eq_zero (by have := hba.len; omega)
      clear hall htold hba
      go_wp2
      go_ret
      exact ⟨_, rfl, by rw [HALL.out, told_end, List.append_nil]; exact HT.out, hbel⟩
end Go.Proofs.YtabkdaaenikliaaGreatDoor

namespace Go.Tx
open Go.RowKit Go.Rb
theorem LinesAt.read {B : Nat} {w : World} {v : Value} {T : List (Nat × List (List UInt8))} (h : LinesAt B w v T) (h0 : 0 < T.length) :
    ∃ g cap, v = .slice (some ⟨g, 0, none⟩) T.length cap ∧ T.length ≤ cap ∧ cap ≤ 9223372036854775807 ∧ B ≤ g ∧ ∀ (i no : Nat) (ws : List (List UInt8)), T[i]? = some (no, ws) → w.cell? ⟨g, 2 * i, none⟩ = some (.int .i64 (no : Int)) ∧ ∃ p, w.cell? ⟨g, 2 * i + 1, none⟩ = some (.slice p ws.length ws.length) ∧ Strs B w (.slice p ws.length ws.length) ws := by
  obtain ⟨xs, h1, h2⟩ := h
  rcases h1.2 with ⟨a, b⟩ | ⟨g, cap, cur, a, a2, a3, a4, a5, _⟩
  · omega
  · subst a
    refine ⟨g, cap, rfl, a4, a5, a2, fun i no ws hi => ?_⟩
    obtain ⟨x, wv, y, z⟩ := h2 i no ws hi
    have hlt : i < T.length := (List.getElem?_eq_some_iff.1 hi).1
    obtain ⟨p, rfl⟩ := z.shape
    exact ⟨by rw [h1.cellAt _ (by omega)]; exact x, p, by rw [h1.cellAt _ (by omega)]; exact y, z⟩
theorem ba_row {w : World} {b cap : Nat} {l : List UInt8} (h : RowB 5 w b cap l) (hc : cap ≤ 9223372036854775807) : BA w (some ⟨b, 0, none⟩) l.length cap l := by
  have hl : l.length ≤ cap := by obtain ⟨_, _, _, _, _, _, h4, _⟩ := h; exact h4
  refine ⟨rfl, hl, hc, (fun h => by cases h), fun x hx j c hj => ?_⟩
  cases hx
  have ha : (⟨b, 0, none⟩ : Addr).add j = ⟨b, j, none⟩ := by unfold Addr.add; split <;> simp_all
  rw [ha]
  exact h.cell hj
theorem row_made {P : Program} {src dst : TypeId} (s : ByteArray) (w : World) (hm : s.size ≤ maxLen) (hs : P.underlying src = some .string) (hd : P.underlying dst = some (.slice 5)) (he : P.underlying 5 = some (.int .u8)) :
    ∃ (cap : Nat) (o : Obj), (convert src dst (.string s)).run P w = .ok (.slice (some ⟨w.heap.size, 0, none⟩) s.size cap) (w.drew.alloc o) ∧ s.size ≤ cap ∧ cap ≤ 9223372036854775807 ∧ RowB 5 (w.alloc o) w.heap.size cap s.data.toList := by
  have hge := grownCap_ge w s.size 0 5
  have hle := grownCap_le_maxLen w s.size 0 5 hm
  unfold maxLen at hle
  have hsz : s.data.size = s.size := rfl
  have hC : (bytesRow s (grownCap w s.size 0 5)).size = grownCap w s.size 0 5 := by simp [bytesRow, hsz]; omega
  refine ⟨grownCap w s.size 0 5, _, run_bytes_of_string w src dst 5 s hs hd he, hge, by omega, _, _, _, heap_alloc_new w _, .inl (by rw [hC]; exact Nat.le_refl _), hC, by simpa [hsz] using hge, fun j c hj => ?_⟩
  have hj' : j < s.data.size := by
    have := (List.getElem?_eq_some_iff.1 hj).1
    simpa using this
  rw [bytesRow_at s _ j hj']
  rw [Array.getElem?_toList, Array.getElem?_eq_getElem hj'] at hj
  cases hj
  rfl
theorem lines_one {B : Nat} {w : World} {v : Value} {a : Nat} {ws : List (List UInt8)} (h : LinesAt B w v [(a, ws)]) :
    ∃ g cap, v = .slice (some ⟨g, 0, none⟩) 1 cap ∧ 1 ≤ cap ∧ w.cell? ⟨g, 0, none⟩ = some (.int .i64 (a : Int)) := by
  obtain ⟨g, cap, h1, h2, _, _, h3⟩ := h.read (by simp)
  exact ⟨g, cap, h1, h2, (h3 0 a ws rfl).1⟩
theorem lines_two {B : Nat} {w : World} {v : Value} {a b : Nat} {ws us : List (List UInt8)} (h : LinesAt B w v [(a, ws), (b, us)]) :
    ∃ g cap p, v = .slice (some ⟨g, 0, none⟩) 2 cap ∧ 2 ≤ cap ∧ w.cell? ⟨g, 0, none⟩ = some (.int .i64 (a : Int)) ∧ w.cell? ⟨g, 1, none⟩ = some (.slice p ws.length ws.length) ∧ w.cell? ⟨g, 2, none⟩ = some (.int .i64 (b : Int)) := by
  obtain ⟨g, cap, h1, h2, _, _, h3⟩ := h.read (by simp)
  obtain ⟨x1, p, x2, _⟩ := h3 0 a ws rfl
  exact ⟨g, cap, p, h1, h2, x1, x2, (h3 1 b us rfl).1⟩
theorem bcat (a : List UInt8) (b : Array UInt8) : (⟨a.toArray⟩ : ByteArray) ++ ⟨b⟩ = ⟨(a ++ b.toList).toArray⟩ := by
  apply ByteArray.ext
  simp
end Go.Tx

namespace Go.Tx
/-- ' w', k times. -/
def rep : Nat → List UInt8
  | 0 => []
  | k + 1 => rep k ++ [32, 119]
theorem rep_len (k : Nat) : (rep k).length = 2 * k := by
  induction k with
  | zero => rfl
  | succ k ih => simp [rep, ih]; omega
theorem rep_mem (k : Nat) : ∀ b ∈ rep k, b = 32 ∨ b = 119 := by
  induction k with
  | zero => simp [rep]
  | succ k ih =>
    intro b hb
    simp [rep] at hb
    rcases hb with h | h | h
    · exact ih b h
    · exact .inl h
    · exact .inr h
def Fine (l : List UInt8) : Prop := ∀ b ∈ l, 32 ≤ b.toNat ∧ b.toNat ≤ 126
theorem fine_ok {l : List UInt8} (h : Fine l) : l.any forB = false := by
  rw [List.any_eq_false]
  intro b hb
  obtain ⟨h1, h2⟩ := h b hb
  have a1 : ¬ 127 ≤ b.toNat := by omega
  have a2 : ¬ b.toNat < 32 := by omega
  simp [forB, a1, a2]
theorem hash_front {l m : List UInt8} (h : ¬ (35 : UInt8) ∈ l) : hashCut (l ++ 35 :: m) = l := by
  unfold hashCut
  induction l with
  | nil => simp
  | cons d l ih =>
    simp only [List.mem_cons, not_or] at h
    have hb2 : (d != 35) = true := by simp; exact fun h' => h.1 h'.symm
    simp only [List.cons_append, List.takeWhile_cons, hb2, if_true, ih h.2]
theorem rep_fold (k : Nat) : (rep k).foldl (stepW blankN) ([], []) = (if k = 0 then [] else [119], List.replicate (k - 1) [119]) := by
  induction k with
  | zero => rfl
  | succ k ih =>
    simp only [rep, List.foldl_append, ih]
    cases k with
    | zero => rfl
    | succ k =>
      have h1 : blankN (32 : UInt8).toNat = true := rfl
      have h2 : ¬ blankN (119 : UInt8).toNat = true := by decide
      simp only [List.foldl_cons, List.foldl_nil]
      rw [stepW_end h1 (by simp), stepW_in h2]
      simp
      rw [← List.replicate_succ', Nat.add_comm]
theorem rep_words (k : Nat) : wordsL blankN (rep k) = List.replicate k [119] := by
  unfold wordsL closeW
  rw [rep_fold]
  cases k with
  | zero => rfl
  | succ k =>
    simp
    rw [← List.replicate_succ', Nat.add_comm]
theorem words_line (k : Nat) (more : List UInt8) (hk : k ≤ 10) (hm : more.length ≤ 50) (hf : Fine more) : wordsOf (rep k ++ 35 :: more) = List.replicate k [119] := by
  have hfine : Fine (rep k ++ 35 :: more) := by
    intro b hb
    simp only [List.mem_append, List.mem_cons] at hb
    rcases hb with h | h | h
    · rcases rep_mem k b h with h | h <;> subst h <;> decide
    · subst h; decide
    · exact hf b h
  have h1 := fine_ok hfine
  have h2 : ¬ 512 < (rep k ++ 35 :: more).length := by
    simp [rep_len]; omega
  have h3 : ¬ (35 : UInt8) ∈ rep k := fun h => by rcases rep_mem k 35 h with h | h <;> cases h
  unfold wordsOf badSeg
  rw [h1, hash_front h3, rep_words, decide_eq_false h2]
  rfl
theorem toldG_plain : ∀ (l : List UInt8) (no : Nat) (cur r : List UInt8), Fine l → toldG no cur (l ++ r) = toldG no (cur ++ l) r := by
  intro l
  induction l with
  | nil => intro no cur r _; simp
  | cons c l ih =>
    intro no cur r h
    have hc : ¬ c = 10 := by
      intro e
      have := (h c (by simp)).1
      subst e
      revert this
      decide
    rw [List.cons_append, toldG, if_neg hc, ih no (cur ++ [c]) r (fun b hb => h b (by simp [hb]))]
    simp
theorem told_line (k : Nat) (more : List UInt8) (hk : k ≤ 10) (hm : more.length ≤ 50) (hf : Fine more) : toldG 1 [] (rep k ++ [35] ++ more ++ [10, 120]) = (if k = 0 then [] else [(1, List.replicate k [119])]) ++ [(2, [[120]])] := by
  have h1 : rep k ++ [35] ++ more ++ [10, 120] = (rep k ++ 35 :: more) ++ [10, 120] := by simp
  have hfine : Fine (rep k ++ 35 :: more) := by
    intro b hb
    simp only [List.mem_append, List.mem_cons] at hb
    rcases hb with h | h | h
    · rcases rep_mem k b h with h | h <;> subst h <;> decide
    · subst h; decide
    · exact hf b h
  rw [h1, toldG_plain _ _ _ _ hfine, List.nil_append]
  have h2 : toldG 1 (rep k ++ 35 :: more) [10, 120] = tell 1 (rep k ++ 35 :: more) ++ tell 2 [120] := rfl
  rw [h2]
  have h3 : tell 2 [120] = [(2, [[120]])] := by decide
  rw [h3]
  unfold tell
  rw [words_line k more hk hm hf]
  cases k with
  | zero => rfl
  | succ k => simp [List.replicate_succ]
end Go.Tx

namespace Go.Tx
/-- k letters, then what is not yet written. -/
def fillL (k n : Nat) : List UInt8 := List.replicate k 120 ++ List.replicate (n - k) 0
theorem fillL_len (k n : Nat) (h : k ≤ n) : (fillL k n).length = n := by simp [fillL]; omega
theorem fillL_step (k n : Nat) (h : k < n) : fillL (k + 1) n = (fillL k n).set k 120 := by
  apply List.ext_getElem?
  intro j
  unfold fillL
  rw [List.getElem?_set, List.getElem?_append, List.getElem?_append]
  simp only [List.length_replicate, List.getElem?_replicate, List.length_append]
  by_cases h1 : k = j
  · subst h1
    rw [if_pos (by omega), if_pos (by omega), if_pos rfl, if_pos (by omega)]
  · rw [if_neg h1]
    by_cases h2 : j < k
    · rw [if_pos (by omega), if_pos (by omega), if_pos h2, if_pos h2]
    · rw [if_neg (by omega), if_neg h2]
      by_cases h3 : j - k < n - k
      · rw [if_pos (by omega), if_pos h3]
      · rw [if_neg (by omega), if_neg h3]
theorem fillL_all (n : Nat) : fillL n n = List.replicate n 120 := by simp [fillL]
/-- The long line. -/
def longL (n : Nat) (hash : Bool) : List UInt8 := if hash = true then (List.replicate n 120).set 2 35 else List.replicate n 120
theorem longL_len (n : Nat) (hash : Bool) : (longL n hash).length = n := by unfold longL; split <;> simp
theorem longL_fine (n : Nat) (hash : Bool) : Fine (longL n hash) := by
  intro b hb
  have : b = 120 ∨ b = 35 := by
    unfold longL at hb
    split at hb
    · rcases List.mem_or_eq_of_mem_set hb with h | h
      · exact .inl (List.eq_of_mem_replicate h)
      · exact .inr h
    · exact .inl (List.eq_of_mem_replicate hb)
  rcases this with rfl | rfl <;> decide
theorem fold_x (k : Nat) (u : List UInt8 × List (List UInt8)) : (List.replicate k (120 : UInt8)).foldl (stepW blankN) u = (u.1 ++ List.replicate k 120, u.2) := by
  induction k generalizing u with
  | zero => simp
  | succ k ih =>
    rw [List.replicate_succ, List.foldl_cons, stepW_in (by decide), ih]
    simp [List.replicate_succ]
theorem words_x (k : Nat) (hk : 0 < k) : wordsL blankN (List.replicate k 120) = [List.replicate k 120] := by
  unfold wordsL closeW
  rw [fold_x]
  have : ¬ ([] ++ List.replicate k (120 : UInt8)) = [] := by
    intro h
    have := congrArg List.length h
    simp at this
    omega
  rw [if_neg this]
  simp
theorem longL_cut (n : Nat) (hash : Bool) (hn : 505 ≤ n) : hashCut (longL n hash) = if hash = true then List.replicate 2 120 else List.replicate n 120 := by
  unfold longL
  split
  · have e : (List.replicate n (120 : UInt8)).set 2 35 = List.replicate 2 120 ++ 35 :: List.replicate (n - 3) 120 := by
      apply List.ext_getElem?
      intro j
      rw [List.getElem?_set, List.getElem?_append]
      simp only [List.length_replicate, List.getElem?_replicate]
      by_cases h1 : 2 = j
      · subst h1; rw [if_pos rfl, if_pos (by omega), if_neg (by omega)]; rfl
      · rw [if_neg h1]
        by_cases h2 : j < 2
        · rw [if_pos (by omega), if_pos h2, if_pos h2]
        · rw [if_neg h2]
          obtain ⟨i, rfl⟩ : ∃ i, j = i + 3 := ⟨j - 3, by omega⟩
          rw [show i + 3 - 2 = i + 1 from by omega, List.getElem?_cons_succ, List.getElem?_replicate]
          by_cases h3 : i + 3 < n
          · rw [if_pos h3, if_pos (by omega)]
          · rw [if_neg h3, if_neg (by omega)]
    rw [e]
    exact hash_front (by decide)
  · exact hashCut_none _ (by
      intro h
      have := List.eq_of_mem_replicate h
      cases this)
theorem longL_words (n : Nat) (hash : Bool) (hn : 505 ≤ n) : wordsOf (longL n hash) = if n ≤ 512 then [if hash = true then List.replicate 2 120 else List.replicate n 120] else [] := by
  unfold wordsOf badSeg
  rw [fine_ok (longL_fine n hash), longL_len, longL_cut n hash hn]
  by_cases h : n ≤ 512
  · rw [decide_eq_false (by omega), if_pos h]
    cases hash with
    | true => exact words_x 2 (by omega)
    | false => exact words_x n (by omega)
  · rw [decide_eq_true (by omega), if_neg h]
    rfl
theorem told_long (n : Nat) (hash : Bool) (hn : 505 ≤ n) : toldG 1 [] ([97, 10] ++ longL n hash ++ [10, 98]) =
    (1, [[97]]) :: ((if n ≤ 512 then [(2, [if hash = true then List.replicate 2 120 else List.replicate n 120])] else []) ++ [(3, [[98]])]) := by
  have h1 : [97, 10] ++ longL n hash ++ [10, 98] = (97 : UInt8) :: 10 :: (longL n hash ++ [10, 98]) := by simp
  rw [h1, toldG, if_neg (by decide), toldG, if_pos rfl, toldG_plain _ _ _ _ (longL_fine n hash)]
  have h2 : toldG (1 + 1) ([] ++ longL n hash) [10, 98] = tell 2 (longL n hash) ++ tell 3 [98] := rfl
  have h3 : tell 3 [98] = [(3, [[98]])] := by decide
  have h4 : tell 1 ([] ++ [97]) = [(1, [[97]])] := by decide
  rw [h2, h3, h4]
  unfold tell
  rw [longL_words n hash hn]
  by_cases h : n ≤ 512
  · rw [if_pos h, if_pos h]; simp
  · rw [if_neg h, if_neg h]; simp
end Go.Tx

namespace Go.Rb
open Go.RowKit Go.Ev
theorem wpList_append_row {P : Program} {ops : Array Oper} {rest : List Oper} {o : Oper} {a : Act} {w : World} {Q : Exit → Act → World → Prop} (hgd : o.guard = none) (s x : Operand) (t u : TypeId)
    (ho : o.op = .call { callee := .builtin .append, args := #[s, x], argTypes := #[t, u] }) {d : TypeDesc} {i : TypeInfo}
    (ht : P.underlying t = some (.slice 5)) (hu : P.underlying u = some d) (hd : ∀ k, d ≠ .int k) (hi : P.info? 5 = some i) (hz0 : i.zero = some (.int .u8 0)) (hz1 : i.size = 1) (hz2 : i.bytes = 1)
    {b cap n N B : Nat} {l m : List UInt8} {v : Value} (hs : a.eval s = .slice (some ⟨b, 0, none⟩) n cap) (hn : l.length = n) (hx : a.eval x = v) (hr : RowB 5 w b cap l) (hv : Src P w v m) (hB : B ≤ b) (hcap : cap ≤ 9223372036854775807) (hN : n + m.length = N) (hbd : N ≤ 1000000)
    (h : ∀ b' cap' w', RowB 5 w' b' cap' (l ++ m) → Below B w w' → B ≤ b' → cap' ≤ 9223372036854775807 → N ≤ cap' → wpList P ops Q rest (a.put o.dst (.slice (some ⟨b', 0, none⟩) N cap')) w') : wpList P ops Q (o :: rest) a w :=
  wpList_plain hgd fun _ hK => by
    subst hn hN
    obtain ⟨b', cap', w', e1, e2, e3, e4, e5, e6⟩ := run_append_row (P := P) (ts := #[t, u]) (ty := o.type) (t := t) (u := u) rfl rfl ht hu hd hi hz0 hz1 hz2 hr hv hB hcap hbd
    unfold Oper.wp execOp
    simp only [ho, resolve, invoke, builtin, Sem.run_bind, Sem.run_pure, Result.andThen_ok, List.map_toArray, List.map_cons, List.map_nil, hs, hx, e1]
    exact hK _ _ (h b' cap' w' e2 e3 e4 e5 e6)
end Go.Rb
namespace Go.Proofs.YtabkdaaenikliaaGreatDoor
open Go.RowKit Go.Rb Go.Tx
theorem info5 : (Tryz.prog.info? 5).map (fun i => (i.zero, i.size, i.bytes)) = some (some (.int .u8 0), 1, 1) := by kernel_rfl
theorem make_row (n : Nat) (hn : n ≤ 1000) (w : World) : ∃ o, (Instr.makeSlice 41 (.int .i64 n) (.int .i64 n)).run Tryz.prog w = .ok (.slice (some ⟨w.heap.size, 0, none⟩) n n) (w.alloc o) ∧ RowB 5 (w.alloc o) w.heap.size n (fillL 0 n) := by
  obtain ⟨i0, hi, hz0, hz1, hz2⟩ := info_parts info5
  have hr := run_make (P := Tryz.prog) w 41 5 i0 _ Tryz.underlying41 hi hz0 .i64 .i64 n n (by omega) (Int.le_refl _) (by rw [hz2]; omega) (by omega)
  refine ⟨_, hr, _, 0, 0, heap_alloc_new w _, .inr rfl, ?_, by rw [fillL_len 0 n (Nat.zero_le _)]; exact Nat.le_refl _, fun j c hj => ?_⟩
  · rw [size_madeCells, hz1]; simp
  · have hjl := (List.getElem?_eq_some_iff.1 hj).1
    rw [fillL_len 0 n (Nat.zero_le _)] at hjl
    have hc : c = 0 := by
      unfold fillL at hj
      simp only [List.replicate_zero, List.nil_append, Nat.sub_zero, List.getElem?_replicate, hjl, if_true, Option.some.injEq] at hj
      exact hj.symm
    subst hc
    rw [hz1]
    simp [madeCells, hjl, Value.cells, Nat.mod_one]
end Go.Proofs.YtabkdaaenikliaaGreatDoor

namespace Go.Rb
open Go.RowKit Go.Ev Go.Tx
theorem Src.ba {P : Program} {w : World} {x : Addr} {n c : Nat} {l : List UInt8} (h : BA w (some x) n c l) : Src P w (.slice (some x) n c) l := by
  obtain rfl := h.len
  refine ⟨fun w' => rfl, fun w' hw => ?_⟩
  refine run_firstCells_some w' 1 _ _ l.length c (vbytes l) (by simp [vbytes]) fun j v hj => ?_
  simp only [vbytes, List.getElem?_map, Option.map_eq_some_iff] at hj
  obtain ⟨c, hc, rfl⟩ := hj
  rw [World.cell?_of_block (w := w) (by rw [hw])]
  simpa using h.cell x rfl j c hc
theorem RowB.nil (w : World) (e : TypeId) : RowB e (w.alloc (.cells #[] e)) w.heap.size 0 [] :=
  ⟨#[], 0, 0, heap_alloc_new w _, .inr rfl, rfl, Nat.le_refl _, fun j c h => by simp at h⟩
end Go.Rb
namespace Go.Proofs.YtabkdaaenikliaaGreatDoor
open Go.RowKit Go.Lib Go.Tx Go.Mp Go.Rb Go.Ev
def RowR (w : World) (l : List UInt8) (e : Ending) (w' : World) : Prop :=
  ∃ g c, e = .returned (.slice (some ⟨g, 0, none⟩) l.length c) ∧ w.heap.size ≤ g ∧ RowB 5 w' g c l ∧ c ≤ 9223372036854775807 ∧ Below w.heap.size w w'
set_option maxRecDepth 100000 in
theorem cloneb_any (x : Addr) (n c : Nat) (l : List UInt8) (w : World) (h : BA w (some x) n c l) (hx : x.block < w.heap.size) (hl : l.length ≤ 100000) :
    Calls Tryz.prog 20 #[.slice (some x) n c] w (RowR w l) := by
  have k33 := eql33 (some x) n c
  obtain ⟨i0, hi, hz0, hz1, hz2⟩ := info_parts info5
  have hb0 : Below w.heap.size w (w.alloc (.cells #[] 5)) := (Below.refl _ w).alloc (Nat.le_refl _) _
  have hsrc : Src Tryz.prog (w.alloc (.cells #[] 5)) (.slice (some x) n c) l := Src.ba (h.below hb0 (fun y hy => by cases hy; exact hx))
  have hrow := RowB.nil w 5
  have HS := Lib.hid hsrc
  have HR := Lib.hid hrow
  have HB := Lib.hid hb0
  clear h hsrc hrow hb0
  go_enter Tryz.func20, Tryz.ntmps20
  go_wp2_with (at_builtin; refine wpList_append_row (l := []) (m := l) (n := 0) (v := .slice (some x) n c) (b := w.heap.size) (cap := 0) (B := w.heap.size) rfl _ _ 41 41 rfl Tryz.underlying41 Tryz.underlying41 (by intro k hk; cases hk) hi hz0 hz1 hz2 rfl rfl (by first | rfl | (simp only [Act.eval, Act.put]; rfl)) HR.out HS.out (Nat.le_refl _) (by omega) (Nat.zero_add _) (by omega) ?_; intro b' cap' w' hr hb hB hcap hN)
  go_ret
  exact ⟨b', cap', rfl, hB, hr, hcap, HB.out.trans hb⟩
/-- A file of the world that holds bytes. -/
def FileB (w : World) (g c : Nat) (st : Int) (l : List UInt8) : Prop := RowB 5 w g c l ∧ c ≤ 9223372036854775807 ∧ 0 ≤ st
def fileB (g n c : Nat) (st : Int) : Value := .agg #[.slice (some ⟨g, 0, none⟩) n c, .int .i64 st, .bool true]
def PutR (w : World) (b : Nat) (st : Int) (mp : Option Nat) (F : ByteArray → Option Value) (p : ByteArray) (l : List UInt8) (e : Ending) (w' : World) : Prop :=
  e = .returned (.tuple #[]) ∧ ∃ g c m, w.heap.size ≤ g ∧ (mp = some m ∨ (mp = none ∧ w.heap.size ≤ m)) ∧ g ≠ m ∧ RowB 5 w' g c l ∧ c ≤ 9223372036854775807 ∧ WS w' b (st + 1) (some m) (upd F p (fileB g l.length c (st + 1))) ∧ Turned w w' b mp
theorem FM_lt {w : World} {b m : Nat} {F : ByteArray → Option Value} (h : FM w b (some m) F) : m < w.heap.size := h.2.lt
theorem rowB_same {w w' : World} {e : TypeId} {g c : Nat} {l : List UInt8} (h : RowB e w g c l) (hh : w'.heap[g]? = w.heap[g]?) : RowB e w' g c l := by
  obtain ⟨arr, lo, hi, h1, h2⟩ := h
  exact ⟨arr, lo, hi, hh.trans h1, h2⟩
theorem rowB_lt {w : World} {e : TypeId} {g c : Nat} {l : List UInt8} (h : RowB e w g c l) : g < w.heap.size := by
  obtain ⟨arr, lo, hi, h1, h2⟩ := h
  exact (Array.getElem?_eq_some_iff.1 h1).1
set_option maxRecDepth 100000 in
theorem putb_any (b : Nat) (mp : Option Nat) (st : Int) (F : ByteArray → Option Value) (p : ByteArray) (x : Addr) (n c : Nat) (l : List UInt8) (w : World) (h : WS w b st mp F) (hst : 0 ≤ st) (hst2 : st ≤ 1000000)
    (hb : BA w (some x) n c l) (hx : x.block < w.heap.size) (hl : l.length ≤ 100000) :
    Calls Tryz.prog 11 #[.pointer (some ⟨b, 0, none⟩), .string p, .slice (some x) n c] w (PutR w b st mp F p l) := by
  have HC := Lib.hid (cloneb_any x n c l w hb hx hl)
  have HW := Lib.hid h
  have hbl : b < w.heap.size := by obtain ⟨⟨c0, c3, c4, c5, c6, c7, hh⟩, _⟩ := h; exact (Array.getElem?_eq_some_iff.1 hh).1
  have hml : ∀ m, mp = some m → m < w.heap.size := by rintro m rfl; exact FM_lt h.2
  clear h hb
  go_enter Tryz.func11, Tryz.ntmps11
  go_wp2_with (first | (go_at_call 20; refine HC.out.mono ?_; rintro e w1 ⟨g, c1, rfl, hg, hrow, hc1, hb1⟩) | (go_at_call 19; refine (change_any b mp st F p _ _ _ (WS.below HW.out hb1) hst hst2).mono ?_; rintro e w' ⟨rfl, m, h1, h2, h3⟩))
  go_end0
  have hgm : g < w1.heap.size := rowB_lt hrow
  have hmm : (mp = some m ∨ (mp = none ∧ w.heap.size ≤ m)) ∧ g ≠ m := by
    rcases h1 with h1 | ⟨h1, h4⟩
    · exact ⟨.inl h1, by have := hml m h1; omega⟩
    · exact ⟨.inr ⟨h1, by have := hb1.size; omega⟩, by omega⟩
  refine ⟨rfl, g, c1, m, hg, hmm.1, hmm.2, rowB_same hrow (h3.same g hgm (by omega) (fun e => by have := hml g e.symm; omega)), hc1, h2, ?_⟩
  exact ⟨h3.os.trans hb1.os, h3.tape.trans hb1.tape, h3.output.trans hb1.output, Nat.le_trans hb1.size h3.size, fun j hj h4 h5 => (h3.same j (Nat.lt_of_lt_of_le hj hb1.size) h4 h5).trans (hb1.block j hj)⟩
set_option maxRecDepth 100000 in
theorem readb_any (b g c : Nat) (mp : Option Nat) (st s : Int) (F : ByteArray → Option Value) (p : ByteArray) (l : List UInt8) (w : World) (h : WS w b st mp F) (hv : F p = some (fileB g l.length c s)) (hr : RowB 5 w g c l) (hc : c ≤ 9223372036854775807) (hl : l.length ≤ 100000) :
    Calls Tryz.prog 21 #[.pointer (some ⟨b, 0, none⟩), .string p] w fun e w' => ∃ g' c', e = .returned (.tuple #[.slice (some ⟨g', 0, none⟩) l.length c', .int .i64 s, .bool true]) ∧ RowB 5 w' g' c' l ∧ c' ≤ 9223372036854775807 ∧ Below w.heap.size w w' := by
  have hlook := look_any h p
  rw [hv] at hlook
  have hlook2 : (Instr.lookup 59 (.map mp) (.string p) false).run Tryz.prog w = .ok (.agg #[.slice (some ⟨g, 0, none⟩) l.length c, .int .i64 s, .bool true]) w := hlook
  obtain ⟨⟨c0, c3, c4, c5, c6, c7, hh⟩, _⟩ := h
  have hb : b < w.heap.size := (Array.getElem?_eq_some_iff.1 hh).1
  have k2 : w.cell? ⟨b, 2, none⟩ = some (.map mp) := by simp [World.cell?, hh]
  have hgl := rowB_lt hr
  have HC : Hid (∀ W : World, Below w.heap.size w W → Calls Tryz.prog 20 #[.slice (some ⟨g, 0, none⟩) l.length c] W (RowR W l)) := Lib.hid fun W hW => cloneb_any ⟨g, 0, none⟩ l.length c l W ((ba_row hr hc).below hW (fun y hy => by cases hy; exact hgl)) (Nat.lt_of_lt_of_le hgl hW.size) hl
  clear hh hv hlook hr
  go_enter Tryz.func21, Tryz.ntmps21
  go_wp2
  have hbo : ∀ o, Below w.heap.size w (w.alloc o) := fun o => (Below.refl _ w).alloc (Nat.le_refl _) o
  have HS0 : Hid (∀ W, Below (w.alloc (.cells #[.slice (some ⟨g, 0, none⟩) l.length c, .int .i64 s, .bool true] 71)).heap.size (w.alloc (.cells #[.slice (some ⟨g, 0, none⟩) l.length c, .int .i64 s, .bool true] 71)) W → W.cell? ⟨w.heap.size, 0, none⟩ = some (.slice (some ⟨g, 0, none⟩) l.length c) ∧ W.cell? ⟨w.heap.size, 1, none⟩ = some (.int .i64 s) ∧ W.cell? ⟨w.heap.size, 2, none⟩ = some (.bool true)) := Lib.hid fun W hW => by
    have hb : ∀ j y, (#[.slice (some ⟨g, 0, none⟩) l.length c, .int .i64 s, .bool true] : Array Value)[j]? = some y → W.cell? ⟨w.heap.size, j, none⟩ = some y := fun j y hy => by
      rw [hW.cell (p := ⟨w.heap.size, j, none⟩) (by show w.heap.size < (w.heap.push _).size; simp), World.cell?_alloc_new]; exact hy
    exact ⟨hb 0 _ rfl, hb 1 _ rfl, hb 2 _ rfl⟩
  go_region_held3 (fun W => W.cell? ⟨w.heap.size, 0, none⟩ = some (.slice (some ⟨g, 0, none⟩) l.length c) ∧ W.cell? ⟨w.heap.size, 1, none⟩ = some (.int .i64 s) ∧ W.cell? ⟨w.heap.size, 2, none⟩ = some (.bool true)) (first | exact HS0.out _ (Below.refl _ _) | exact HS0.out _ (Below.refl _ _).drew | exact HS1.out) (((go_at_call 20; refine (HC.out _ (by first | exact (hbo _).drew | exact hbo _)).mono ?_; rintro e w1 ⟨g1, c1, rfl, hg1, hrow1, hc1, hb1⟩; have HS1 := Lib.hid (HS0.out w1 (by first | exact hb1 | exact (Below.refl _ _).drew.trans hb1)))))
  all_goals (try go_wp2)
  all_goals go_ret3
  all_goals exact ⟨g1, c1, rfl, hrow1, hc1, (hbo _).drew.trans (hb1.mono (hbo _).size)⟩
end Go.Proofs.YtabkdaaenikliaaGreatDoor

namespace Go.Tx
open Go.RowKit
def strV (l : List UInt8) : Value := .string ⟨l.toArray⟩
/-- A slice of texts that reads as ws, of whatever capacity. -/
def StrC (B : Nat) (w : World) (v : Value) (ws : List (List UInt8)) : Prop := w.ownsRow B 9 1 v ws.length (ws.map strV)
theorem StrC.shape {B : Nat} {w : World} {v : Value} {ws : List (List UInt8)} (h : StrC B w v ws) : ∃ p c, v = .slice p ws.length c := by
  rcases h.2 with ⟨a, b⟩ | ⟨g, cap, cur, a, _⟩
  · exact ⟨none, 0, by rw [a, b]⟩
  · exact ⟨_, _, a⟩
theorem StrC.read {B : Nat} {w : World} {v : Value} {ws : List (List UInt8)} (h : StrC B w v ws) :
    ∃ p c, v = .slice p ws.length c ∧ ws.length ≤ c ∧ c ≤ 9223372036854775807 ∧ ∀ (i : Nat) (l : List UInt8), ws[i]? = some l → ∃ g, p = some ⟨g, 0, none⟩ ∧ g < w.heap.size ∧ w.cell? ⟨g, i, none⟩ = some (.string ⟨l.toArray⟩) := by
  rcases h.2 with ⟨a, b⟩ | ⟨g, cap, cur, a, a2, a3, a4, a5, _⟩
  · refine ⟨none, 0, by rw [a, b], by omega, by omega, fun i l hi => ?_⟩
    have := (List.getElem?_eq_some_iff.1 hi).1
    omega
  · subst a
    refine ⟨_, cap, rfl, a4, a5, fun i l hi => ⟨g, rfl, (Array.getElem?_eq_some_iff.1 a3).1, ?_⟩⟩
    have hlt := (List.getElem?_eq_some_iff.1 hi).1
    rw [World.ownsRow.cellAt h i (by omega), List.getElem?_map, hi]
    rfl
end Go.Tx

namespace Go.Tx
open Go.Lib
def ust (l : List UInt8) (k : Nat) : List UInt8 × List (List UInt8) := (hashCut (l.take k)).foldl (stepW blankN) ([], [])
theorem take_succ' (l : List UInt8) (k : Nat) (b : UInt8) (h : l[k]? = some b) : l.take (k + 1) = l.take k ++ [b] := by
  have hk := (List.getElem?_eq_some_iff.1 h).1
  rw [List.take_succ_eq_append_getElem hk]
  rw [List.getElem?_eq_getElem hk] at h
  cases h
  rfl
theorem ust_rest {l : List UInt8} {k : Nat} {b : UInt8} (h : l[k]? = some b) (hr : (35 : UInt8) ∈ l.take k ∨ b = 35) : ust l (k + 1) = ust l k := by
  unfold ust
  rw [take_succ' l k b h, hashCut_snoc, if_pos hr]
theorem ust_step {l : List UInt8} {k : Nat} {b : UInt8} (h : l[k]? = some b) (h1 : ¬ (35 : UInt8) ∈ l.take k) (h2 : ¬ b = 35) : ust l (k + 1) = stepW blankN (ust l k) b := by
  unfold ust
  rw [take_succ' l k b h, hashCut_snoc, if_neg (by rintro (h | h) <;> contradiction), hashCut_none _ h1, List.foldl_append]
  rfl
theorem stepW_len {u : List UInt8 × List (List UInt8)} {c : UInt8} : (stepW blankN u c).1.length ≤ u.1.length + 1 ∧ (stepW blankN u c).2.length ≤ u.2.length + 1 := by
  unfold stepW
  split
  · split <;> simp
  · simp
theorem fold_len (l : List UInt8) : ∀ u : List UInt8 × List (List UInt8), (l.foldl (stepW blankN) u).1.length ≤ u.1.length + l.length ∧ (l.foldl (stepW blankN) u).2.length ≤ u.2.length + l.length := by
  induction l with
  | nil => intro u; simp
  | cons c l ih =>
    intro u
    have h1 := ih (stepW blankN u c)
    have h2 := @stepW_len u c
    simp only [List.foldl_cons, List.length_cons]
    omega
theorem takeWhile_len' {α : Type} (p : α → Bool) : ∀ l : List α, (l.takeWhile p).length ≤ l.length
  | [] => Nat.le_refl _
  | x :: l => by
    unfold List.takeWhile
    split
    · simp; exact takeWhile_len' p l
    · simp
theorem ust_len (l : List UInt8) (k : Nat) : (ust l k).1.length ≤ k ∧ (ust l k).2.length ≤ k := by
  have h1 := fold_len (hashCut (l.take k)) ([], [])
  have h2 : (hashCut (l.take k)).length ≤ (l.take k).length := takeWhile_len' _ _
  have h3 := List.length_take_le k l
  unfold ust
  simp only [List.length_nil, Nat.zero_add] at h1
  omega
/-- What holds at the head of a round. -/
structure OneI (l : List UInt8) (w : World) (k : Nat) (rest word lv : Value) (wr : World) (s : ByteArray) : Prop where
  rest : rest = .bool (decide ((35 : UInt8) ∈ l.take k))
  word : word = .string s
  text : s.data.toList = (ust l k).1
  row : StrC w.heap.size wr lv (ust l k).2
  fine : (l.take k).any forB = false
  bel : Go.RowKit.Below w.heap.size w wr
theorem any_snoc {l : List UInt8} {k : Nat} {b : UInt8} (h : l[k]? = some b) (h1 : (l.take k).any forB = false) (h2 : forB b = false) : (l.take (k + 1)).any forB = false := by
  rw [take_succ' l k b h, List.any_append, h1]
  simp [h2]
theorem mem_snoc {l : List UInt8} {k : Nat} {b : UInt8} (h : l[k]? = some b) : ((35 : UInt8) ∈ l.take (k + 1)) ↔ ((35 : UInt8) ∈ l.take k ∨ b = 35) := by
  rw [take_succ' l k b h, List.mem_append]
  simp
  constructor
  · rintro (h | h)
    · exact .inl h
    · exact .inr h.symm
  · rintro (h | h)
    · exact .inl h
    · exact .inr h.symm
end Go.Tx
namespace Go.Proofs.YtabkdaaenikliaaGreatDoor
open Go.RowKit Go.Lib Go.Tx Go.Proofs
theorem info9o : (Tryz.prog.info? 9).map (fun i => (i.zero, i.size, i.bytes)) = some (some (.string ⟨#[]⟩), 1, 16) := by kernel_rfl
end Go.Proofs.YtabkdaaenikliaaGreatDoor

namespace Go.Tx
/-- The pieces between the bytes c; 'cur': what stands ahead. -/
def splitG (c : UInt8) : List UInt8 → List UInt8 → List (List UInt8)
  | cur, [] => [cur]
  | cur, d :: l => if d = c then cur :: splitG c [] l else splitG c (cur ++ [d]) l
def splitL (c : UInt8) (l : List UInt8) : List (List UInt8) := splitG c [] l
theorem splitG_len (c : UInt8) : ∀ (l cur : List UInt8), 1 ≤ (splitG c cur l).length ∧ (splitG c cur l).length ≤ l.length + 1
  | [], cur => by simp [splitG]
  | d :: l, cur => by
    unfold splitG
    split
    · have := splitG_len c l []
      simp; omega
    · have := splitG_len c l (cur ++ [d])
      simp; omega
theorem stake_succ (l : List UInt8) (k : Nat) (b : UInt8) (h : l[k]? = some b) : l.take (k + 1) = l.take k ++ [b] := by
  have hk := (List.getElem?_eq_some_iff.1 h).1
  rw [List.take_succ_eq_append_getElem hk]
  rw [List.getElem?_eq_getElem hk] at h
  cases h
  rfl
theorem sdrop_cons (l : List UInt8) (k : Nat) (b : UInt8) (h : l[k]? = some b) : l.drop k = b :: l.drop (k + 1) := by
  have hk := (List.getElem?_eq_some_iff.1 h).1
  rw [List.drop_eq_getElem_cons hk]
  rw [List.getElem?_eq_getElem hk] at h
  cases h
  rfl
theorem splitG_step {l : List UInt8} {k F : Nat} {b c : UInt8} (h : l[k]? = some b) (hF : F ≤ k) (hb : ¬ b = c) : splitG c ((l.take k).drop F) (l.drop k) = splitG c ((l.take (k + 1)).drop F) (l.drop (k + 1)) := by
  have hk := (List.getElem?_eq_some_iff.1 h).1
  rw [sdrop_cons l k b h, splitG, if_neg hb, stake_succ l k b h, List.drop_append_of_le_length (by rw [List.length_take]; omega)]
theorem splitG_cut {l : List UInt8} {k F : Nat} {b c : UInt8} (h : l[k]? = some b) (hb : b = c) : splitG c ((l.take k).drop F) (l.drop k) = (l.take k).drop F :: splitG c ((l.take (k + 1)).drop (k + 1)) (l.drop (k + 1)) := by
  have e2 : (l.take (k + 1)).drop (k + 1) = [] := List.drop_of_length_le (by rw [List.length_take]; omega)
  rw [sdrop_cons l k b h, splitG, if_pos hb, e2]
theorem splitG_last {l : List UInt8} {n F : Nat} {c : UInt8} (h : l.length = n) : splitG c ((l.take n).drop F) (l.drop n) = [(l.take n).drop F] := by
  have e : l.drop n = [] := List.drop_of_length_le (by omega)
  rw [e]
  rfl
/-- A hexadecimal digit; -1: none. -/
def hexV (c : UInt8) : Int :=
  if 48 ≤ (c.toNat : Int) ∧ (c.toNat : Int) ≤ 57 then (c.toNat : Int) - 48
  else if 97 ≤ (c.toNat : Int) ∧ (c.toNat : Int) ≤ 102 then (c.toNat : Int) - 87
  else if 65 ≤ (c.toNat : Int) ∧ (c.toNat : Int) ≤ 70 then (c.toNat : Int) - 55
  else -1
theorem hexV_bd (c : UInt8) : -1 ≤ hexV c ∧ hexV c ≤ 15 := by
  unfold hexV
  split
  · omega
  · split
    · omega
    · split <;> omega
end Go.Tx
namespace Go.Tx
theorem splitG_mem (c : UInt8) : ∀ (l cur x : List UInt8), x ∈ splitG c cur l → x.length ≤ cur.length + l.length
  | [], cur, x, h => by simp [splitG] at h; subst h; simp
  | d :: l, cur, x, h => by
    unfold splitG at h
    split at h
    · rcases List.mem_cons.1 h with h | h
      · subst h; simp
      · have := splitG_mem c l [] x h
        simp at this ⊢; omega
    · have := splitG_mem c l (cur ++ [d]) x h
      simp at this ⊢; omega
end Go.Tx

namespace Go.Tx
def dig (c : UInt8) : Bool := decide (48 ≤ (c.toNat : Int)) && decide ((c.toNat : Int) ≤ 57)
def valF (n : Nat) (l : List UInt8) : Nat := l.foldl (fun n c => 10 * n + (c.toNat - 48)) n
/-- The number that digits write. -/
def val (l : List UInt8) : Nat := valF 0 l
theorem val_nil : val [] = 0 := rfl
theorem val_snoc (l : List UInt8) (c : UInt8) : val (l ++ [c]) = 10 * val l + (c.toNat - 48) := by simp [val, valF]
theorem valF_lt : ∀ (l : List UInt8) (n : Nat), (∀ c ∈ l, dig c = true) → valF n l < (n + 1) * 10 ^ l.length := by
  intro l
  induction l with
  | nil => intro n _; simp [valF]
  | cons c l ih =>
    intro n h
    have h1 := ih (10 * n + (c.toNat - 48)) fun d hd => h d (by simp [hd])
    have h2 := h c (by simp)
    simp only [dig, Bool.and_eq_true, decide_eq_true_eq] at h2
    have h3 : valF n (c :: l) = valF (10 * n + (c.toNat - 48)) l := rfl
    rw [h3, List.length_cons, Nat.pow_succ]
    refine Nat.lt_of_lt_of_le h1 ?_
    rw [Nat.mul_comm (10 ^ l.length) 10, ← Nat.mul_assoc]
    exact Nat.mul_le_mul_right _ (by omega)
theorem val_lt (l : List UInt8) (h : ∀ c ∈ l, dig c = true) : val l < 10 ^ l.length := by
  have := valF_lt l 0 h
  simpa [val] using this
theorem val_lt9 (l : List UInt8) (h : ∀ c ∈ l, dig c = true) (hl : l.length ≤ 9) : val l < 1000000000 := by
  have h1 := val_lt l h
  have h2 : 10 ^ l.length ≤ 10 ^ 9 := Nat.pow_le_pow_right (by omega) hl
  omega
theorem take_snoc (s : ByteArray) (k : Nat) (h : k < s.size) : s.data.toList.take (k + 1) = s.data.toList.take k ++ [s[k]] := by
  rw [List.take_succ_eq_append_getElem (by simpa using h)]; rfl
theorem val_step (s : ByteArray) (k : Nat) (h : k < s.size) (hd : dig s[k] = true) : ((val (s.data.toList.take (k + 1)) : Nat) : Int) = (val (s.data.toList.take k) : Int) * 10 + ((s[k].toNat : Int) - 48) := by
  rw [take_snoc s k h, val_snoc]
  simp only [dig, Bool.and_eq_true, decide_eq_true_eq] at hd
  omega
theorem all_step (s : ByteArray) (k : Nat) (h : k < s.size) : (s.data.toList.take (k + 1)).all dig = ((s.data.toList.take k).all dig && dig s[k]) := by
  rw [take_snoc s k h, List.all_append]; simp
theorem all_no (s : ByteArray) (k : Nat) (h : k < s.size) (hd : dig s[k] = false) : s.data.toList.all dig = false := by
  cases hh : s.data.toList.all dig with
  | false => rfl
  | true =>
    rw [List.all_eq_true] at hh
    have := hh s[k] (Array.mem_toList_iff.2 (Array.getElem_mem (xs := s.data) h))
    rw [hd] at this; cases this
theorem take_all (s : ByteArray) (k : Nat) (h : s.size ≤ k) : s.data.toList.take k = s.data.toList := List.take_of_length_le (by simpa using h)
theorem val_bd (s : ByteArray) (k : Nat) (h : (s.data.toList.take k).all dig = true) (h9 : s.size ≤ 9) : val (s.data.toList.take k) < 1000000000 := by
  refine val_lt9 _ (by rw [List.all_eq_true] at h; exact h) ?_
  rw [List.length_take]
  have : s.data.toList.length = s.size := rfl
  omega
theorem dig_of (c : UInt8) (h1 : 48 ≤ (c.toNat : Int)) (h2 : (c.toNat : Int) ≤ 57) : dig c = true := by simp [dig, h1, h2]
theorem dig_lo (c : UInt8) (h1 : (c.toNat : Int) < 48) : dig c = false := by
  have : ¬ (48 ≤ (c.toNat : Int)) := by omega
  simp [dig, this]
theorem dig_hi (c : UInt8) (h1 : 57 < (c.toNat : Int)) : dig c = false := by
  have : ¬ ((c.toNat : Int) ≤ 57) := by omega
  simp [dig, this]
/-- What Num answers. -/
def numBad (l : List UInt8) : Bool := l.isEmpty || decide (9 < l.length) || (l.head? == some 48 && decide (1 < l.length)) || !l.all dig
def numRes (l : List UInt8) (most : Int) : Int × Bool := if numBad l = true then (0, false) else if most < (val l : Int) then (0, false) else (val l, true)
theorem numRes_nil (l : List UInt8) (m : Int) (h : l = []) : numRes l m = (0, false) := by subst h; rfl
theorem numRes_len (l : List UInt8) (m : Int) (h : 9 < l.length) : numRes l m = (0, false) := by simp [numRes, numBad, h]
theorem numRes_zero (l : List UInt8) (m : Int) (h : 1 < l.length) (h2 : l.head? = some 48) : numRes l m = (0, false) := by simp [numRes, numBad, h, h2]
theorem numRes_no (l : List UInt8) (m : Int) (h : l.all dig = false) : numRes l m = (0, false) := by simp [numRes, numBad, h]
theorem numRes_ok (l : List UInt8) (m : Int) (h0 : 1 ≤ l.length) (h1 : l.length ≤ 9) (h2 : ¬ (l.head? = some 48 ∧ 1 < l.length)) (h3 : l.all dig = true) : numRes l m = if m < (val l : Int) then (0, false) else ((val l : Int), true) := by
  have : numBad l = false := by
    cases l with
    | nil => simp at h0
    | cons c l => simp [numBad, h3]; simp at h1 h2; exact ⟨h1, h2⟩
  simp [numRes, this]
/-! ### Folding -/
def low (c : UInt8) : UInt8 := if 65 ≤ (c.toNat : Int) ∧ (c.toNat : Int) ≤ 90 then UInt8.ofNat (c.toNat + 32) else c
def lowTake (k : Nat) (l : List UInt8) : List UInt8 := (l.take k).map low ++ l.drop k
theorem lowTake_zero (l : List UInt8) : lowTake 0 l = l := by simp [lowTake]
theorem lowTake_len (k : Nat) (l : List UInt8) : (lowTake k l).length = l.length := by simp [lowTake]; omega
theorem lowTake_all (k : Nat) (l : List UInt8) (h : l.length ≤ k) : lowTake k l = l.map low := by
  simp [lowTake, List.take_of_length_le h, List.drop_of_length_le h]
theorem lowTake_at (k : Nat) (l : List UInt8) (h : k < l.length) : (lowTake k l)[k]? = some l[k] := by
  unfold lowTake
  rw [List.getElem?_append_right (by simp; omega)]
  have : k - (List.map low (List.take k l)).length = 0 := by simp; omega
  rw [this, List.getElem?_drop]
  simp
theorem lowTake_step (k : Nat) (l : List UInt8) (h : k < l.length) : lowTake (k + 1) l = (lowTake k l).set k (low l[k]) := by
  apply List.ext_getElem?
  intro j
  rw [List.getElem?_set]
  have hlen : (lowTake k l).length = l.length := lowTake_len k l
  unfold lowTake
  rw [List.getElem?_append, List.getElem?_append]
  simp only [List.length_map, List.length_take, List.getElem?_map, List.getElem?_take, List.getElem?_drop, List.length_append, List.length_drop]
  by_cases hj : k = j
  · subst hj
    rw [if_pos (by omega), if_pos (by omega), if_pos rfl, if_pos (by omega)]
    simp [h]
  · rw [if_neg hj]
    by_cases hlt : j < k
    · rw [if_pos (by omega), if_pos (by omega), if_pos (by omega), if_pos (by omega)]
    · rw [if_neg (by omega), if_neg (by omega)]
      congr 1
      omega
theorem lowTake_skip (k : Nat) (l : List UInt8) (h : k < l.length) (hl : low l[k] = l[k]) : lowTake (k + 1) l = lowTake k l := by
  rw [lowTake_step k l h, hl]
  apply List.ext_getElem?
  intro j
  rw [List.getElem?_set]
  split
  · rename_i e
    subst e
    rw [lowTake_at k l h, lowTake_len, if_pos h]
  · rfl
theorem low_up (c : UInt8) (h1 : 65 ≤ (c.toNat : Int)) (h2 : (c.toNat : Int) ≤ 90) : ((low c).toNat : Int) = (c.toNat : Int) + 32 := by
  unfold low
  rw [if_pos ⟨h1, h2⟩]
  have : (c.toNat + 32) % 256 = c.toNat + 32 := by omega
  simp [this]
theorem low_lo (c : UInt8) (h1 : (c.toNat : Int) < 65) : low c = c := by unfold low; rw [if_neg (by omega)]
theorem low_hi (c : UInt8) (h1 : 90 < (c.toNat : Int)) : low c = c := by unfold low; rw [if_neg (by omega)]
end Go.Tx

namespace Go.Tx
open Go.Lib
/-! ### The library's pieces are the document's -/
def pre (x : List UInt8) : List (List UInt8) → List (List UInt8)
  | [] => []
  | h :: t => (x ++ h) :: t
theorem splitG_pre (c : UInt8) (x : List UInt8) : ∀ (l y : List UInt8), splitG c (x ++ y) l = pre x (splitG c y l)
  | [], y => by simp [splitG, pre]
  | d :: l, y => by
    unfold splitG
    split
    · rfl
    · rw [List.append_assoc, splitG_pre c x l (y ++ [d])]
theorem splitK_pre {b c : UInt8} (h : b ≠ c) (k : Nat) (l : List UInt8) : splitK [c] 0 k (b :: l) = pre [b] (splitK [c] 0 k l) := by
  cases k with
  | zero => rfl
  | succ k =>
    have hp : ([c] : List UInt8).isPrefixOf (b :: l) = false := by simp [List.isPrefixOf, Ne.symm h]
    have hix : index (b :: l) [c] = if index l [c] == -1 then -1 else index l [c] + 1 := by rw [index, hp]; simp
    unfold splitK
    by_cases hm : index l [c] = -1
    · rw [hix, hm]; simp [pre]
    · have hge := index_ge l [c]
      obtain ⟨j, hj⟩ : ∃ j : Nat, index l [c] = j := ⟨(index l [c]).toNat, by omega⟩
      have h1 : ((j : Int) == -1) = false := by rw [beq_eq_false_iff_ne]; omega
      have h2 : ((j : Int) + 1 == -1) = false := by rw [beq_eq_false_iff_ne]; omega
      have h3 : ((j : Int) + 1).toNat = j + 1 := by omega
      rw [hix, hj]
      simp [h1, h2, h3, pre]
theorem splitK_one (c : UInt8) : ∀ l : List UInt8, splitK [c] 0 (count l [c]) l = splitL c l
  | [] => by
    have : count ([] : List UInt8) [c] = 0 := by rw [count_one]; rfl
    rw [this]; rfl
  | b :: l => by
    by_cases h : b = c
    · subst h
      have hix : index (b :: l) [b] = 0 := by rw [index]; simp [List.isPrefixOf]
      rw [count_cons_eq, Nat.add_comm, splitK, hix, splitL, splitG, if_pos rfl]
      simp only [List.take_zero, List.length_singleton]
      have := splitK_one b l
      simpa [splitL] using this
    · rw [count_cons_ne b c l h, splitK_pre h, splitK_one c l, splitL, splitL, splitG, if_neg h]
      exact (splitG_pre c [b] l []).symm
theorem split_pieces (s : ByteArray) (c : UInt8) : (splitB ⟨#[c]⟩ 0 (countB s ⟨#[c]⟩) s).map Value.string = (splitL c s.data.toList).map fun l => Value.string ⟨l.toArray⟩ := by
  have h := splitB_data ⟨#[c]⟩ 0 (countB s ⟨#[c]⟩) s
  have h2 : countB s ⟨#[c]⟩ = count s.data.toList [c] := rfl
  rw [h2] at h ⊢
  have h3 := splitK_one c s.data.toList
  have h4 : (ByteArray.data ⟨#[c]⟩).toList = [c] := rfl
  rw [h4, h3] at h
  rw [← h, List.map_map]
  rfl
theorem split_count (s : ByteArray) (c : UInt8) : countB s ⟨#[c]⟩ + 1 = (splitL c s.data.toList).length := by
  have h := splitB_all ⟨#[c]⟩ (Nat.le_refl 1) 0 _ s rfl
  have h2 := congrArg List.length (split_pieces s c)
  simp only [List.length_map] at h2
  omega
/-! ### A rune that is foreign is a byte that is -/
theorem idxFrom_any (p : Nat → Bool) (hp : ∀ x, 128 ≤ x → p x = true) (s : ByteArray) : ∀ (f pos : Nat), s.size - pos ≤ f →
    decide (0 ≤ idxFuncFrom p true s f pos) = (s.data.toList.drop pos).any fun b => p b.toNat
  | 0, pos, h => by
    have e : s.data.toList.drop pos = [] := List.drop_of_length_le (by rw [← size_eq]; omega)
    simp [idxFuncFrom, e]
  | f + 1, pos, h => by
    unfold idxFuncFrom
    by_cases hlt : pos < s.size
    · rw [if_pos hlt]
      have hd : s.data.toList.drop pos = s[pos] :: s.data.toList.drop (pos + 1) := List.drop_eq_getElem_cons (by rw [← size_eq]; exact hlt)
      rw [hd, List.any_cons]
      by_cases ha : s[pos].toNat < 128
      · rw [decode_ascii s pos hlt ha]
        simp only
        by_cases hb : p s[pos].toNat = true
        · rw [if_pos hb, hb]; simp
        · have hb' : p s[pos].toNat = false := by simpa using hb
          rw [if_neg hb, hb', Bool.false_or]
          exact idxFrom_any p hp s f (pos + 1) (by omega)
      · obtain ⟨h1, h2⟩ := decode_high s pos hlt (by omega)
        rw [if_pos (hp _ h1), hp _ (by omega)]
        simp
    · have e : s.data.toList.drop pos = [] := List.drop_of_length_le (by rw [← size_eq]; omega)
      rw [if_neg hlt, e]; simp
theorem idx_anyR (p : Nat → Bool) (hp : ∀ x, 128 ≤ x → p x = true) (s : ByteArray) : decide (0 ≤ idxFunc p true s) = s.data.toList.any fun b => p b.toNat := by
  exact idxFrom_any p hp s s.size 0 (by omega)
/-! ### Names -/
/-- What labels are made of, by number. -/
def sign (x : Nat) : Bool := (decide (97 ≤ x) && decide (x ≤ 122)) || (decide (65 ≤ x) && decide (x ≤ 90)) || (decide (48 ≤ x) && decide (x ≤ 57)) || decide (x = 45) || decide (x = 95)
theorem sign_high (x : Nat) (h : 128 ≤ x) : sign x = false := by
  simp only [sign, Bool.or_eq_false_iff, Bool.and_eq_false_iff, decide_eq_false_iff_not]
  omega
def labelB (l : List UInt8) : Bool := decide (l ≠ []) && decide (l.length ≤ 63) && l.all fun b => sign b.toNat
def nameB (l : List UInt8) : Bool := decide (l.length ≤ 253) && (splitL 46 l).all labelB
/-- Without a point at its end. -/
def bare (l : List UInt8) : List UInt8 := trimSuffix l [46]
def isRoot (l : List UInt8) : Bool := hasSuffix l [46]
def cleanV (l : List UInt8) : Value := if nameB (bare l) = true then .tuple #[.string ⟨((bare l).map low).toArray⟩, .bool (isRoot l), .bool true] else .tuple #[.string ⟨#[]⟩, .bool false, .bool false]
theorem bare_len (l : List UInt8) : (bare l).length ≤ l.length := by
  unfold bare trimSuffix
  split
  · simp
  · exact Nat.le_refl _
theorem noLabel (l : List UInt8) : (decide (l = []) || (decide (63 < l.length) || l.any fun b => !sign b.toNat)) = !labelB l := by
  have h1 : (decide (63 < l.length)) = !decide (l.length ≤ 63) := by by_cases h : l.length ≤ 63 <;> simp [h] <;> omega
  have h2 : (l.any fun b => !sign b.toNat) = !(l.all fun b => sign b.toNat) := by simp [List.any_eq_not_all_not]
  rw [h1, h2]
  unfold labelB
  by_cases h : l = [] <;> simp [h]
end Go.Tx

namespace Go.Proofs.YtabkdaaenikliaaGreatDoor
open Go.RowKit Go.Lib Go.Tx
theorem ret_int {k : IntKind} {a b : Int} (h : a = b) : Ending.returned (.int k a) = .returned (.int k b) := by rw [h]
theorem info9 : (Tryz.prog.info? 9).map (fun i => (i.zero, i.size, i.bytes)) = some (some (.string ⟨#[]⟩), 1, 16) := by kernel_rfl
theorem one_cell (w : World) (s : ByteArray) (e : TypeId) : ∀ j u, [Value.string s][j]? = some u → (w.alloc (.cells #[.string s] e)).cell? ((⟨w.heap.size, 0, none⟩ : Addr).add j) = some u := by
  intro j u hj
  have ha : (⟨w.heap.size, 0, none⟩ : Addr).add j = ⟨w.heap.size, j, none⟩ := by unfold Addr.add; split <;> simp_all
  rw [ha, World.cell?_alloc_new]
  simpa using hj
/-- What holds at the head of a round. -/
structure PI (w : World) (l : List UInt8) (c : UInt8) (n k F : Nat) (out fr : Value) (wr : World) (T : List (List UInt8)) : Prop where
  fr : fr = .int .i64 (F : Int)
  told : StrC w.heap.size wr out T
  go : k ≤ n → F ≤ k ∧ splitL c l = T ++ splitG c ((l.take k).drop F) (l.drop k)
  done : n < k → splitL c l = T
  few : T.length ≤ k
  bel : Below w.heap.size w wr
def SplitR (w : World) (T : List (List UInt8)) (e : Ending) (w' : World) : Prop := ∃ v, e = .returned v ∧ StrC w.heap.size w' v T ∧ Below w.heap.size w w'
theorem ext_drop (s : ByteArray) (F k : Nat) : Value.string (s.extract F k) = strV ((s.data.toList.take k).drop F) := by
  unfold strV
  congr 1
  apply ByteArray.ext
  apply Array.ext'
  simp [ByteArray.extract, ByteArray.copySlice, List.drop_take, List.extract]
theorem PI.skip {w wr : World} {l : List UInt8} {c b : UInt8} {n k F : Nat} {out fr : Value} {T : List (List UInt8)} (h : PI w l c n k F out fr wr T) (hl : l.length = n) (hb : l[k]? = some b) (hc : ¬ b = c) : PI w l c n (k + 1) F out fr wr T := by
  have hk := (List.getElem?_eq_some_iff.1 hb).1
  obtain ⟨h1, h2⟩ := h.go (by omega)
  exact ⟨h.fr, h.told, fun _ => ⟨by omega, by rw [h2, splitG_step hb h1 hc]⟩, fun h => by omega, by have := h.few; omega, h.bel⟩
theorem PI.push {w wr w5 : World} {s : ByteArray} {c : UInt8} {n k F : Nat} {out out' fr : Value} {T : List (List UInt8)} (h : PI w s.data.toList c n k F out fr wr T) (hl : s.data.toList.length = n) (hk : k ≤ n) (hb : k < n → s.data.toList[k]? = some c)
    (ho : w5.ownsRow w.heap.size 9 1 out' (T.length + 1) (T.map strV ++ [.string (s.extract F k)])) (hbel : Below w.heap.size w w5) : PI w s.data.toList c n (k + 1) (k + 1) out' (.int .i64 ((k + 1 : Nat) : Int)) w5 (T ++ [(s.data.toList.take k).drop F]) := by
  obtain ⟨h1, h2⟩ := h.go hk
  refine ⟨rfl, ?_, fun h3 => ⟨Nat.le_refl _, ?_⟩, fun h3 => ?_, by have := h.few; simp; omega, hbel⟩
  · unfold StrC
    rw [List.length_append, List.map_append]
    rw [ext_drop] at ho
    exact ho
  · rw [h2, splitG_cut (hb (by omega)) rfl, List.append_assoc]
    rfl
  · have : k = n := by omega
    subst this
    rw [h2, splitG_last hl]
end Go.Proofs.YtabkdaaenikliaaGreatDoor

namespace Go.Proofs.YtabkdaaenikliaaGreatDoor
open Go.RowKit Go.Lib Go.Tx
theorem ret_num {l : List UInt8} {m a : Int} {b : Bool} (h : numRes l m = (a, b)) : Ending.returned (.tuple #[.int .i64 a, .bool b]) = .returned (.tuple #[.int .i64 (numRes l m).1, .bool (numRes l m).2]) := by rw [h]
theorem head_eq (s : ByteArray) (h1 : 1 ≤ s.size) : s.data.toList.head? = some s[0] := by
  rw [List.head?_eq_getElem?]
  have : s.data.toList.length = s.size := rfl
  rw [List.getElem?_eq_getElem (by omega)]
  rfl
theorem u8_48 (c : UInt8) : ((c.toNat : Int) == 48) = (c == 48) := by
  by_cases h : c = 48
  · subst h; rfl
  · rw [beq_eq_false_iff_ne.2 h, beq_eq_false_iff_ne]
    intro h2
    exact h (UInt8.toNat_inj.1 (by show c.toNat = 48; omega))
theorem size_len (s : ByteArray) : s.data.toList.length = s.size := rfl
end Go.Proofs.YtabkdaaenikliaaGreatDoor

namespace Go.Tx
def okN (l : List UInt8) : Bool := (numRes l 255).2
def byN (l : List UInt8) : UInt8 := UInt8.ofNat (numRes l 255).1.toNat
def fourP (p : List (List UInt8)) : Option (List UInt8) := if p.length = 4 ∧ p.all okN = true then some (p.map byN) else none
theorem numRes_bd (l : List UInt8) (h : okN l = true) : 0 ≤ (numRes l 255).1 ∧ (numRes l 255).1 ≤ 255 := by
  unfold okN at h
  unfold numRes at h ⊢
  split
  · simp
  · split
    · simp
    · rename_i h1 h2
      simp
      omega
theorem byN_int (l : List UInt8) (h : okN l = true) : ((byN l).toNat : Int) = (numRes l 255).1 := by
  have := numRes_bd l h
  unfold byN
  simp
  omega
def u8V (l : List UInt8) : List Value := l.map fun c => .int .u8 (c.toNat : Int)
end Go.Tx
namespace Go.Proofs.YtabkdaaenikliaaGreatDoor
open Go.RowKit Go.Lib Go.Tx
def FourR (w : World) (r : Option (List UInt8)) (e : Ending) (w' : World) : Prop := e = .returned (.tuple #[.string ⟨(r.getD []).toArray⟩, .bool r.isSome]) ∧ Below w.heap.size w w'
theorem byte_cell (w : World) (x : Int) (e : TypeId) : ∀ j u, [Value.int .u8 x][j]? = some u → (w.alloc (.cells #[.int .u8 x] e)).cell? ((⟨w.heap.size, 0, none⟩ : Addr).add j) = some u := by
  intro j u hj
  have ha : (⟨w.heap.size, 0, none⟩ : Addr).add j = ⟨w.heap.size, j, none⟩ := by unfold Addr.add; split <;> simp_all
  rw [ha, World.cell?_alloc_new]
  simpa using hj
/-- string(b) of a row of bytes of the call's own. -/
theorem own_str {w : World} {B : Nat} {v : Value} {l : List UInt8} (h : w.ownsRow B 5 1 v l.length (u8V l)) : (convert 41 9 v).run Tryz.prog w = .ok (.string ⟨l.toArray⟩) w := by
  rcases h.2 with ⟨rfl, h2⟩ | ⟨g, cap, cur, rfl, _⟩
  · obtain rfl : l = [] := List.eq_nil_of_length_eq_zero h2
    rw [run_convert_bytes_string w 41 9 5 none 0 0 Tryz.underlying41 Tryz.underlying5 Tryz.underlying9]
    rfl
  · refine run_convert_bytes_back w 41 9 5 ⟨g, 0, none⟩ cap l Tryz.underlying41 Tryz.underlying5 Tryz.underlying9 fun j hj => ?_
    have ha : (⟨g, 0, none⟩ : Addr).add j = ⟨g, j, none⟩ := by unfold Addr.add; split <;> simp_all
    rw [ha, h.cellAt j (by omega)]
    simp [u8V, hj]
theorem fourP_no {p : List (List UInt8)} {k : Nat} {l : List UInt8} (h : p[k]? = some l) (hn : okN l = false) : fourP p = none := by
  unfold fourP
  rw [if_neg]
  rintro ⟨_, h2⟩
  rw [List.all_eq_true] at h2
  have := h2 l (List.mem_of_getElem? h)
  rw [hn] at this
  cases this
theorem own_push {w' : World} {B k : Nat} {v' : Value} {P : List (List UInt8)} {l : List UInt8} {x : Int} (hl : P[k]? = some l) (hx : ((byN l).toNat : Int) = x)
    (h : w'.ownsRow B 5 1 v' (k + 1) (u8V ((P.take k).map byN) ++ [.int .u8 x])) : w'.ownsRow B 5 1 v' (k + 1) (u8V ((P.take (k + 1)).map byN)) := by
  have hk := (List.getElem?_eq_some_iff.1 hl).1
  have e : P.take (k + 1) = P.take k ++ [l] := by
    rw [List.take_succ_eq_append_getElem hk]
    rw [List.getElem?_eq_getElem hk] at hl
    cases hl
    rfl
  rw [e]
  unfold u8V at h ⊢
  rw [List.map_append, List.map_append]
  rw [← hx] at h
  exact h
theorem all_push {P : List (List UInt8)} {k : Nat} {l : List UInt8} (hl : P[k]? = some l) (h : (P.take k).all okN = true) (ho : okN l = true) : (P.take (k + 1)).all okN = true := by
  have hk := (List.getElem?_eq_some_iff.1 hl).1
  have e : P.take (k + 1) = P.take k ++ [l] := by
    rw [List.take_succ_eq_append_getElem hk]
    rw [List.getElem?_eq_getElem hk] at hl
    cases hl
    rfl
  rw [e, List.all_append, h]
  simp [ho]
end Go.Proofs.YtabkdaaenikliaaGreatDoor

namespace Go.Tx
def hexA (l : List UInt8) : Int := l.foldl (fun n c => 16 * n + hexV c) 0
def hexOk (l : List UInt8) : Bool := l.all fun c => decide (0 ≤ hexV c)
def hexG (l : List UInt8) : Option (List UInt8) :=
  if l.length < 1 ∨ 4 < l.length then none else if hexOk l = true then some [UInt8.ofNat ((hexA l).toNat / 256), UInt8.ofNat ((hexA l).toNat % 256)] else none
def partG (lst : Bool) (l : List UInt8) : Option (List UInt8) :=
  if lst = true then (match fourP (splitL 46 l) with | some f => some f | none => hexG l) else hexG l
def accG (last : Bool) (P : List (List UInt8)) : Nat → Option (List UInt8)
  | 0 => some []
  | k + 1 => match accG last P k with
    | none => none
    | some a => match partG (last && decide (k + 1 = P.length)) (P.getD k []) with
      | none => none
      | some x => some (a ++ x)
def groupsP (last : Bool) (s : List UInt8) : Option (List UInt8) := if s = [] then some [] else accG last (splitL 58 s) (splitL 58 s).length
theorem hexA_snoc (l : List UInt8) (c : UInt8) : hexA (l ++ [c]) = 16 * hexA l + hexV c := by simp [hexA, List.foldl_append]
theorem hexOk_snoc (l : List UInt8) (c : UInt8) : hexOk (l ++ [c]) = (hexOk l && decide (0 ≤ hexV c)) := by simp [hexOk, List.all_append]
theorem hexA_bd4 : ∀ l : List UInt8, l.length ≤ 4 → hexOk l = true → 0 ≤ hexA l ∧ hexA l ≤ 65535
  | [], _, _ => by simp [hexA]
  | [a], _, h => by
    have := hexV_bd a
    simp [hexOk, hexA] at h ⊢
    omega
  | [a, b], _, h => by
    have := hexV_bd a
    have := hexV_bd b
    simp [hexOk, hexA] at h ⊢
    omega
  | [a, b, c], _, h => by
    have := hexV_bd a
    have := hexV_bd b
    have := hexV_bd c
    simp [hexOk, hexA] at h ⊢
    omega
  | [a, b, c, d], _, h => by
    have := hexV_bd a
    have := hexV_bd b
    have := hexV_bd c
    have := hexV_bd d
    simp [hexOk, hexA] at h ⊢
    omega
  | a :: b :: c :: d :: e :: l, h, _ => by simp at h
/-- Once none, none at the end. -/
theorem accG_none {last : Bool} {P : List (List UInt8)} {k : Nat} (h : accG last P k = none) : ∀ j, k ≤ j → accG last P j = none
  | 0, hj => by
    obtain rfl : k = 0 := by omega
    exact h
  | j + 1, hj => by
    by_cases e : k = j + 1
    · rw [← e]; exact h
    · have := accG_none h j (by omega)
      simp [accG, this]
theorem accG_step {last : Bool} {P : List (List UInt8)} {k : Nat} {a l x : List UInt8} {t : Bool} (h : accG last P k = some a) (hl : P[k]? = some l) (ht : (last && decide (k + 1 = P.length)) = t) (hx : partG t l = some x) : accG last P (k + 1) = some (a ++ x) := by
  simp only [accG, h, ht, List.getD_eq_getElem?_getD, hl, Option.getD_some, hx]
theorem accG_stop {last : Bool} {P : List (List UInt8)} {k : Nat} {l : List UInt8} {t : Bool} (hl : P[k]? = some l) (ht : (last && decide (k + 1 = P.length)) = t) (hx : partG t l = none) : accG last P P.length = none := by
  have hk := (List.getElem?_eq_some_iff.1 hl).1
  refine accG_none (k := k + 1) ?_ _ hk
  simp only [accG, List.getD_eq_getElem?_getD, hl, Option.getD_some, ht, hx]
  cases accG last P k <;> rfl
theorem partG_four {l f : List UInt8} (h : fourP (splitL 46 l) = some f) : partG true l = some f := by simp [partG, h]
theorem partG_hex {l : List UInt8} {t : Bool} (h : t = true → fourP (splitL 46 l) = none) : partG t l = hexG l := by
  unfold partG
  cases t with
  | false => rfl
  | true => simp [h rfl]
theorem hexG_len {l : List UInt8} (h : l.length < 1 ∨ 4 < l.length) : hexG l = none := by unfold hexG; rw [if_pos h]
theorem hexG_bad {l : List UInt8} {k : Nat} {c : UInt8} (h : l[k]? = some c) (hc : hexV c < 0) : hexG l = none := by
  have hno : ¬ hexOk l = true := by
    unfold hexOk
    rw [List.all_eq_true]
    intro h2
    have := h2 c (List.mem_of_getElem? h)
    simp at this
    omega
  unfold hexG
  rw [if_neg hno]
  split <;> rfl
theorem hexG_ok {l : List UInt8} (h : ¬ (l.length < 1 ∨ 4 < l.length)) (h2 : hexOk l = true) : hexG l = some [UInt8.ofNat ((hexA l).toNat / 256), UInt8.ofNat ((hexA l).toNat % 256)] := by
  unfold hexG; rw [if_neg h, if_pos h2]
theorem partG_len {t : Bool} {l x : List UInt8} (h : partG t l = some x) : x.length ≤ 4 := by
  unfold partG at h
  have hh : ∀ x, hexG l = some x → x.length ≤ 4 := by
    intro x hx
    unfold hexG at hx
    split at hx
    · cases hx
    · split at hx
      · cases hx; simp
      · cases hx
  split at h
  · cases e : fourP (splitL 46 l) with
    | some f =>
      rw [e] at h
      cases h
      unfold fourP at e
      split at e
      · rename_i h4
        cases e
        rw [List.length_map]
        omega
      · cases e
    | none =>
      rw [e] at h
      exact hh _ h
  · exact hh _ h
theorem accG_len {last : Bool} {P : List (List UInt8)} : ∀ {k : Nat} {a : List UInt8}, accG last P k = some a → a.length ≤ 4 * k
  | 0, a, h => by simp [accG] at h; subst h; simp
  | k + 1, a, h => by
    unfold accG at h
    split at h
    · cases h
    · rename_i b hb
      split at h
      · cases h
      · rename_i x hx
        cases h
        have := accG_len hb
        have := partG_len hx
        simp
        omega
end Go.Tx

namespace Go.Rb
open Go.RowKit Go.Ev
/-- A slice of bytes that reads as l: nil, or a row in a block from B on. -/
def RB (B : Nat) (w : World) (v : Value) (l : List UInt8) : Prop :=
  (v = .slice none 0 0 ∧ l = []) ∨ ∃ b cap, v = .slice (some ⟨b, 0, none⟩) l.length cap ∧ B ≤ b ∧ cap ≤ 9223372036854775807 ∧ RowB 5 w b cap l
theorem RB.nil (B : Nat) (w : World) : RB B w (.slice none 0 0) [] := .inl ⟨rfl, rfl⟩
theorem RB.alloc {B : Nat} {w : World} {v : Value} {l : List UInt8} (h : RB B w v l) (o : Obj) : RB B (w.alloc o) v l := by
  rcases h with h | ⟨b, cap, h1, h2, h3, h4⟩
  · exact .inl h
  · exact .inr ⟨b, cap, h1, h2, h3, h4.alloc o⟩
theorem RB.below {B : Nat} {w w' : World} {v : Value} {l : List UInt8} (h : RB B w v l) (hb : Below w.heap.size w w') : RB B w' v l := by
  rcases h with h | ⟨b, cap, h1, h2, h3, h4⟩
  · exact .inl h
  · refine .inr ⟨b, cap, h1, h2, h3, h4.below hb ?_⟩
    obtain ⟨_, _, _, hh, _⟩ := h4
    exact (Array.getElem?_eq_some_iff.1 hh).1
theorem RB.shape {B : Nat} {w : World} {v : Value} {l : List UInt8} (h : RB B w v l) : ∃ p c, v = .slice p l.length c ∧ l.length ≤ c ∧ c ≤ 9223372036854775807 := by
  rcases h with ⟨rfl, rfl⟩ | ⟨b, cap, h1, _, h3, _, _, _, _, _, _, h4, _⟩
  · exact ⟨none, 0, rfl, Nat.le_refl _, by decide⟩
  · exact ⟨_, cap, h1, h4, h3⟩
theorem RB.str {B : Nat} {w : World} {v : Value} {l : List UInt8} (h : RB B w v l) {P : Program} {src dst : TypeId} (hs : P.underlying src = some (.slice 5)) (he : P.underlying 5 = some (.int .u8)) (hd : P.underlying dst = some .string) :
    (convert src dst v).run P w = .ok (.string ⟨l.toArray⟩) w := by
  rcases h with ⟨rfl, rfl⟩ | ⟨b, cap, rfl, _, _, h4⟩
  · rw [run_convert_bytes_string w src dst 5 none 0 0 hs he hd]
    rfl
  · exact h4.str cap hs he hd
theorem run_append_rb {P : Program} {ts : Array TypeId} {ty t u : TypeId} {d : TypeDesc} {i : TypeInfo} {w : World} {B : Nat} {l m : List UInt8} {s v : Value}
    (h0 : ts[0]? = some t) (h1 : ts[1]? = some u) (ht : P.underlying t = some (.slice 5)) (hu : P.underlying u = some d) (hd : ∀ k, d ≠ .int k)
    (hi : P.info? 5 = some i) (hz0 : i.zero = some (.int .u8 0)) (hz1 : i.size = 1) (hz2 : i.bytes = 1)
    (hr : RB B w s l) (hs : Src P w v m) (hB : B ≤ w.heap.size) (hbd : l.length + m.length ≤ 1000000) :
    ∃ s' w', (Builtin.append_ ts ty #[s, v]).run P w = .ok s' w' ∧ RB B w' s' (l ++ m) ∧ Below B w w' := by
  rcases hr with ⟨rfl, rfl⟩ | ⟨b, cap, rfl, hb, hcap, hrow⟩
  · have hsrc := hs.read
    rw [← hz1] at hsrc
    by_cases hm : m = []
    · subst hm
      have hrun := append_fits (P := P) (w := w) (ty := ty) (base := none) (sLen := 0) (sCap := 0) h0 h1 ht hu hd hi hs.len (hsrc w rfl) (Nat.le_refl _)
      exact ⟨_, _, hrun, .inl ⟨rfl, rfl⟩, Below.refl _ _⟩
    · have hml : 0 < m.length := List.length_pos_iff.2 hm
      simp only [List.length_nil, Nat.zero_add] at hbd
      have hold : (Builtin.firstCells i.size 0 (.slice none 0 0)).run P w.drew = .ok ([] : List Value).toArray w.drew := run_firstCells_none w.drew i.size 0 0 0
      have hrun := append_grows (P := P) (w := w) (ty := ty) (base := none) (sLen := 0) (sCap := 0) (us := []) h0 h1 ht hu hd hi hz0 hs.len (hsrc w.drew rfl) hold (by omega) (by rw [hz2]; omega) (by omega)
      have hge := grownCap_ge w (0 + m.length) 0 5
      have hmx := grownCap_le_maxLen w (0 + m.length) 0 5 (by unfold maxLen; omega)
      unfold maxLen at hmx
      simp only [Nat.zero_add] at hrun hge hmx
      refine ⟨_, _, hrun, .inr ⟨w.heap.size, grownCap w m.length 0 5, by simp, hB, by omega, ⟨_, 0, 0, heap_alloc_new w.drew _, .inr rfl, ?_, by simpa using hge, fun j c hj => ?_⟩⟩, (Below.refl _ _).drew.alloc hB _⟩
      · simp [vbytes, Builtin.zeroCells, Value.cells]
        omega
      · have hjl := (List.getElem?_eq_some_iff.1 hj).1
        simp at hjl hj
        rw [Array.getElem?_append_left (by simp [vbytes]; omega), Array.getElem?_append_right (by simp)]
        simp [vbytes, hj]
  · obtain ⟨b', cap', w', e1, e2, e3, e4, e5, _⟩ := run_append_row (P := P) (ts := ts) (ty := ty) h0 h1 ht hu hd hi hz0 hz1 hz2 hrow hs hb hcap hbd
    exact ⟨_, w', e1, .inr ⟨b', cap', by rw [List.length_append], e4, e5, e2⟩, e3⟩
theorem wpList_append_rb {P : Program} {ops : Array Oper} {rest : List Oper} {o : Oper} {a : Act} {w : World} {Q : Exit → Act → World → Prop} (hgd : o.guard = none) (s x : Operand) (t u : TypeId)
    (ho : o.op = .call { callee := .builtin .append, args := #[s, x], argTypes := #[t, u] }) {d : TypeDesc} {i : TypeInfo}
    (ht : P.underlying t = some (.slice 5)) (hu : P.underlying u = some d) (hd : ∀ k, d ≠ .int k) (hi : P.info? 5 = some i) (hz0 : i.zero = some (.int .u8 0)) (hz1 : i.size = 1) (hz2 : i.bytes = 1)
    {B : Nat} {l m : List UInt8} {sv v : Value} (hs : a.eval s = sv) (hx : a.eval x = v) (hr : RB B w sv l) (hv : Src P w v m) (hB : B ≤ w.heap.size) (hbd : l.length + m.length ≤ 1000000)
    (h : ∀ s' w', RB B w' s' (l ++ m) → Below B w w' → wpList P ops Q rest (a.put o.dst s') w') : wpList P ops Q (o :: rest) a w :=
  wpList_plain hgd fun _ hK => by
    obtain ⟨s', w', e1, e2, e3⟩ := run_append_rb (P := P) (ts := #[t, u]) (ty := o.type) (t := t) (u := u) rfl rfl ht hu hd hi hz0 hz1 hz2 hr hv hB hbd
    unfold Oper.wp execOp
    simp only [ho, resolve, invoke, builtin, Sem.run_bind, Sem.run_pure, Result.andThen_ok, List.map_toArray, List.map_cons, List.map_nil, hs, hx, e1]
    exact hK _ _ (h s' w' e2 e3)
/-- A literal's row as a source. -/
theorem Src.lit (P : Program) (w : World) (l : List UInt8) : Src P (w.alloc (.cells (vbytes l).toArray 5)) (.slice (some ⟨w.heap.size, 0, none⟩) l.length l.length) l := by
  refine Src.row (cap := l.length) ⟨_, 0, 0, heap_alloc_new w _, .inr rfl, by simp [vbytes], Nat.le_refl _, fun j c hj => ?_⟩
  rw [List.getElem?_toArray]
  simp only [vbytes, List.getElem?_map, hj, Option.map_some]
end Go.Rb

namespace Go.Tx
/-- Digits before a text, until nothing is left of the number. -/
def decG (k : Nat) (s : List UInt8) : List UInt8 :=
  if h : k = 0 then (if s = [] then [48] else s) else decG (k / 10) (UInt8.ofNat (48 + k % 10) :: s)
termination_by k
decreasing_by omega
theorem decG_zero (s : List UInt8) (h : ¬ s = []) : decG 0 s = s := by unfold decG; simp [h]
theorem decG_pos {k : Nat} (s : List UInt8) (h : 0 < k) : decG k s = decG (k / 10) (UInt8.ofNat (48 + k % 10) :: s) := by
  rw [decG, dif_neg (by omega)]
theorem decG_nil : decG 0 [] = decG (0 / 10) (UInt8.ofNat (48 + 0 % 10) :: []) := by
  show decG 0 [] = decG 0 [48]
  rw [decG_zero [48] (by simp)]
  unfold decG; simp
def emptyN : Value → Nat
  | .string s => 1 - s.size
  | _ => 0
end Go.Tx
namespace Go.Proofs.YtabkdaaenikliaaGreatDoor
open Go.RowKit Go.Lib Go.Tx
theorem toList_data (s : ByteArray) : s.toList = s.data.toList := by
  exact Go.Lib.toList_data s
theorem byte_str (w : World) (c : UInt8) : (convert 41 9 (.slice (some ⟨w.heap.size, 0, none⟩) 1 1)).run Tryz.prog (w.alloc (.cells #[.int .u8 (c.toNat : Int)] 5)) = .ok (.string ⟨#[c]⟩) (w.alloc (.cells #[.int .u8 (c.toNat : Int)] 5)) := by
  have := run_convert_bytes_back (P := Tryz.prog) (w.alloc (.cells #[.int .u8 (c.toNat : Int)] 5)) 41 9 5 ⟨w.heap.size, 0, none⟩ 1 [c] Tryz.underlying41 Tryz.underlying5 Tryz.underlying9 (fun j hj => by
    have ha : (⟨w.heap.size, 0, none⟩ : Addr).add j = ⟨w.heap.size, j, none⟩ := by unfold Addr.add; split <;> simp_all
    rw [ha, World.cell?_alloc_new]
    have : j = 0 := by simpa using hj
    subst this
    rfl)
  exact this
def TextR (w : World) (l : List UInt8) (e : Ending) (w' : World) : Prop := e = .returned (.string ⟨l.toArray⟩) ∧ Below w.heap.size w w'
set_option maxHeartbeats 2000000 in
set_option maxRecDepth 100000 in
theorem dec_any (n : Nat) (w : World) (hn : n ≤ 1000000000000) :
    Calls Tryz.prog 12 #[.int .i64 (n : Int)] w (TextR w (decG n [])) := by
  go_enter Tryz.func12, Tryz.ntmps12
  go_wp2
  go_loopw [3, 4] (fun sv kv wr => ∃ (k : Nat) (s : ByteArray), k ≤ n ∧ kv = .int .i64 (k : Nat) ∧ sv = .string s ∧ Hid (decG n [] = decG k s.data.toList) ∧ s.size + k ≤ n + 1 ∧ Below w.heap.size w wr) (fun sv kv _ => (intOf kv).toNat + emptyN sv)
  case atStart => exact ⟨n, ⟨#[]⟩, Nat.le_refl _, rfl, rfl, Lib.hid rfl, by show 0 + n ≤ n + 1; omega, Below.refl _ _⟩
  case round =>
    obtain ⟨k, s, hk, rfl, rfl, hI, hsz, hb⟩ := hrel
    by_cases h0 : k = 0
    · subst h0
      by_cases hl : s.data.toList = []
      · have e1 : s = ⟨#[]⟩ := by
          apply ByteArray.ext; apply Array.ext'; exact hl
        subst e1
        clear hl
        have hbs := byte_str wr 48
        rw [show ((48 : UInt8).toNat : Int) = 48 from rfl] at hbs
        go_wp2
        go_roundw
        case rel => exact ⟨0, ⟨#[48]⟩, Nat.zero_le _, by go_num, rfl, Lib.hid (by rw [hI.out]; exact decG_nil), by show 1 + 0 ≤ n + 1; omega, hb.alloc hb.size _⟩
        case measure => simp [intOf, emptyN]; decide
      · have HL := Lib.hid hl
        have e1 : ¬ s.toList = [] := by rw [toList_data]; exact hl
        have e2 : s.toList.isEmpty = false := by cases hh : s.toList with | nil => exact absurd hh e1 | cons x y => rfl
        clear hl
        go_wp2
        go_ret
        exact ⟨by rw [hI.out, decG_zero _ HL.out]; rfl, hb⟩
    · have hp : 0 < k := by omega
      clear h0
      have hbs := byte_str wr (UInt8.ofNat (48 + k % 10))
      have hdig : ((UInt8.ofNat (48 + k % 10)).toNat : Int) = 48 + (k : Int) % 10 := by simp; omega
      rw [hdig] at hbs
      go_wp2
      go_roundw
      case rel => exact ⟨k / 10, ⟨#[48 + UInt8.ofNat (k % 10)]⟩ ++ s, Nat.le_trans (Nat.div_le_self _ _) hk, by go_num, rfl, Lib.hid (by rw [hI.out, decG_pos _ hp]; simp), by rw [ByteArray.size_append]; show 1 + s.size + k / 10 ≤ n + 1; omega, hb.alloc hb.size _⟩
      case measure => simp [intOf, emptyN]; omega
end Go.Proofs.YtabkdaaenikliaaGreatDoor

namespace Go.Rb
open Go.Ev
theorem RB.mono {B B' : Nat} {w : World} {v : Value} {l : List UInt8} (h : RB B w v l) (hB : B' ≤ B) : RB B' w v l := by
  rcases h with h | ⟨b, cap, h1, h2, h3, h4⟩
  · exact .inl h
  · exact .inr ⟨b, cap, h1, Nat.le_trans hB h2, h3, h4⟩
theorem lit2 {P : Program} {x y : Int} {c d : UInt8} (w : World) (ty : Unit) (hx : (c.toNat : Int) = x) (hy : (d.toNat : Int) = y) :
    Src P (w.alloc (.cells #[.int .u8 x, .int .u8 y] 5)) (.slice (some ⟨w.heap.size, 0, none⟩) 2 2) [c, d] := by
  subst hx hy
  exact Src.lit P w [c, d]
theorem src_text (P : Program) (w : World) (l : List UInt8) : Src P w (.string ⟨l.toArray⟩) l := Src.str P w ⟨l.toArray⟩
end Go.Rb
namespace Go.Proofs.YtabkdaaenikliaaGreatDoor
open Go.RowKit Go.Lib Go.Tx Go.Rb Go.Ev
def GroupsR (w : World) (r : Option (List UInt8)) (e : Ending) (w' : World) : Prop :=
  Below w.heap.size w w' ∧ match r with
    | none => e = .returned (.tuple #[.slice none 0 0, .bool false])
    | some l => ∃ v, e = .returned (.tuple #[v, .bool true]) ∧ RB w.heap.size w' v l
end Go.Proofs.YtabkdaaenikliaaGreatDoor

namespace Go.Tx
def ccAt (l : List UInt8) (k : Nat) : Bool := decide (l[k]? = some 58) && decide (l[k + 1]? = some 58)
def dblP (l : List UInt8) (k : Nat) : Option (List UInt8) :=
  match groupsP false (l.take k), groupsP true (l.drop (k + 2)) with
  | some a, some b => if 14 < a.length + b.length then none else some (a ++ List.replicate (16 - a.length - b.length) 0 ++ b)
  | _, _ => none
def parseP (l : List UInt8) : Option (List UInt8) :=
  match fourP (splitL 46 l) with
  | some f => some f
  | none => match (List.range l.length).find? (ccAt l) with
    | some k => dblP l k
    | none => match groupsP true l with
      | some b => if b.length = 16 then some b else none
      | none => none
theorem cc_some {l : List UInt8} {k : Nat} (h : ∀ j, j < k → ccAt l j = false) (hk : ccAt l k = true) : (List.range l.length).find? (ccAt l) = some k := by
  rw [List.find?_range_eq_some]
  refine ⟨hk, ?_, fun j hj => by simp [h j hj]⟩
  unfold ccAt at hk
  simp only [Bool.and_eq_true, decide_eq_true_eq] at hk
  exact List.mem_range.2 (List.getElem?_eq_some_iff.1 hk.1).1
theorem cc_none {l : List UInt8} {k : Nat} (h : ∀ j, j < k → ccAt l j = false) (hk : l.length ≤ k + 1) : (List.range l.length).find? (ccAt l) = none := by
  rw [List.find?_eq_none]
  intro j hj
  have hj := List.mem_range.1 hj
  by_cases hjk : j < k
  · simp [h j hjk]
  · have : l[j + 1]? = none := List.getElem?_eq_none (by omega)
    simp [ccAt, this]
theorem cc_step {l : List UInt8} {k : Nat} (h : ∀ j, j < k → ccAt l j = false) (hk : ccAt l k = false) : ∀ j, j < k + 1 → ccAt l j = false := fun j hj => by
  by_cases e : j = k
  · rw [e]; exact hk
  · exact h j (by omega)
end Go.Tx
namespace Go.Proofs.YtabkdaaenikliaaGreatDoor
open Go.RowKit Go.Lib Go.Tx Go.Rb Go.Ev
theorem ext_take (s : ByteArray) (k : Nat) : (s.extract 0 k).data.toList = s.data.toList.take k := by
  simp [ByteArray.extract, ByteArray.copySlice, List.extract]
theorem ext_from (s : ByteArray) (k : Nat) : (s.extract k s.size).data.toList = s.data.toList.drop k := by
  simp [ByteArray.extract, ByteArray.copySlice, List.extract]
  apply List.take_of_length_le
  simp
theorem groupsR_none {w w' : World} {r : Option (List UInt8)} {e : Ending} (h : r = none) (hg : GroupsR w r e w') : e = .returned (.tuple #[.slice none 0 0, .bool false]) ∧ Below w.heap.size w w' := by
  subst h; exact ⟨hg.2, hg.1⟩
theorem groupsR_some {w w' : World} {r : Option (List UInt8)} {l : List UInt8} {e : Ending} (h : r = some l) (hg : GroupsR w r e w') : ∃ v, e = .returned (.tuple #[v, .bool true]) ∧ RB w.heap.size w' v l ∧ Below w.heap.size w w' := by
  subst h
  obtain ⟨h1, v, h2, h3⟩ := hg
  exact ⟨v, h2, h3, h1⟩
end Go.Proofs.YtabkdaaenikliaaGreatDoor

namespace Go.Tx
open Go.Lib
/-- A word as a name, if it is one. -/
def nm (l : List UInt8) : Option (List UInt8) := if nameB (bare l) = true then some ((bare l).map low) else none
/-- What the words of a line say. -/
def rowOf : List (List UInt8) → Option (List UInt8 × List (List UInt8))
  | [] => none
  | x :: r => match parseP x with
    | none => none
    | some a => if r.filterMap nm = [] then none else some (a, r.filterMap nm)
def rowsOf (T : List (Nat × List (List UInt8))) : List (List UInt8 × List (List UInt8)) := T.filterMap fun t => rowOf t.2
def put32 (a : List UInt8) (l : List (List UInt8)) : List (List UInt8) := if l.length < 32 ∧ a ∉ l then l ++ [a] else l
/-- What a row with the address a adds to the addresses of k. -/
def putN (a k : List UInt8) (l f : List (List UInt8)) : List (List UInt8) := f.foldl (fun l x => if x = k then put32 a l else l) l
def addsOf (R : List (List UInt8 × List (List UInt8))) (k : List UInt8) : List (List UInt8) := R.foldl (fun l r => putN r.1 k l r.2) []
def namesAt (R : List (List UInt8 × List (List UInt8))) (a : List UInt8) : Option (List (List UInt8)) := (R.find? fun r => decide (r.1 = a)).map (·.2)
theorem addsOf_snoc (R : List (List UInt8 × List (List UInt8))) (r : List UInt8 × List (List UInt8)) (k : List UInt8) : addsOf (R ++ [r]) k = putN r.1 k (addsOf R k) r.2 := by
  simp [addsOf, List.foldl_append]
theorem namesAt_snoc (R : List (List UInt8 × List (List UInt8))) (r : List UInt8 × List (List UInt8)) (a : List UInt8) :
    namesAt (R ++ [r]) a = match namesAt R a with | some x => some x | none => if a = r.1 then some r.2 else none := by
  unfold namesAt
  rw [List.find?_append]
  cases R.find? fun r => decide (r.1 = a) with
  | some x => simp
  | none =>
    by_cases h : a = r.1
    · simp [List.find?, h]
    · have h' : ¬ r.1 = a := fun e => h e.symm
      simp [List.find?, h, h']
theorem put32_len {a : List UInt8} {l : List (List UInt8)} (h : l.length ≤ 32) : (put32 a l).length ≤ 32 := by
  unfold put32
  split
  · rename_i h1; simp; omega
  · exact h
theorem putN_snoc (a k : List UInt8) (l f : List (List UInt8)) (x : List UInt8) : putN a k l (f ++ [x]) = if x = k then put32 a (putN a k l f) else putN a k l f := by
  simp [putN, List.foldl_append]
theorem putN_len (a k : List UInt8) : ∀ (f l : List (List UInt8)), l.length ≤ 32 → (putN a k l f).length ≤ 32
  | [], l, h => h
  | x :: f, l, h => by
    show (putN a k (if x = k then put32 a l else l) f).length ≤ 32
    refine putN_len a k f _ ?_
    split
    · exact put32_len h
    · exact h
theorem addsOf_len (R : List (List UInt8 × List (List UInt8))) (k : List UInt8) : (addsOf R k).length ≤ 32 := by
  have key : ∀ (R : List (List UInt8 × List (List UInt8))) (l : List (List UInt8)), l.length ≤ 32 → (R.foldl (fun l r => putN r.1 k l r.2) l).length ≤ 32 := by
    intro R
    induction R with
    | nil => intro l h; exact h
    | cons r R ih => intro l h; exact ih _ (putN_len _ _ _ _ h)
  exact key R [] (by simp)
theorem rowsOf_snoc (T : List (Nat × List (List UInt8))) (t : Nat × List (List UInt8)) : rowsOf (T ++ [t]) = rowsOf T ++ (rowOf t.2).toList := by
  unfold rowsOf
  rw [List.filterMap_append]
  cases h : rowOf t.2 <;> simp [h]
theorem takeH {α : Type} {T : List α} {k : Nat} {t : α} (h : T[k]? = some t) : T.take (k + 1) = T.take k ++ [t] := by
  have hk := (List.getElem?_eq_some_iff.1 h).1
  rw [List.getElem?_eq_getElem hk] at h
  cases h
  exact List.take_succ_eq_append_getElem hk
/-! ### How long words are -/
theorem stepW_word {n : Nat} {u : List UInt8 × List (List UInt8)} {c : UInt8} (h1 : u.1.length ≤ n) (h2 : ∀ x ∈ u.2, x.length ≤ n) : (stepW blankN u c).1.length ≤ n + 1 ∧ ∀ x ∈ (stepW blankN u c).2, x.length ≤ n + 1 := by
  unfold stepW
  split
  · split
    · exact ⟨by simp, fun x hx => Nat.le_succ_of_le (h2 x hx)⟩
    · refine ⟨by simp, fun x hx => ?_⟩
      rcases List.mem_append.1 hx with hx | hx
      · exact Nat.le_succ_of_le (h2 x hx)
      · rw [List.mem_singleton.1 hx]; omega
  · exact ⟨by simp; omega, fun x hx => Nat.le_succ_of_le (h2 x hx)⟩
theorem fold_word : ∀ (l : List UInt8) (n : Nat) (u : List UInt8 × List (List UInt8)), u.1.length ≤ n → (∀ x ∈ u.2, x.length ≤ n) → (l.foldl (stepW blankN) u).1.length ≤ n + l.length ∧ ∀ x ∈ (l.foldl (stepW blankN) u).2, x.length ≤ n + l.length
  | [], n, u, h1, h2 => ⟨h1, h2⟩
  | c :: l, n, u, h1, h2 => by
    have h3 := stepW_word (c := c) h1 h2
    have h4 := fold_word l (n + 1) _ h3.1 h3.2
    rw [List.foldl_cons, List.length_cons]
    exact ⟨by omega, fun x hx => by have := h4.2 x hx; omega⟩
theorem hashCut_len (l : List UInt8) : (hashCut l).length ≤ l.length := by
  unfold hashCut
  exact (List.takeWhile_sublist _).length_le
theorem wordsOf_few (l : List UInt8) : (wordsOf l).length ≤ 513 ∧ ∀ x ∈ wordsOf l, x.length ≤ 512 := by
  unfold wordsOf
  cases hb : badSeg l with
  | true => simp
  | false =>
    simp only [Bool.false_eq_true, if_false]
    have hl : l.length ≤ 512 := by
      unfold badSeg at hb
      simp only [Bool.or_eq_false_iff, decide_eq_false_iff_not] at hb
      omega
    have hc := hashCut_len l
    have h1 := fold_len (hashCut l) ([], [])
    have h2 := fold_word (hashCut l) 0 ([], []) (by simp) (by simp)
    unfold wordsL closeW
    simp only [List.length_nil, Nat.zero_add] at h1 h2
    split
    · exact ⟨by omega, fun x hx => by have := h2.2 x hx; omega⟩
    · refine ⟨by simp; omega, fun x hx => ?_⟩
      rcases List.mem_append.1 hx with hx | hx
      · have := h2.2 x hx; omega
      · rw [List.mem_singleton.1 hx]; omega
/-- A line that is told. -/
structure FineL (ws : List (List UInt8)) : Prop where
  ne : ws ≠ []
  few : ws.length ≤ 513
  word : ∀ x ∈ ws, x.length ≤ 512
theorem tell_fine (no : Nat) (l : List UInt8) : ∀ t ∈ tell no l, FineL t.2 := by
  intro t ht
  unfold tell at ht
  split at ht
  · simp at ht
  · rename_i h
    rw [List.mem_singleton.1 ht]
    exact ⟨h, (wordsOf_few l).1, (wordsOf_few l).2⟩
theorem tell_few (no : Nat) (l : List UInt8) : (tell no l).length ≤ 1 := by
  unfold tell
  split <;> simp
theorem toldG_fine : ∀ (l : List UInt8) (no : Nat) (cur : List UInt8), (∀ t ∈ toldG no cur l, FineL t.2) ∧ (toldG no cur l).length ≤ l.length + 1
  | [], no, cur => ⟨tell_fine no cur, tell_few no cur⟩
  | c :: l, no, cur => by
    unfold toldG
    split
    · have h := toldG_fine l (no + 1) []
      have h2 := tell_few no cur
      refine ⟨fun t ht => ?_, by simp; omega⟩
      rcases List.mem_append.1 ht with ht | ht
      · exact tell_fine no cur t ht
      · exact h.1 t ht
    · have h := toldG_fine l no (cur ++ [c])
      exact ⟨h.1, by simp; omega⟩
end Go.Tx

namespace Go.Proofs.YtabkdaaenikliaaGreatDoor
open Go.RowKit Go.Lib Go.Tx
/-- A value that reads as texts. -/
def TextsIn (w : World) (v : Value) (zs : List (List UInt8)) : Prop :=
  (v = .slice none 0 0 ∧ zs = []) ∨ ∃ ad c, v = .slice (some ad) zs.length c ∧ ∀ (i : Nat) l, zs[i]? = some l → w.cell? (ad.add i) = some (strV l)
theorem StrC.texts {B : Nat} {w : World} {v : Value} {ws : List (List UInt8)} (h : StrC B w v ws) : TextsIn w v ws := by
  rcases h.2 with ⟨a, b⟩ | ⟨g, cap, cur, a, a2, a3, a4, a5, a6⟩
  · refine .inl ⟨a, ?_⟩
    have := h.1
    cases ws
    · rfl
    · simp at b
  · refine .inr ⟨⟨g, 0, none⟩, cap, a, fun i l hi => ?_⟩
    have := World.ownsRow.cells h (g := g) (by rw [a]; rfl) i (strV l) (by rw [List.getElem?_map, hi]; rfl)
    exact this
theorem TextsIn.below {w w' : World} {v : Value} {zs : List (List UInt8)} (h : TextsIn w v zs) (hb : Below w.heap.size w w') : TextsIn w' v zs := by
  rcases h with h | ⟨ad, c, h1, h2⟩
  · exact .inl h
  · refine .inr ⟨ad, c, h1, fun i l hi => ?_⟩
    have hc := h2 i l hi
    have hlt : (ad.add i).block < w.heap.size := by
      unfold World.cell? at hc
      split at hc
      · rename_i hh
        exact (Array.getElem?_eq_some_iff.1 hh).1
      · cases hc
    rw [hb.cell hlt]
    exact hc
theorem infoStr : (Tryz.prog.info? 9).map (fun i => (i.zero, i.size, i.bytes)) = some (some (.string ⟨#[]⟩), 1, 16) := by kernel_rfl
theorem wpList_append_texts {w : World} {ops : Array Oper} {rest : List Oper} {o : Oper} {a : Act} {Q : Exit → Act → World → Prop} (hgd : o.guard = none) (s x : Operand)
    (ho : o.op = .call { callee := .builtin .append, args := #[s, x], argTypes := #[23, 23] }) {B : Nat} {v y : Value} {ws zs : List (List UInt8)} (hs : a.eval s = v) (hx : a.eval x = y) (hown : StrC B w v ws) (hsrc : TextsIn w y zs)
    (hlen : ws.length + zs.length ≤ 1000000) (hB : B ≤ w.heap.size) (h : ∀ v' w', StrC B w' v' (ws ++ zs) → Below B w w' → wpList Tryz.prog ops Q rest (a.put o.dst v') w') : wpList Tryz.prog ops Q (o :: rest) a w := by
  obtain ⟨i9, hi, hz0, hz1, hz2⟩ := info_parts infoStr
  rcases hsrc with ⟨rfl, rfl⟩ | ⟨ad, c, rfl, hcell⟩
  · exact wpList_append_own_none hgd s x 23 ho B 9 i9 1 Tryz.underlying23 hi v ws.length (ws.map strV) hs hown hx (h v w (by rw [List.append_nil]; exact hown) (Below.refl B w))
  · refine wpList_append_own w hgd s x 23 ho B 9 i9 (.string ⟨#[]⟩) 1 16 Tryz.underlying23 hi hz0 hz1 hz2 rfl (by decide) v ws.length (ws.map strV) hs hown ad zs.length c (zs.map strV) hx (by simp) (fun j u hj => ?_) ?_ (by unfold maxLen; omega) (by omega) hB fun v' w' h1 h2 h3 => ?_
    · rw [List.getElem?_map] at hj
      obtain ⟨l, hl, rfl⟩ := Option.map_eq_some_iff.1 hj
      exact hcell j l hl
    · intro u hu
      obtain ⟨l, _, rfl⟩ := List.mem_map.1 hu
      rfl
    · refine h v' w' ?_ ?_
      · unfold StrC
        rw [List.length_append, List.map_append]
        exact h1
      · exact (Below.refl B w).grown h2 hB (fun g hg => (World.ownsRow.lt hown g hg).1)
end Go.Proofs.YtabkdaaenikliaaGreatDoor

namespace Go.Mp
open Go.Ev Go.RowKit
theorem MapAt.lookup2 {P : Program} {w : World} {b t key elem : Nat} {F : ByteArray → Option Value} (h : MapAt w b F) (ht : P.underlying t = some (.map key elem)) (hk : P.underlying key = some .string) {z : Value} (hz : (zeroValue elem).run P w = .ok z w) (k : ByteArray) :
    (Instr.lookup t (.map (some b)) (.string k) true).run P w = .ok (.tuple #[(F k).getD z, .bool (F k).isSome]) w := by
  obtain ⟨ms, c, h1, h2, h3⟩ := h
  have hf := find_str k ms.toList 0 h2
  rw [h3 k] at hf
  cases hF : F k with
  | none =>
    rw [hF] at hf
    simp only at hf
    simp only [Instr.lookup, pure_bind, Sem.run_bind, run_und ht, Result.andThen_ok, run_getObj h1 (by simp), checkKey_run hk rfl, findKey_run hk hf, hz, Sem.run_pure]
    rfl
  | some v =>
    rw [hF] at hf
    simp only at hf
    obtain ⟨j, m, _, _, _, _, h5, _⟩ := hf
    simp only [Instr.lookup, pure_bind, Sem.run_bind, run_und ht, Result.andThen_ok, run_getObj h1 (by simp), checkKey_run hk rfl, findKey_run hk h5, hz, Sem.run_pure]
    rfl
theorem wpList_mapUpdate_at' {P : Program} {w : World} {ops : Array Oper} {rest : List Oper} {o : Oper} {a : Act} {Q : Exit → Act → World → Prop}
    (hg : o.guard = none) (m x v : Operand) (t : TypeId) (hop : o.op = Op.mapUpdate t m x v) {key elem b : Nat} {F : ByteArray → Option Value} (ht : P.underlying t = some (.map key elem)) (hk : P.underlying key = some .string)
    (hm : a.eval m = .map (some b)) (hown : MapAt w b F) {k : ByteArray} {val : Value} (hx : a.eval x = .string k) (hv : a.eval v = val)
    (hK : ∀ w', MapAt w' b (upd F k val) → w'.heap.size = w.heap.size → (∀ j, j ≠ b → w'.heap[j]? = w.heap[j]?) → w'.os = w.os → w'.tape = w.tape → w'.output = w.output → wpList P ops Q rest (a.put o.dst undef) w') :
    wpList P ops Q (o :: rest) a w := by
  refine wpList_plain hg fun K' hK' => ?_
  obtain ⟨O, hrun, r1⟩ := hown.update ht hk k val
  unfold Oper.wp
  simp [execOp, hop, hm, hx, hv, hrun, Result.andThen]
  refine hK' _ _ (hK _ r1 (by simp) (fun j hj => ?_) rfl rfl rfl)
  simp only [Array.getElem?_setIfInBounds]
  rw [if_neg (fun e => hj e.symm)]
end Go.Mp
namespace Go.Tx
open Go.RowKit Go.Mp
abbrev nilV : Value := .slice none 0 0
/-- The block that the slice of k stands in. -/
def blk (F : ByteArray → Option Value) (k : List UInt8) : Option Nat := ((F ⟨k.toArray⟩).getD nilV).ownBlock
/-- Block p is a table of n rows, with the maps m1 (A: addresses by names) and m2 (C: names by addresses); its slices lie from block L on, no two of the first map in one block. -/
structure TB (L : Nat) (w : World) (p m1 m2 : Nat) (n : Nat) (A : List UInt8 → List (List UInt8)) (C : List UInt8 → Option (List (List UInt8))) (F G : ByteArray → Option Value) : Prop where
  pl : p < L
  l1 : m1 < L
  l2 : m2 < L
  n1 : p ≠ m1
  n2 : p ≠ m2
  n12 : m1 ≠ m2
  size : L ≤ w.heap.size
  blk : w.heap[p]? = some (.cells #[.int .i64 (n : Int), .map (some m1), .map (some m2)] 91 (0, 0))
  f : MapAt w m1 F
  g : MapAt w m2 G
  hF : ∀ k, StrC L w ((F ⟨k.toArray⟩).getD nilV) (A k)
  hG : ∀ k, match C k with
    | none => G ⟨k.toArray⟩ = none
    | some ws => ∃ v, G ⟨k.toArray⟩ = some v ∧ StrC L w v ws
  dF : ∀ k k' b, Go.Tx.blk F k = some b → Go.Tx.blk F k' = some b → k = k'
  dG : ∀ k k' b, Go.Tx.blk F k = some b → Go.Tx.blk G k' = some b → False
theorem TB.below {L : Nat} {w w' : World} {p m1 m2 n : Nat} {A : List UInt8 → List (List UInt8)} {C : List UInt8 → Option (List (List UInt8))} {F G : ByteArray → Option Value} (h : TB L w p m1 m2 n A C F G) (hb : Below w.heap.size w w') : TB L w' p m1 m2 n A C F G where
  pl := h.pl
  l1 := h.l1
  l2 := h.l2
  n1 := h.n1
  n2 := h.n2
  n12 := h.n12
  size := Nat.le_trans h.size hb.size
  blk := by rw [hb.block p (Nat.lt_of_lt_of_le h.pl h.size)]; exact h.blk
  f := h.f.same (hb.block m1 (Nat.lt_of_lt_of_le h.l1 h.size))
  g := h.g.same (hb.block m2 (Nat.lt_of_lt_of_le h.l2 h.size))
  hF := fun k => own_below (h.hF k) hb
  hG := fun k => by
    have := h.hG k
    split
    · rename_i e; rw [e] at this; exact this
    · rename_i ws e
      rw [e] at this
      obtain ⟨v, h1, h2⟩ := this
      exact ⟨v, h1, own_below h2 hb⟩
  dF := h.dF
  dG := h.dG
theorem TB.lt {L : Nat} {w : World} {p m1 m2 n : Nat} {A : List UInt8 → List (List UInt8)} {C : List UInt8 → Option (List (List UInt8))} {F G : ByteArray → Option Value} (h : TB L w p m1 m2 n A C F G) {k : List UInt8} {b : Nat} (hb : Go.Tx.blk F k = some b) : L ≤ b ∧ b < w.heap.size := World.ownsRow.lt (h.hF k) b hb
theorem bk (k : ByteArray) : (⟨k.data.toList.toArray⟩ : ByteArray) = k := by cases k; simp
/-- What a call may have turned: the table's block, its maps, and what lies from L on. -/
structure Out (L : Nat) (w w' : World) (p m1 m2 : Nat) : Prop where
  os : w'.os = w.os
  tape : w'.tape = w.tape
  output : w'.output = w.output
  size : w.heap.size ≤ w'.heap.size
  same : ∀ j, j < L → j ≠ p → j ≠ m1 → j ≠ m2 → w'.heap[j]? = w.heap[j]?
theorem Out.refl (L : Nat) (w : World) (p m1 m2 : Nat) : Out L w w p m1 m2 := ⟨rfl, rfl, rfl, Nat.le_refl _, fun _ _ _ _ _ => rfl⟩
theorem Out.trans {L : Nat} {w w' w'' : World} {p m1 m2 : Nat} (h : Out L w w' p m1 m2) (k : Out L w' w'' p m1 m2) : Out L w w'' p m1 m2 :=
  ⟨k.os.trans h.os, k.tape.trans h.tape, k.output.trans h.output, Nat.le_trans h.size k.size, fun j a b c d => (k.same j a b c d).trans (h.same j a b c d)⟩
theorem Out.below {L : Nat} {w w' w'' : World} {p m1 m2 : Nat} (h : Out L w w' p m1 m2) (hl : L ≤ w'.heap.size) (k : Below w'.heap.size w' w'') : Out L w w'' p m1 m2 :=
  h.trans ⟨k.os, k.tape, k.output, k.size, fun j a _ _ _ => k.block j (by omega)⟩
/-- Behind an append to the slice of k: everything else of the table is as it was. -/
theorem TB.grown {L : Nat} {w w' : World} {p m1 m2 n : Nat} {A : List UInt8 → List (List UInt8)} {C : List UInt8 → Option (List (List UInt8))} {F G : ByteArray → Option Value} (h : TB L w p m1 m2 n A C F G) {k : List UInt8} {r : Option Nat} (hr : r = none ∨ r = Go.Tx.blk F k) (hg : w.grownBy w' r) :
    L ≤ w'.heap.size ∧ w'.heap[p]? = w.heap[p]? ∧ w'.heap[m1]? = w.heap[m1]? ∧ w'.heap[m2]? = w.heap[m2]? ∧ (∀ j, j ≠ k → StrC L w' ((F ⟨j.toArray⟩).getD nilV) (A j)) ∧
    (∀ j, match C j with
      | none => G ⟨j.toArray⟩ = none
      | some ws => ∃ v, G ⟨j.toArray⟩ = some v ∧ StrC L w' v ws) := by
  have hrl : ∀ b, r = some b → L ≤ b := fun b hb => by
    rcases hr with e | e
    · rw [e] at hb; cases hb
    · rw [e] at hb; exact (h.lt hb).1
  have hlow : ∀ j, j < L → w'.heap[j]? = w.heap[j]? := fun j hj => hg.block j (Nat.lt_of_lt_of_le hj h.size) (fun e => by have := hrl j e.symm; omega)
  refine ⟨Nat.le_trans h.size hg.size, hlow p h.pl, hlow m1 h.l1, hlow m2 h.l2, fun j hj => ?_, fun j => ?_⟩
  · refine World.ownsRow.kept (h.hF j) hg ?_
    cases hv : ((F ⟨j.toArray⟩).getD nilV).ownBlock with
    | none => exact .inl rfl
    | some b =>
      refine .inr fun e => ?_
      rcases hr with e2 | e2
      · rw [e2] at e; cases e
      · exact hj (h.dF j k b hv (by rw [← e2]; exact e.symm))
  · have := h.hG j
    split
    · rename_i e; rw [e] at this; exact this
    · rename_i ws e
      rw [e] at this
      obtain ⟨v, h1, h2⟩ := this
      refine ⟨v, h1, World.ownsRow.kept h2 hg ?_⟩
      cases hv : v.ownBlock with
      | none => exact .inl rfl
      | some b =>
        refine .inr fun e => ?_
        rcases hr with e2 | e2
        · rw [e2] at e; cases e
        · exact h.dG k j b (by rw [← e2]; exact e.symm) (by unfold Go.Tx.blk; rw [h1]; exact hv)
end Go.Tx
namespace Go.Proofs.YtabkdaaenikliaaGreatDoor
open Go.RowKit Go.Lib Go.Tx Go.Mp
theorem zeroS (w : World) : (zeroValue 23).run Tryz.prog w = .ok (.slice none 0 0) w := Tryz.zeroValue23 w
/-- An append of one text: where it lies, what it has turned. -/
theorem append_one {w : World} {B : Nat} {v : Value} {ws : List (List UInt8)} (x : List UInt8) (ad : Addr) (hcell : w.cell? ad = some (strV x)) (hown : StrC B w v ws) (hlen : ws.length ≤ 1000) (hB : B ≤ w.heap.size) (ty : TypeId) :
    ∃ v' w', (Builtin.append_ #[23, 23] ty #[v, .slice (some ad) 1 1]).run Tryz.prog w = .ok v' w' ∧ StrC B w' v' (ws ++ [x]) ∧ w.grownBy w' v.ownBlock ∧ ∀ b, v'.ownBlock = some b → v.ownBlock = some b ∨ w.heap.size ≤ b := by
  obtain ⟨i9, hi, hz0, hz1, hz2⟩ := info_parts infoStr
  have hnews : ∀ (j : Nat) u, [strV x][j]? = some u → w.cell? (ad.add j) = some u := by
    intro j u hj
    have : j = 0 := by have := (List.getElem?_eq_some_iff.1 hj).1; simp at this; omega
    subst this
    simp only [List.getElem?_cons_zero, Option.some.injEq] at hj
    subst hj
    have ha : ad.add 0 = ad := by unfold Addr.add; split <;> simp_all
    rw [ha]; exact hcell
  have key : ∀ B', B' ≤ w.heap.size → w.ownsRow B' 9 1 v ws.length (ws.map strV) → ∃ v' w', (Builtin.append_ #[23, 23] ty #[v, .slice (some ad) 1 1]).run Tryz.prog w = .ok v' w' ∧ w'.ownsRow B' 9 1 v' (ws.length + 1) (ws.map strV ++ [strV x]) ∧ w.grownBy w' v.ownBlock := by
    intro B' hB' ho
    obtain ⟨v', w', h1, h2, h3, _⟩ := run_append_own (P := Tryz.prog) w B' 23 ty 9 i9 (.string ⟨#[]⟩) 1 16 Tryz.underlying23 hi hz0 hz1 hz2 rfl (by decide) v ws.length (ws.map strV) ho ad 1 1 [strV x] (by simp) hnews (by intro u hu; rw [List.mem_singleton.1 hu]; rfl) (by unfold maxLen; omega) (by omega) hB'
    exact ⟨v', w', h1, h2, h3⟩
  obtain ⟨v', w', h1, h2, h3⟩ := key B hB hown
  refine ⟨v', w', h1, ?_, h3, fun b hb => ?_⟩
  · unfold StrC
    rw [List.length_append, List.map_append]
    exact h2
  · rcases hown.2 with ⟨rfl, h0⟩ | ⟨g, cap, cur, rfl, hbg, hg, hnc, hcm, hcs, htake⟩
    · right
      obtain ⟨v2, w2, e1, e2, _⟩ := key w.heap.size (Nat.le_refl _) (by
        have hx : ws.map strV = [] := List.eq_nil_of_length_eq_zero (by simpa using h0)
        rw [hx, h0]
        exact World.ownsRow_nil _ _ _ _)
      rw [h1] at e1
      cases e1
      exact (e2.lt b hb).1
    · by_cases hroom : ws.length + 1 ≤ cap
      · left
        have hr := run_append_room (P := Tryz.prog) w 23 ty 9 i9 Tryz.underlying23 hi g ws.length cap cur hg ad 1 1 [strV x] (by rw [hz1]; simp) hnews (by intro u hu; rw [List.mem_singleton.1 hu]; rfl) hroom (by rw [hz1, hcs]; simp; omega)
        rw [h1] at hr
        cases hr
        exact hb
      · right
        have hr := run_append_grow (P := Tryz.prog) w 23 ty 9 i9 (.string ⟨#[]⟩) Tryz.underlying23 hi hz0 ⟨g, 0, none⟩ ws.length cap (ws.map strV) (by rw [hz1]; simp) (hown.cells (g := g) rfl) ad 1 1 [strV x] (by rw [hz1]; simp) hnews (by omega) (by omega) (growslice_fits (by omega) (by rw [hz2]; omega))
        rw [h1] at hr
        cases hr
        simp only [Value.ownBlock, Option.some.injEq] at hb
        omega
end Go.Proofs.YtabkdaaenikliaaGreatDoor

namespace Go.Proofs.YtabkdaaenikliaaGreatDoor
open Go.RowKit Go.Lib Go.Tx
theorem foreign_any (x : Nat) (hx : x ≤ 1114111) (w : World) : Calls Tryz.prog 91 #[.int .i32 (x : Int)] w fun e w' => e = .returned (.bool (!sign x)) ∧ w' = w := by
  have hc : x < 45 ∨ x = 45 ∨ (46 ≤ x ∧ x ≤ 47) ∨ (48 ≤ x ∧ x ≤ 57) ∨ (58 ≤ x ∧ x ≤ 64) ∨ (65 ≤ x ∧ x ≤ 90) ∨ (91 ≤ x ∧ x ≤ 94) ∨ x = 95 ∨ x = 96 ∨ (97 ≤ x ∧ x ≤ 122) ∨ 122 < x := by omega
  have key : ∀ b, sign x = b → Calls Tryz.prog 91 #[.int .i32 (x : Int)] w (fun e w' => e = .returned (.bool (!b)) ∧ w' = w) → Calls Tryz.prog 91 #[.int .i32 (x : Int)] w fun e w' => e = .returned (.bool (!sign x)) ∧ w' = w := fun b h k => by rw [h]; exact k
  have hs : sign x = decide ((97 ≤ x ∧ x ≤ 122) ∨ (65 ≤ x ∧ x ≤ 90) ∨ (48 ≤ x ∧ x ≤ 57) ∨ x = 45 ∨ x = 95) := by
    simp only [sign]
    by_cases h1 : 97 ≤ x <;> by_cases h2 : x ≤ 122 <;> by_cases h3 : 65 ≤ x <;> by_cases h4 : x ≤ 90 <;> by_cases h5 : 48 ≤ x <;> by_cases h6 : x ≤ 57 <;> by_cases h7 : x = 45 <;> by_cases h8 : x = 95 <;> simp [*]
  rcases hc with h | h | ⟨h, h'⟩ | ⟨h, h'⟩ | ⟨h, h'⟩ | ⟨h, h'⟩ | ⟨h, h'⟩ | h | h | ⟨h, h'⟩ | h
  · refine key false (by rw [hs]; exact decide_eq_false (by omega)) ?_
    clear hs key hx
    have : (x : Int) < 45 := by omega
    go_enter Tryz.func91, Tryz.ntmps91
    go_wp2
    all_goals (go_ret; exact ⟨rfl, rfl⟩)
  · subst h
    refine key true (by decide) ?_
    clear hs key hx
    go_enter Tryz.func91, Tryz.ntmps91
    go_wp2
    all_goals (go_ret; exact ⟨rfl, rfl⟩)
  · refine key false (by rw [hs]; exact decide_eq_false (by omega)) ?_
    clear hs key hx
    have a1 : (46:Int) ≤ (x : Int) := by omega
    have a2 : (x : Int) ≤ 47 := by omega
    go_enter Tryz.func91, Tryz.ntmps91
    go_wp2
    all_goals (go_ret; exact ⟨rfl, rfl⟩)
  · refine key true (by rw [hs]; exact decide_eq_true (by omega)) ?_
    clear hs key hx
    have a1 : (48:Int) ≤ (x : Int) := by omega
    have a2 : (x : Int) ≤ 57 := by omega
    go_enter Tryz.func91, Tryz.ntmps91
    go_wp2
    all_goals (go_ret; exact ⟨rfl, rfl⟩)
  · refine key false (by rw [hs]; exact decide_eq_false (by omega)) ?_
    clear hs key hx
    have a1 : (58:Int) ≤ (x : Int) := by omega
    have a2 : (x : Int) ≤ 64 := by omega
    go_enter Tryz.func91, Tryz.ntmps91
    go_wp2
    all_goals (go_ret; exact ⟨rfl, rfl⟩)
  · refine key true (by rw [hs]; exact decide_eq_true (by omega)) ?_
    clear hs key hx
    have a1 : (65:Int) ≤ (x : Int) := by omega
    have a2 : (x : Int) ≤ 90 := by omega
    go_enter Tryz.func91, Tryz.ntmps91
    go_wp2
    all_goals (go_ret; exact ⟨rfl, rfl⟩)
  · refine key false (by rw [hs]; exact decide_eq_false (by omega)) ?_
    clear hs key hx
    have a1 : (91:Int) ≤ (x : Int) := by omega
    have a2 : (x : Int) ≤ 94 := by omega
    go_enter Tryz.func91, Tryz.ntmps91
    go_wp2
    all_goals (go_ret; exact ⟨rfl, rfl⟩)
  · subst h
    refine key true (by decide) ?_
    clear hs key hx
    go_enter Tryz.func91, Tryz.ntmps91
    go_wp2
    all_goals (go_ret; exact ⟨rfl, rfl⟩)
  · subst h
    refine key false (by decide) ?_
    clear hs key hx
    go_enter Tryz.func91, Tryz.ntmps91
    go_wp2
    all_goals (go_ret; exact ⟨rfl, rfl⟩)
  · refine key true (by rw [hs]; exact decide_eq_true (by omega)) ?_
    clear hs key hx
    have a1 : (97:Int) ≤ (x : Int) := by omega
    have a2 : (x : Int) ≤ 122 := by omega
    go_enter Tryz.func91, Tryz.ntmps91
    go_wp2
    all_goals (go_ret; exact ⟨rfl, rfl⟩)
  · refine key false (by rw [hs]; exact decide_eq_false (by omega)) ?_
    clear hs key hx
    have a1 : (122:Int) < (x : Int) := by omega
    go_enter Tryz.func91, Tryz.ntmps91
    go_wp2
    all_goals (go_ret; exact ⟨rfl, rfl⟩)
theorem foreignAt (w : World) : PredAtRunes Tryz.prog 91 #[] (fun x => !sign x) w := fun W x hx _ =>
  (foreign_any x hx W).mono fun _ _ ⟨h1, h2⟩ => ⟨h1, 0, h2⟩
set_option maxRecDepth 100000 in
theorem hasForeign (s : ByteArray) (w : World) : Calls Tryz.prog 69 #[.string s, .func (.func 91) #[] #[]] w fun e w' => e = .returned (.bool (s.data.toList.any fun b => !sign b.toNat)) ∧ Below w.heap.size w w' := by
  refine (Tryz.strings_ContainsFunc_runes 91 #[] (fun args w => by rfl) (fun x => !sign x) s w (foreignAt w)).mono fun e w' ⟨h1, h2⟩ => ⟨?_, h2⟩
  rw [h1, idx_anyR (fun x => !sign x) (fun x hx => by simp [sign_high x hx])]
theorem noLabel_any (s : ByteArray) (w : World) : Calls Tryz.prog 68 #[.string s] w fun e w' => e = .returned (.bool (!labelB s.data.toList)) ∧ Below w.heap.size w w' := by
  have HF := Lib.hid (fun w => hasForeign s w)
  have HN := Lib.hid (noLabel s.data.toList)
  have hl : s.data.toList.length = s.size := rfl
  by_cases h0 : s = ⟨#[]⟩
  · subst h0
    go_enter Tryz.func68, Tryz.ntmps68
    go_wp2
    all_goals (go_ret; exact ⟨rfl, Below.refl _ _⟩)
  · have h0' : s.data.toList ≠ [] := fun h => h0 (by cases s; simp at h; simp [h])
    by_cases h1 : 63 < s.size
    · have h1' : (63 : Int) < (s.size : Int) := by omega
      have hb : labelB s.data.toList = false := by unfold labelB; simp [hl]; omega
      rw [hb]
      clear HN HF
      go_enter Tryz.func68, Tryz.ntmps68
      go_wp2
      all_goals (go_ret; exact ⟨rfl, Below.refl _ _⟩)
    · have h1' : (s.size : Int) ≤ 63 := by omega
      have hb : (!labelB s.data.toList) = s.data.toList.any fun b => !sign b.toNat := by
        rw [← HN.out]
        simp [h0', hl, h1]
      rw [hb]
      clear HN hb
      have e2 : s.toList.isEmpty = false := by
        rw [Go.Lib.toList_data]
        cases hh : s.data.toList with
        | nil => exact absurd hh h0'
        | cons x y => rfl
      have e3 : decide (63 < (s.size : Int)) = false := decide_eq_false (by omega)
      clear h0 h0' h1 hl
      have HF' : ∀ w, Calls Tryz.prog 69 #[.string s, .func (.func 91) #[] #[]] w fun e w' => e = .returned (.bool (s.data.toList.any fun b => !sign b.toNat)) ∧ Below w.heap.size w w' := HF.out
      clear HF
      generalize (s.data.toList.any fun b => !sign b.toNat) = X at HF' ⊢
      have HF := Lib.hid HF'
      clear HF'
      go_enter Tryz.func68, Tryz.ntmps68
      go_wp2_with (go_at_call 69; refine (HF.out _).mono ?_; rintro e w2 ⟨rfl, hb⟩)
      all_goals (go_ret; exact ⟨by simp only [e3, Bool.false_or]; rfl, hb⟩)
end Go.Proofs.YtabkdaaenikliaaGreatDoor

namespace Go.Proofs.YtabkdaaenikliaaGreatDoor
open Go.RowKit Go.Lib Go.Tx Go.Rb
theorem lowTake_at' (s : ByteArray) (k : Nat) (h : k < s.size) : (lowTake k s.data.toList)[k]? = some s[k] := lowTake_at k s.data.toList h
theorem ret_str {a b : List UInt8} (h : a = b) : Ending.returned (.string ⟨a.toArray⟩) = .returned (.string ⟨b.toArray⟩) := by rw [h]
theorem row_up (s : ByteArray) {wr : World} {b cap k : Nat} {x : Int} (h : k < s.size) (h1 : 65 ≤ (s[k].toNat : Int)) (h2 : (s[k].toNat : Int) ≤ 90) (hx : x = (s[k].toNat : Int) + 32) (hr : RowB 5 wr b cap (lowTake k s.data.toList)) :
    RowB 5 (wr.setCell ⟨b, k, none⟩ (.int .u8 x)) b cap (lowTake (k + 1) s.data.toList) := by
  have e1 : lowTake (k + 1) s.data.toList = (lowTake k s.data.toList).set k (low s[k]) := lowTake_step k s.data.toList h
  rw [e1, hx, ← low_up _ h1 h2]
  exact hr.set (by rw [lowTake_len]; exact h) _
theorem row_skip (s : ByteArray) {wr : World} {b cap k : Nat} (h : k < s.size) (h1 : low s[k] = s[k]) (hr : RowB 5 wr b cap (lowTake k s.data.toList)) : RowB 5 wr b cap (lowTake (k + 1) s.data.toList) := by
  have e1 : lowTake (k + 1) s.data.toList = lowTake k s.data.toList := lowTake_skip k s.data.toList h h1
  rw [e1]; exact hr
theorem row_str (s : ByteArray) {wr : World} {b cap k : Nat} (h : s.size ≤ k) (hr : RowB 5 wr b cap (lowTake k s.data.toList)) (c : Nat) :
    (convert 41 9 (.slice (some ⟨b, 0, none⟩) s.size c)).run Tryz.prog wr = .ok (.string ⟨(s.data.toList.map low).toArray⟩) wr := by
  have := hr.str (P := Tryz.prog) (src := 41) (dst := 9) c Tryz.underlying41 Tryz.underlying5 Tryz.underlying9
  rw [lowTake_all k _ h] at this
  have hl : (s.data.toList.map low).length = s.size := by simp
  rw [hl] at this
  exact this
set_option maxHeartbeats 1000000 in
set_option maxRecDepth 100000 in
theorem fold_any (s : ByteArray) (w : World) (hs : s.size ≤ maxLen) :
    Calls Tryz.prog 39 #[.string s] w fun e w' => e = .returned (.string ⟨(s.data.toList.map low).toArray⟩) ∧ Below w.heap.size w w' := by
  unfold maxLen at hs
  obtain ⟨cap, o, hconv, hcap, hrow⟩ := RowB.made (P := Tryz.prog) s w Tryz.underlying9 Tryz.underlying41 Tryz.underlying5
  have HR := Lib.hid hrow
  clear hrow
  go_enter Tryz.func39, Tryz.ntmps39
  go_wp2
  go_loopw [10] (fun i wr => ∃ k : Nat, k ≤ s.size ∧ i = .int .i64 k ∧ RowB 5 wr w.heap.size cap (lowTake k s.data.toList) ∧ Below w.heap.size w wr) (fun i _ => s.size - (intOf i).toNat)
  case atStart => exact ⟨0, Nat.zero_le _, rfl, by rw [lowTake_zero]; exact HR.out.drew, ((Below.refl _ _).alloc (Nat.le_refl _) _).drew⟩
  case round =>
    obtain ⟨k, hk, rfl, hrow, hbel⟩ := hrel
    by_cases hlt : k < s.size
    · have hcell := hrow.cell (lowTake_at' s k hlt)
      have hfz := hrow.frozen (j := k) (by omega)
      have HR1 := Lib.hid hrow
      clear hrow
      go_wp2
      all_goals
        go_roundw
        case rel => exact ⟨k + 1, by omega, by go_num, by first | exact row_up s hlt (by assumption) (by assumption) (by omega) HR1.out | exact row_skip s hlt (low_hi _ (by omega)) HR1.out | exact row_skip s hlt (low_lo _ (by omega)) HR1.out, by first | exact hbel | exact hbel.setCell (Nat.le_refl _) _⟩
        case measure => simp [intOf]; omega
    · have hback := row_str s (by omega) hrow cap
      clear hrow
      go_wp2
      go_ret
      exact ⟨rfl, hbel⟩
end Go.Proofs.YtabkdaaenikliaaGreatDoor

namespace Go.Proofs.YtabkdaaenikliaaGreatDoor
open Go.RowKit Go.Lib Go.Tx
/-- A row of texts, whose address and length are known. -/
structure TextsAt (w : World) (b cap : Nat) (ws : List (List UInt8)) : Prop where
  lt : b < w.heap.size
  fits : ws.length ≤ cap
  max : cap ≤ 9223372036854775807
  cell : ∀ (i : Nat) l, ws[i]? = some l → w.cell? ⟨b, i, none⟩ = some (.string ⟨l.toArray⟩)
theorem TextsAt.below {w w' : World} {b cap : Nat} {ws : List (List UInt8)} (h : TextsAt w b cap ws) (hb : Below w.heap.size w w') : TextsAt w' b cap ws :=
  ⟨Nat.lt_of_lt_of_le h.lt hb.size, h.fits, h.max, fun i l hi => by
    have := h.cell i l hi
    unfold World.cell? at this ⊢
    rw [hb.block b h.lt]
    exact this⟩
def IdxT (p : List UInt8 → Bool) (ws : List (List UInt8)) (w : World) (e : Ending) (w' : World) : Prop := ∃ i : Int, e = .returned (.int .i64 i) ∧ decide (0 ≤ i) = ws.any p ∧ Below w.heap.size w w'
theorem anyT_no {p : List UInt8 → Bool} (l : List (List UInt8)) (k : Nat) (hk : l.length ≤ k) (h : ∀ j b, j < k → l[j]? = some b → p b = false) : l.any p = false := by
  rw [List.any_eq_false]
  intro b hb
  obtain ⟨j, hj, rfl⟩ := List.getElem_of_mem hb
  rw [h j _ (by omega) (List.getElem?_eq_getElem hj)]
  simp
theorem anyT_yes {p : List UInt8 → Bool} (l : List (List UInt8)) (k : Nat) (b : List UInt8) (hk : l[k]? = some b) (h : p b = true) : l.any p = true := by
  rw [List.any_eq_true]
  exact ⟨b, List.mem_of_getElem? hk, h⟩
set_option maxHeartbeats 1000000 in
set_option maxRecDepth 100000 in
theorem idxT_any (b n cap : Nat) (ws : List (List UInt8)) (w : World) (hn : ws.length = n) (h : TextsAt w b cap ws) :
    Calls Tryz.prog 90 #[.slice (some ⟨b, 0, none⟩) n cap, .func (.func 68) #[] #[]] w (IdxT (fun l => !labelB l) ws w) := by
  have hcap := h.fits
  have hmax := h.max
  rw [hn] at hcap
  have HT := Lib.hid h
  clear h
  go_enter Tryz.func90, Tryz.ntmps90
  go_wp2
  go_loopw [8] (fun i wr => ∃ k : Nat, k ≤ n ∧ i = .int .i64 k ∧ Below w.heap.size w wr ∧ Hid (∀ j b, j < k → ws[j]? = some b → (!labelB b) = false)) (fun i _ => n - (intOf i).toNat)
  case atStart => exact ⟨0, Nat.zero_le _, rfl, Below.refl _ _, Lib.hid (by omega)⟩
  case round =>
    obtain ⟨k, hk, rfl, hbel, hall⟩ := hrel
    by_cases hlt : k < n
    · have hkl : k < ws.length := by omega
      have hcell := (HT.out.below hbel).cell k ws[k] (List.getElem?_eq_getElem hkl)
      have HK := Lib.hid (List.getElem?_eq_getElem hkl)
      clear hn
      generalize ws[k] = t at hcell HK
      have HN := Lib.hid (fun w => noLabel_any ⟨t.toArray⟩ w)
      cases hb : labelB t with
      | false =>
        have HB := Lib.hid hb
        clear hb
        go_wp2_with (go_at_call 68; refine (HN.out _).mono ?_; rw [show labelB (ByteArray.data ⟨t.toArray⟩).toList = false from HB.out]; rintro e w' ⟨rfl, hb2⟩)
        go_ret
        exact ⟨k, rfl, by rw [anyT_yes ws k t HK.out (by rw [HB.out]; rfl)]; simp, hbel.trans (hb2.mono hbel.size)⟩
      | true =>
        have HB := Lib.hid hb
        clear hb
        go_wp2_with (go_at_call 68; refine (HN.out _).mono ?_; rw [show labelB (ByteArray.data ⟨t.toArray⟩).toList = true from HB.out]; rintro e w' ⟨rfl, hb2⟩)
        go_roundw
        case rel => exact ⟨k + 1, hlt, by go_num, hbel.trans (hb2.mono hbel.size), Lib.hid (by
          intro j d hj hd
          by_cases e : j = k
          · subst e
            have := HK.out
            rw [this] at hd
            cases hd
            rw [HB.out]; rfl
          · exact hall.out j d (by omega) hd)⟩
        case measure => simp [intOf]; omega
    · go_wp2
      go_ret
      exact ⟨-1, rfl, by rw [anyT_no ws k (by omega) hall.out]; rfl, hbel⟩
theorem containsT_any (b n cap : Nat) (ws : List (List UInt8)) (w : World) (hn : ws.length = n) (h : TextsAt w b cap ws) :
    Calls Tryz.prog 66 #[.slice (some ⟨b, 0, none⟩) n cap, .func (.func 68) #[] #[]] w fun e w' => e = .returned (.bool (ws.any fun l => !labelB l)) ∧ Below w.heap.size w w' := by
  have HI := Lib.hid (idxT_any b n cap ws w hn h)
  clear h hn
  go_enter Tryz.func66, Tryz.ntmps66
  go_wp2_with (go_at_call 90; refine HI.out.mono ?_; rintro e w' ⟨i, rfl, hi, hb⟩; have HD := Lib.hid hi; clear hi)
  go_ret
  exact ⟨by rw [← HD.out]; rfl, hb⟩
/-- The library's variable holds a number. -/
def MaxAt (w : World) : Prop := ∃ m : Int, w.cell? ⟨0, 0, none⟩ = some (.int .i64 m)
theorem MaxAt.lt {w : World} (h : MaxAt w) : 0 < w.heap.size := by
  obtain ⟨m, h⟩ := h
  unfold World.cell? at h
  split at h
  · rename_i hh
    exact (Array.getElem?_eq_some_iff.1 hh).1
  · cases h
theorem MaxAt.below {w w' : World} (h : MaxAt w) (hb : Below w.heap.size w w') : MaxAt w' := by
  have := h.lt
  obtain ⟨m, h⟩ := h
  exact ⟨m, by rw [hb.cell (p := ⟨0, 0, none⟩) this]; exact h⟩
theorem split_textsAt (s : ByteArray) (w : World) (hs : s.size < 9223372036854775807) :
    TextsAt (w.alloc (.cells ((Lib.splitB ⟨#[46]⟩ 0 (Lib.countB s ⟨#[46]⟩) s).map Value.string).toArray 9)) w.heap.size (Lib.countB s ⟨#[46]⟩ + 1) (splitL 46 s.data.toList) := by
  rw [split_pieces, split_count]
  have hl := splitG_len 46 s.data.toList []
  refine ⟨by show w.heap.size < (w.heap.push _).size; simp, Nat.le_refl _, ?_, fun i l hi => ?_⟩
  · have : s.data.toList.length = s.size := rfl
    unfold splitL; omega
  · rw [World.cell?_alloc_new]
    simp only [List.getElem?_toArray, List.getElem?_map, hi]
    rfl
set_option maxHeartbeats 1000000 in
theorem isName_any (s : ByteArray) (w : World) (hm : MaxAt w) : Calls Tryz.prog 47 #[.string s] w fun e w' => e = .returned (.bool (nameB s.data.toList)) ∧ Below w.heap.size w w' := by
  have hl : s.data.toList.length = s.size := rfl
  by_cases h1 : s.size ≤ 253
  · have h1' : (s.size : Int) ≤ 253 := by omega
    obtain ⟨m, hm⟩ := hm
    have HS := Lib.hid (Tryz.strings_Split s ⟨#[46]⟩ m w (by omega) hm (Nat.le_refl 1))
    have HT := Lib.hid (split_textsAt s w (by omega))
    have HC := Lib.hid (split_count s 46).symm
    have hb : nameB s.data.toList = !((splitL 46 s.data.toList).any fun l => !labelB l) := by
      unfold nameB
      rw [decide_eq_true (by omega), Bool.true_and]
      simp [List.all_eq_not_any_not]
    rw [hb]
    clear hb hm hl
    go_enter Tryz.func47, Tryz.ntmps47
    go_wp2_with (first | (go_at_call 67; refine HS.out.mono ?_; rintro e w2 ⟨rfl, rfl⟩) | (go_at_call 66; refine (containsT_any _ _ _ _ _ HC.out HT.out).mono ?_; rintro e w2 ⟨rfl, hb⟩))
    go_ret
    exact ⟨rfl, ((Below.refl _ _).alloc (Nat.le_refl _) _).trans (hb.mono (by show w.heap.size ≤ (w.heap.push _).size; simp))⟩
  · have h1' : (253 : Int) < (s.size : Int) := by omega
    have hb : nameB s.data.toList = false := by unfold nameB; rw [decide_eq_false (by omega), Bool.false_and]
    rw [hb]
    clear hb
    go_enter Tryz.func47, Tryz.ntmps47
    go_wp2
    all_goals (go_ret; exact ⟨rfl, Below.refl _ _⟩)
set_option maxHeartbeats 1000000 in
theorem clean_any (s : ByteArray) (w : World) (hs : s.size ≤ maxLen) (hm : MaxAt w) : Calls Tryz.prog 34 #[.string s] w fun e w' => e = .returned (cleanV s.data.toList) ∧ Below w.heap.size w w' := by
  have HC := Lib.hid (Tryz.strings_CutSuffix s ⟨#[46]⟩ w (by unfold maxLen at hs; omega))
  have hbl : (bare s.data.toList).length ≤ maxLen := Nat.le_trans (bare_len _) hs
  have HF := Lib.hid (fun w => fold_any ⟨(bare s.data.toList).toArray⟩ w hbl)
  have HN := Lib.hid (fun w hm => isName_any ⟨(bare s.data.toList).toArray⟩ w hm)
  clear hbl hs
  cases hn : nameB (bare s.data.toList) with
  | true =>
    have hv : cleanV s.data.toList = .tuple #[.string ⟨((bare s.data.toList).map low).toArray⟩, .bool (isRoot s.data.toList), .bool true] := by unfold cleanV; rw [if_pos hn]
    rw [hv]
    have HB := Lib.hid hn
    clear hn hv
    go_enter Tryz.func34, Tryz.ntmps34
    go_wp2_with (first | (go_at_call 46; refine HC.out.mono ?_; rintro e w2 ⟨rfl, rfl⟩) | (go_at_call 47; refine (HN.out _ hm).mono ?_; rw [show nameB (ByteArray.data ⟨(bare s.data.toList).toArray⟩).toList = true from HB.out]; rintro e w2 ⟨rfl, hb⟩) | (go_at_call 39; refine (HF.out _).mono ?_; rintro e w3 ⟨rfl, hb3⟩))
    go_ret3
    exact ⟨rfl, hb.trans (hb3.mono hb.size)⟩
  | false =>
    have hv : cleanV s.data.toList = .tuple #[.string ⟨#[]⟩, .bool false, .bool false] := by unfold cleanV; rw [if_neg (by rw [hn]; decide)]
    rw [hv]
    have HB := Lib.hid hn
    clear hn hv
    go_enter Tryz.func34, Tryz.ntmps34
    go_wp2_with (first | (go_at_call 46; refine HC.out.mono ?_; rintro e w2 ⟨rfl, rfl⟩) | (go_at_call 47; refine (HN.out _ hm).mono ?_; rw [show nameB (ByteArray.data ⟨(bare s.data.toList).toArray⟩).toList = false from HB.out]; rintro e w2 ⟨rfl, hb⟩))
    go_ret3
    exact ⟨rfl, hb⟩
end Go.Proofs.YtabkdaaenikliaaGreatDoor

namespace Go.Tx
open Go.Lib
theorem low_all : ∀ i : Fin 256, low (low (UInt8.ofNat i.1)) = low (UInt8.ofNat i.1) ∧ (low (UInt8.ofNat i.1) = 46 ↔ UInt8.ofNat i.1 = 46) ∧ sign (low (UInt8.ofNat i.1)).toNat = sign (UInt8.ofNat i.1).toNat := by decide +kernel
theorem low_facts (c : UInt8) : low (low c) = low c ∧ (low c = 46 ↔ c = 46) ∧ sign (low c).toNat = sign c.toNat := by
  have := low_all ⟨c.toNat, c.toNat_lt⟩
  simpa using this
theorem split_low : ∀ (l cur : List UInt8), splitG 46 (cur.map low) (l.map low) = (splitG 46 cur l).map (List.map low)
  | [], cur => by simp [splitG]
  | c :: l, cur => by
    simp only [List.map_cons, splitG]
    by_cases h : c = 46
    · rw [if_pos ((low_facts c).2.1.2 h), if_pos h]
      simp only [List.map_cons]
      congr 1
      exact split_low l []
    · rw [if_neg (fun e => h ((low_facts c).2.1.1 e)), if_neg h]
      have := split_low l (cur ++ [c])
      simpa using this
theorem label_low (l : List UInt8) : labelB (l.map low) = labelB l := by
  unfold labelB
  have e : ((l.map low).all fun b => sign b.toNat) = l.all fun b => sign b.toNat := by
    rw [List.all_map]
    congr 1
    funext c
    exact (low_facts c).2.2
  rw [e]
  simp
theorem name_low (l : List UInt8) : nameB (l.map low) = nameB l := by
  unfold nameB splitL
  have := split_low l []
  simp only [List.map_nil] at this
  rw [this, List.all_map, List.length_map]
  congr 2
  funext x
  exact label_low x
theorem low_low (l : List UInt8) : (l.map low).map low = l.map low := by
  rw [List.map_map]
  exact List.map_congr_left fun c _ => (low_facts c).1
theorem suf_snoc (l : List UInt8) : hasSuffix (l ++ [46]) [46] = true := by
  unfold hasSuffix
  exact List.isSuffixOf_iff_suffix.2 ⟨l, rfl⟩
theorem bare_snoc (l : List UInt8) : bare (l ++ [46]) = l := by
  unfold bare trimSuffix
  rw [suf_snoc, if_pos rfl]
  simp
/-- A name that is cleaned, rooted anew. -/
theorem clean_rooted (l : List UInt8) (h : nameB l = true) : cleanV (l.map low ++ [46]) = .tuple #[.string ⟨(l.map low).toArray⟩, .bool true, .bool true] := by
  unfold cleanV isRoot
  rw [bare_snoc, suf_snoc, name_low, if_pos h, low_low]
theorem cleanV_cases (l : List UInt8) : (nameB (bare l) = true ∧ cleanV l = .tuple #[.string ⟨((bare l).map low).toArray⟩, .bool (isRoot l), .bool true]) ∨ (nameB (bare l) = false ∧ cleanV l = .tuple #[.string ⟨#[]⟩, .bool false, .bool false]) := by
  unfold cleanV
  cases h : nameB (bare l) with
  | true => exact .inl ⟨rfl, if_pos rfl⟩
  | false => exact .inr ⟨rfl, if_neg (by decide)⟩
end Go.Tx

namespace Go.Tx
open Go.RowKit
/-- Where texts are read, from whatever address on. -/
def TxAt (w : World) (a : Option Addr) (ws : List (List UInt8)) : Prop := ∀ (j : Nat) l, ws[j]? = some l → ∃ x, a = some x ∧ x.block < w.heap.size ∧ w.cell? (x.add j) = some (.string ⟨l.toArray⟩)
theorem add_block (x : Addr) (j : Nat) : (x.add j).block = x.block := by unfold Addr.add; split <;> simp_all
theorem TxAt.below {w w' : World} {a : Option Addr} {ws : List (List UInt8)} (h : TxAt w a ws) (hb : Below w.heap.size w w') : TxAt w' a ws := fun j l hj => by
  obtain ⟨x, h1, h2, h3⟩ := h j l hj
  exact ⟨x, h1, Nat.lt_of_lt_of_le h2 hb.size, by rw [hb.cell (p := x.add j) (by rw [add_block]; exact h2)]; exact h3⟩
theorem nm_none {l : List UInt8} (h : nameB (bare l) = false) : nm l = none := by unfold nm; rw [if_neg (by rw [h]; decide)]
theorem nm_some {l : List UInt8} (h : nameB (bare l) = true) : nm l = some ((bare l).map low) := by unfold nm; rw [if_pos h]
theorem nm_snoc (T : List (List UInt8)) (l : List UInt8) : (T ++ [l]).filterMap nm = T.filterMap nm ++ (nm l).toList := by
  rw [List.filterMap_append]
  cases h : nm l <;> simp [h]
end Go.Tx
namespace Go.Proofs.YtabkdaaenikliaaGreatDoor
open Go.RowKit Go.Lib Go.Tx
theorem one_textsH (w : World) (x : ByteArray) : TextsIn (w.alloc (.cells #[.string x] 9)) (.slice (some ⟨w.heap.size, 0, none⟩) 1 1) [x.data.toList] := by
  refine .inr ⟨_, 1, rfl, fun i l hi => ?_⟩
  have ha : (⟨w.heap.size, 0, none⟩ : Addr).add i = ⟨w.heap.size, i, none⟩ := by unfold Addr.add; split <;> simp_all
  rw [ha, World.cell?_alloc_new]
  match i, hi with
  | 0, hi => cases hi; rfl
set_option maxHeartbeats 2000000 in
set_option maxRecDepth 100000 in
theorem cleaned_any (a : Option Addr) (n c : Nat) (ws : List (List UInt8)) (w : World) (h : TxAt w a ws) (hn : ws.length = n) (hc : n ≤ c) (hm : c ≤ 9223372036854775807) (hf : n ≤ 1000) (hs : ∀ x ∈ ws, x.length ≤ 1000000) (hg : MaxAt w) :
    Calls Tryz.prog 32 #[.slice a n c] w fun e w' => ∃ v, e = .returned v ∧ StrC w.heap.size w' v (ws.filterMap nm) ∧ Below w.heap.size w w' := by
  have HS := Lib.hid hs
  have HT := Lib.hid h
  have HG := Lib.hid hg
  have HN := Lib.hid hn
  clear hs h hg hn
  go_enter Tryz.func32, Tryz.ntmps32
  go_wp2
  go_loopw [3, 11] (fun v i wr => ∃ k : Nat, k ≤ n ∧ i = .int .i64 k ∧ StrC w.heap.size wr v ((ws.take k).filterMap nm) ∧ ((ws.take k).filterMap nm).length ≤ k ∧ Below w.heap.size w wr) (fun _ i _ => n - (intOf i).toNat)
  case atStart => exact ⟨0, Nat.zero_le _, rfl, World.ownsRow_nil _ _ _ _, Nat.le_refl _, Below.refl _ _⟩
  case round =>
    obtain ⟨k, hk, rfl, hstr, hfew, hbel⟩ := hrel
    by_cases hlt : k < n
    · have hkl : k < ws.length := by rw [HN.out]; exact hlt
      have HK := Lib.hid (List.getElem?_eq_getElem hkl)
      have hdl := HS.out ws[k] (List.getElem_mem hkl)
      obtain ⟨x, rfl, hg, hcell⟩ := (HT.out.below hbel) k ws[k] HK.out
      have HTk := Lib.hid (takeH HK.out)
      generalize ws[k] = d at HK hdl hcell HTk
      have HC := Lib.hid (clean_any ⟨d.toArray⟩ wr (by show d.toArray.size ≤ maxLen; simp; unfold maxLen; omega) (HG.out.below hbel))
      have hstrH := Lib.hid hstr
      clear hstr
      rcases cleanV_cases d with ⟨hnb, hcv⟩ | ⟨hnb, hcv⟩
      · have HNm : Hid ((ws.take (k + 1)).filterMap nm = (ws.take k).filterMap nm ++ [(bare d).map low]) := Lib.hid (by rw [HTk.out, nm_snoc, nm_some hnb]; rfl)
        have HCV : Hid (cleanV (ByteArray.data ⟨d.toArray⟩).toList = .tuple #[.string ⟨((bare d).map low).toArray⟩, .bool (isRoot d), .bool true]) := Lib.hid hcv
        clear hcv hnb
        go_wp2_with (first | (go_at_call 34; refine HC.out.mono ?_; rw [HCV.out]; rintro e w2 ⟨rfl, hb2⟩) | (refine wpList_append_texts rfl _ _ rfl (B := w.heap.size) rfl rfl (World.ownsRow.alloc (own_below hstrH.out hb2) _) (one_textsH _ _) (by simp; omega) (by have := hbel.size; have := hb2.size; show w.heap.size ≤ (Array.push _ _).size; simp; omega) ?_; intro v' w5 hown5 hb5))
        go_roundw
        case rel =>
          have hb23 := hbel.trans (hb2.mono hbel.size)
          exact ⟨k + 1, hlt, by go_num, by rw [HNm.out]; exact hown5, by rw [HNm.out]; simp; omega, (hb23.alloc hb23.size _).trans hb5⟩
        case measure => simp [intOf]; omega
      · have HNm : Hid ((ws.take (k + 1)).filterMap nm = (ws.take k).filterMap nm) := Lib.hid (by rw [HTk.out, nm_snoc, nm_none hnb]; simp)
        have HCV : Hid (cleanV (ByteArray.data ⟨d.toArray⟩).toList = .tuple #[.string ⟨#[]⟩, .bool false, .bool false]) := Lib.hid hcv
        clear hcv hnb
        go_wp2_with (go_at_call 34; refine HC.out.mono ?_; rw [HCV.out]; rintro e w2 ⟨rfl, hb2⟩)
        go_roundw
        case rel => exact ⟨k + 1, hlt, by go_num, by rw [HNm.out]; exact own_below hstrH.out hb2, by rw [HNm.out]; omega, hbel.trans (hb2.mono hbel.size)⟩
        case measure => simp [intOf]; omega
    · obtain rfl : k = n := by omega
      have HE : Hid ((ws.take k).filterMap nm = ws.filterMap nm) := Lib.hid (by rw [List.take_of_length_le (by rw [HN.out]; exact Nat.le_refl _)])
      have hstrH := Lib.hid hstr
      clear hstr
      go_wp2
      go_ret
      exact ⟨_, rfl, by rw [← HE.out]; exact hstrH.out, hbel⟩
end Go.Proofs.YtabkdaaenikliaaGreatDoor

namespace Go.Tx
open Go.RowKit Go.Mp
theorem own_same {B : Nat} {e : TypeId} {size n : Nat} {v : Value} {xs : List Value} {w w' : World} (h : w.ownsRow B e size v n xs) (hb : ∀ j, B ≤ j → w'.heap[j]? = w.heap[j]?) : w'.ownsRow B e size v n xs := by
  refine ⟨h.1, ?_⟩
  rcases h.2 with h | ⟨g, cap, cur, h1, h2, h3, h4⟩
  · exact .inl h
  · exact .inr ⟨g, cap, cur, h1, h2, by rw [hb g h2]; exact h3, h4⟩
theorem heap_setCell_ne (w : World) (b j off : Nat) (v : Value) (h : j ≠ b) : (w.setCell ⟨b, off, none⟩ v).heap[j]? = w.heap[j]? := by
  show (w.heap.modify b _)[j]? = _
  rw [Array.getElem?_modify, if_neg (fun e => h e.symm)]
theorem heap_setCell_eq (w : World) (b off : Nat) (v : Value) (c : Array Value) (e : TypeId) (fr : Nat × Nat) (h : w.heap[b]? = some (.cells c e fr)) : (w.setCell ⟨b, off, none⟩ v).heap[b]? = some (.cells (c.setIfInBounds off v) e fr) := by
  show (w.heap.modify b _)[b]? = _
  rw [Array.getElem?_modify, if_pos rfl, h]
  rfl
theorem size_setCell' (w : World) (a : Addr) (v : Value) : (w.setCell a v).heap.size = w.heap.size := by
  show (w.heap.modify _ _).size = _
  simp
section
variable {L : Nat} {w w' : World} {p m1 m2 n : Nat} {A : List UInt8 → List (List UInt8)} {C : List UInt8 → Option (List (List UInt8))} {F G : ByteArray → Option Value}
theorem TB.cells (h : TB L w p m1 m2 n A C F G) : w.cell? ⟨p, 0, none⟩ = some (.int .i64 (n : Int)) ∧ w.cell? ⟨p, 1, none⟩ = some (.map (some m1)) ∧ w.cell? ⟨p, 2, none⟩ = some (.map (some m2)) ∧ w.frozen? ⟨p, 0, none⟩ = false := by
  have hb := h.blk
  exact ⟨by simp [World.cell?, hb], by simp [World.cell?, hb], by simp [World.cell?, hb], by simp [World.frozen?, hb]⟩
theorem TB.bump (h : TB L w p m1 m2 n A C F G) : TB L (w.setCell ⟨p, 0, none⟩ (.int .i64 ((n + 1 : Nat) : Int))) p m1 m2 (n + 1) A C F G :=
  have hp := h.pl
  have hs : ∀ j, L ≤ j → (w.setCell ⟨p, 0, none⟩ (.int .i64 ((n + 1 : Nat) : Int))).heap[j]? = w.heap[j]? := fun j hj => heap_setCell_ne _ _ _ _ _ (by omega)
  { h with
    size := by rw [size_setCell']; exact h.size
    blk := by rw [heap_setCell_eq _ _ _ _ _ _ _ h.blk]; rfl
    f := h.f.same (heap_setCell_ne _ _ _ _ _ (fun e => h.n1 e.symm))
    g := h.g.same (heap_setCell_ne _ _ _ _ _ (fun e => h.n2 e.symm))
    hF := fun k => own_same (h.hF k) hs
    hG := fun k => by
      have := h.hG k
      split
      · rename_i e; rw [e] at this; exact this
      · rename_i ws e
        rw [e] at this
        obtain ⟨v, h1, h2⟩ := this
        exact ⟨v, h1, own_same h2 hs⟩ }
theorem Out.bump (hp : p < L) (h : Out L w w' p m1 m2) (v : Value) (off : Nat) : Out L w (w'.setCell ⟨p, off, none⟩ v) p m1 m2 :=
  h.trans ⟨rfl, rfl, rfl, by rw [size_setCell']; exact Nat.le_refl _, fun j _ hj _ _ => heap_setCell_ne _ _ _ _ _ hj⟩
/-- The names of an address, once it is there: those of the first row. -/
def setC (C : List UInt8 → Option (List (List UInt8))) (a : List UInt8) (f : List (List UInt8)) : List UInt8 → Option (List (List UInt8)) :=
  fun k => match C k with | some x => some x | none => if k = a then some f else none
def Apart (F : ByteArray → Option Value) (v : Value) : Prop := ∀ b, v.ownBlock = some b → ∀ k, Go.Tx.blk F k ≠ some b
theorem upd_eq {F : ByteArray → Option Value} (a : ByteArray) (v : Value) (k : List UInt8) : upd F a v ⟨k.toArray⟩ = if k = a.data.toList then some v else F ⟨k.toArray⟩ := by
  unfold upd
  by_cases h : k = a.data.toList
  · rw [if_pos h, if_pos (by subst h; exact bk a)]
  · rw [if_neg h, if_neg (fun e => h (by rw [← e]))]
/-- Behind a store of names. -/
theorem TB.putG (h : TB L w p m1 m2 n A C F G) {a : ByteArray} {v : Value} {f : List (List UInt8)} (hC : C a.data.toList = none) (hv : StrC L w v f) (hap : Apart F v)
    (hg : MapAt w' m2 (upd G a v)) (hs : w'.heap.size = w.heap.size) (hh : ∀ j, j ≠ m2 → w'.heap[j]? = w.heap[j]?) : TB L w' p m1 m2 n A (setC C a.data.toList f) F (upd G a v) :=
  have hl := h.l2
  have hsame : ∀ j, L ≤ j → w'.heap[j]? = w.heap[j]? := fun j hj => hh j (by omega)
  { h with
    size := by rw [hs]; exact h.size
    blk := by rw [hh p h.n2]; exact h.blk
    f := h.f.same (hh m1 h.n12)
    g := hg
    hF := fun k => own_same (h.hF k) hsame
    hG := fun k => by
      have hk := h.hG k
      unfold setC
      rw [upd_eq]
      by_cases e : k = a.data.toList
      · subst e
        rw [hC]
        simp only [if_true]
        exact ⟨v, rfl, own_same hv hsame⟩
      · simp only [if_neg e]
        cases hc : C k with
        | none => rw [hc] at hk; exact hk
        | some ws =>
          rw [hc] at hk
          simp only
          obtain ⟨v2, h1, h2⟩ := hk
          exact ⟨v2, h1, own_same h2 hsame⟩
    dG := fun k k' b h1 h2 => by
      unfold Go.Tx.blk at h2
      rw [upd_eq] at h2
      by_cases e : k' = a.data.toList
      · rw [if_pos e] at h2
        exact hap b h2 k h1
      · rw [if_neg e] at h2
        exact h.dG k k' b h1 h2 }
/-- Behind an append to the addresses of x, and the store of what it gave. -/
theorem TB.putF (h : TB L w p m1 m2 n A C F G) {x a : List UInt8} {v' : Value} {w2 : World} (hv : StrC L w2 v' (A x ++ [a])) (hgr : w.grownBy w2 (Go.Tx.blk F x)) (hb : ∀ b, v'.ownBlock = some b → Go.Tx.blk F x = some b ∨ w.heap.size ≤ b)
    (hf : MapAt w' m1 (upd F ⟨x.toArray⟩ v')) (hs : w'.heap.size = w2.heap.size) (hh : ∀ j, j ≠ m1 → w'.heap[j]? = w2.heap[j]?) :
    TB L w' p m1 m2 n (fun k => if k = x then A k ++ [a] else A k) C (upd F ⟨x.toArray⟩ v') G ∧ ∀ {y : Value} {f : List (List UInt8)}, StrC L w y f → Apart F y → StrC L w' y f ∧ Apart (upd F ⟨x.toArray⟩ v') y := by
  have hl := h.l1
  have hsame : ∀ j, L ≤ j → w'.heap[j]? = w2.heap[j]? := fun j hj => hh j (by omega)
  obtain ⟨g1, g2, g3, g4, g5, g6⟩ := h.grown (k := x) (.inr rfl) hgr
  have hdata : (⟨x.toArray⟩ : ByteArray).data.toList = x := rfl
  refine ⟨{ h with size := ?_, blk := ?_, f := hf, g := ?_, hF := ?_, hG := ?_, dF := ?_, dG := ?_ }, ?_⟩
  · rw [hs]; exact g1
  · rw [hh p h.n1, g2]; exact h.blk
  · exact h.g.same (by rw [hh m2 (fun e => h.n12 e.symm), g4])
  · intro k
    rw [upd_eq, hdata]
    by_cases e : k = x
    · subst e; simp only [if_true]; exact own_same hv hsame
    · simp only [if_neg e]; exact own_same (g5 k e) hsame
  · intro k
    have := g6 k
    split
    · rename_i e; rw [e] at this; exact this
    · rename_i ws e
      rw [e] at this
      obtain ⟨v, h1, h2⟩ := this
      exact ⟨v, h1, own_same h2 hsame⟩
  · intro k k' b h1 h2
    unfold Go.Tx.blk at h1 h2
    rw [upd_eq, hdata] at h1 h2
    by_cases e : k = x
    · by_cases e' : k' = x
      · rw [e, e']
      · rw [if_pos e] at h1
        rw [if_neg e'] at h2
        rcases hb b h1 with q | q
        · exact absurd (h.dF x k' b q h2).symm e'
        · exact absurd (h.lt h2).2 (by omega)
    · by_cases e' : k' = x
      · rw [if_neg e] at h1
        rw [if_pos e'] at h2
        rcases hb b h2 with q | q
        · exact absurd (h.dF k x b h1 q) e
        · exact absurd (h.lt h1).2 (by omega)
      · rw [if_neg e] at h1
        rw [if_neg e'] at h2
        exact h.dF k k' b h1 h2
  · intro k k' b h1 h2
    unfold Go.Tx.blk at h1
    rw [upd_eq, hdata] at h1
    by_cases e : k = x
    · rw [if_pos e] at h1
      rcases hb b h1 with q | q
      · exact h.dG x k' b q h2
      · have hk := h.hG k'
        cases hc : C k' with
        | none =>
          rw [hc] at hk
          simp only at hk
          unfold Go.Tx.blk at h2
          rw [hk] at h2
          cases h2
        | some ws =>
          rw [hc] at hk
          obtain ⟨v, q1, q2⟩ := hk
          unfold Go.Tx.blk at h2
          rw [q1] at h2
          exact absurd (World.ownsRow.lt q2 b h2).2 (by omega)
    · rw [if_neg e] at h1
      exact h.dG k k' b h1 h2
  · intro y f hy hap
    refine ⟨own_same (World.ownsRow.kept hy hgr ?_) hsame, ?_⟩
    · cases hyb : y.ownBlock with
      | none => exact .inl rfl
      | some b => exact .inr fun e => hap b hyb x e.symm
    · intro b hyb k
      unfold Go.Tx.blk
      rw [upd_eq, hdata]
      by_cases e : k = x
      · rw [if_pos e]
        intro h1
        rcases hb b h1 with q | q
        · exact hap b hyb x q
        · exact absurd (World.ownsRow.lt hy b hyb).2 (by omega)
      · rw [if_neg e]
        exact hap b hyb k
end
end Go.Tx
namespace Go.Proofs.YtabkdaaenikliaaGreatDoor
open Go.RowKit Go.Lib Go.Tx Go.Mp
theorem contains_any {B : Nat} {v : Value} {T : List (List UInt8)} (x : ByteArray) (w : World) (h : StrC B w v T) (hl : T.length ≤ 1000000) :
    Calls Tryz.prog 45 #[v, .string x] w fun e w' => e = .returned (.bool (decide (x.data.toList ∈ T))) ∧ w' = w := by
  obtain ⟨p, c, rfl, hc, hm, hr⟩ := h.read
  by_cases h0 : T = []
  · subst h0
    refine (Tryz.slices_Contains_string_empty p c x w).mono fun e w' ⟨h1, h2⟩ => ⟨?_, h2⟩
    rw [h1]; simp
  · have hpos : 0 < T.length := by cases T; exact absurd rfl h0; simp
    obtain ⟨g, rfl, hg, _⟩ := hr 0 T[0] (List.getElem?_eq_getElem hpos)
    have hz : ((T.map fun l => (⟨l.toArray⟩ : ByteArray)).take T.length) = T.map fun l => (⟨l.toArray⟩ : ByteArray) := List.take_of_length_le (by simp)
    refine (Tryz.slices_Contains_string g 0 T.length c (T.map fun l => ⟨l.toArray⟩) x w (by simp) (by omega) fun j hj => ?_).mono fun e w' ⟨h1, h2⟩ => ⟨?_, h2⟩
    · rw [List.length_map] at hj
      obtain ⟨g', e, _, h3⟩ := hr j T[j] (List.getElem?_eq_getElem hj)
      cases e
      rw [Nat.zero_add, h3, List.getD_eq_getElem?_getD, List.getElem?_map, List.getElem?_eq_getElem hj]
      rfl
    · rw [h1, hz]
      have : containsS (T.map fun l => (⟨l.toArray⟩ : ByteArray)) x = decide (x.data.toList ∈ T) := by
        rw [Bool.eq_iff_iff, containsS_iff, decide_eq_true_iff, List.mem_map]
        constructor
        · rintro ⟨l, hl, rfl⟩; exact hl
        · intro hx; exact ⟨_, hx, rfl⟩
      rw [this]
theorem wpList_append_run {w : World} {ops : Array Oper} {rest : List Oper} {o : Oper} {a : Act} {Q : Exit → Act → World → Prop} (hgd : o.guard = none) (s x : Operand)
    (ho : o.op = .call { callee := .builtin .append, args := #[s, x], argTypes := #[23, 23] }) {v y v' : Value} {w' : World} (hs : a.eval s = v) (hx : a.eval x = y)
    (hr : (Builtin.append_ #[23, 23] o.type #[v, y]).run Tryz.prog w = .ok v' w') (h : wpList Tryz.prog ops Q rest (a.put o.dst v') w') : wpList Tryz.prog ops Q (o :: rest) a w :=
  wpList_plain hgd fun K hK => by
    unfold Oper.wp execOp
    simp only [ho, resolve, invoke, builtin, Sem.run_bind, Sem.run_pure, Result.andThen_ok, List.map_toArray, List.map_cons, List.map_nil, hs, hx, hr]
    exact hK _ _ h
end Go.Proofs.YtabkdaaenikliaaGreatDoor

namespace Go.Tx
open Go.RowKit Go.Mp
theorem TB.cast {L : Nat} {w : World} {p m1 m2 n : Nat} {A A' : List UInt8 → List (List UInt8)} {C : List UInt8 → Option (List (List UInt8))} {F G : ByteArray → Option Value} (h : TB L w p m1 m2 n A C F G) (e : ∀ j, A' j = A j) : TB L w p m1 m2 n A' C F G := by
  obtain rfl : A' = A := funext e
  exact h
/-- A region that draws its order, of which the first n operations read alone: they are walked in the text's order. -/
theorem region_tail' {P : Program} {id : Nat} {Q : Exit → Act → World → Prop} {a : Act} {w : World} {l : List Oper} (n : Nat) (hm : P.follows .mixedOrders = true) (hB : Region.lexTailB .any l.toArray n = true)
    (h : wpStill P l.toArray w.drew (fun a' => wpList P l.toArray Q (l.drop n) a' w.drew) (l.take n) a) : (Code.region id l.toArray true).wp P Q a w :=
  wp_region_still_tail n hm hB h
theorem cell_new (w : World) (o : Array Value) (e : TypeId) (j : Nat) : (w.alloc (.cells o e)).cell? ⟨w.heap.size, j, none⟩ = o[j]? := World.cell?_alloc_new ..
theorem own_drew {B : Nat} {e : TypeId} {size n : Nat} {v : Value} {xs : List Value} {w : World} (h : w.ownsRow B e size v n xs) : w.drew.ownsRow B e size v n xs := own_same h (fun _ _ => rfl)
theorem putN_take {a k : List UInt8} {l f : List (List UInt8)} {i : Nat} {x : List UInt8} (h : f[i]? = some x) : putN a k l (f.take (i + 1)) = if k = x then put32 a (putN a k l (f.take i)) else putN a k l (f.take i) := by
  rw [takeH h, putN_snoc]
  by_cases e : x = k
  · rw [if_pos e, if_pos e.symm]
  · rw [if_neg e, if_neg (fun h => e h.symm)]
theorem update_run {P : Program} {w : World} {b t key elem : Nat} {F : ByteArray → Option Value} (h : MapAt w b F) (ht : P.underlying t = some (.map key elem)) (hk : P.underlying key = some .string) (k : ByteArray) (v : Value) :
    ∃ w', (Instr.mapUpdate t (.map (some b)) (.string k) v).run P w = .ok () w' ∧ MapAt w' b (upd F k v) ∧ w'.heap.size = w.heap.size ∧ (∀ j, j ≠ b → w'.heap[j]? = w.heap[j]?) ∧ w'.os = w.os ∧ w'.tape = w.tape ∧ w'.output = w.output := by
  obtain ⟨O, hrun, r1⟩ := h.update ht hk k v
  refine ⟨_, hrun, r1, by simp, fun j hj => ?_, rfl, rfl, rfl⟩
  simp only [Array.getElem?_setIfInBounds]
  rw [if_neg (fun e => hj e.symm)]
end Go.Tx
namespace Go.Proofs.YtabkdaaenikliaaGreatDoor
open Go.RowKit Go.Lib Go.Tx Go.Mp
theorem step_append_run {ops : Array Oper} {o : Oper} {a : Act} {K : Act → World → Prop} {Q : Exit → Act → World → Prop} {E : Prop} {w : World} (hgd : o.guard = none) (s x : Operand)
    (ho : o.op = .call { callee := .builtin .append, args := #[s, x], argTypes := #[23, 23] }) {v y v' : Value} {w' : World} (hs : a.eval s = v) (hx : a.eval x = y)
    (hr : (Builtin.append_ #[23, 23] o.type #[v, y]).run Tryz.prog w = .ok v' w') (h : K (a.put o.dst v') w') :
    if Region.wanted o (yielded ops a.tmps) = true then Oper.wp Tryz.prog o a w K Q else E := by
  have hw : Region.wanted o (yielded ops a.tmps) = true := by simp [Region.wanted, hgd]
  rw [if_pos hw]
  unfold Oper.wp execOp
  simp only [ho, resolve, invoke, builtin, Sem.run_bind, Sem.run_pure, Result.andThen_ok, List.map_toArray, List.map_cons, List.map_nil, hs, hx, hr]
  exact h
def AddR (L : Nat) (w : World) (p m1 m2 n : Nat) (A : List UInt8 → List (List UInt8)) (C : List UInt8 → Option (List (List UInt8))) (a : List UInt8) (f : List (List UInt8)) (e : Ending) (w' : World) : Prop :=
  e = .returned (.tuple #[]) ∧ (∃ F G, TB L w' p m1 m2 (n + 1) (fun k => putN a k (A k) f) (setC C a f) F G) ∧ Out L w w' p m1 m2
set_option maxHeartbeats 1000000 in
set_option maxRecDepth 100000 in
theorem add_any (L p m1 m2 n : Nat) (A : List UInt8 → List (List UInt8)) (C : List UInt8 → Option (List (List UInt8))) (F G : ByteArray → Option Value) (w : World) (a : ByteArray) (v : Value) (f : List (List UInt8))
    (h : TB L w p m1 m2 n A C F G) (hv : StrC L w v f) (hap : Apart F v) (hn : n ≤ 1000000) (hA : ∀ k, (A k).length ≤ 32) (hf : f.length ≤ 1000) :
    Calls Tryz.prog 33 #[.pointer (some ⟨p, 0, none⟩), .string a, v] w (AddR L w p m1 m2 n A C a.data.toList f) := by
  obtain ⟨c0, c1, c2, f0⟩ := h.cells
  have hb : TB L (w.setCell ⟨p, 0, none⟩ (.int .i64 ((n : Int) + 1))) p m1 m2 (n + 1) A C F G := h.bump
  have hv2 : StrC L (w.setCell ⟨p, 0, none⟩ (.int .i64 ((n : Int) + 1))) v f := own_same hv (fun j hj => heap_setCell_ne _ _ _ _ _ (by have := h.pl; omega))
  have ho : Out L w (w.setCell ⟨p, 0, none⟩ (.int .i64 ((n : Int) + 1))) p m1 m2 := Out.bump h.pl (Out.refl _ _ _ _ _) _ _
  obtain ⟨pv, c, rfl⟩ := hv.shape
  have HB := Lib.hid hb
  have HV := Lib.hid hv2
  have HO := Lib.hid ho
  have HA := Lib.hid hA
  have HAP := Lib.hid hap
  have hGa := hb.hG a.data.toList
  rw [bk a] at hGa
  have hlk0 := MapAt.lookup2 hb.g Tryz.underlying89 Tryz.underlying9 (zeroS _) a
  clear h hb hv hv2 ho hA hap
  go_enter Tryz.func33, Tryz.ntmps33
  go_upto_region 1 with (fail)
  generalize (w.setCell ⟨p, 0, none⟩ (.int .i64 ((n : Int) + 1))) = w1 at *
  clear c0 c1 c2 f0
  obtain ⟨c0, c1, c2, f0⟩ := HB.out.cells
  cases hc : C a.data.toList with
  | some ws =>
    rw [hc] at hGa
    obtain ⟨va, hva, _⟩ := hGa
    rw [hva] at hlk0
    have hset : setC C a.data.toList f = C := by
      funext k
      unfold setC
      cases hk : C k with
      | some y => rfl
      | none => simp only; rw [if_neg (fun e => by rw [e, hc] at hk; cases hk)]
    rw [← hset] at HB
    obtain ⟨GG, hGG⟩ : ∃ GG, G = GG := ⟨_, rfl⟩
    rw [hGG] at HB
    clear hset hGG hva hc
    go_wp2
    go_loopw [37] (fun i wr => ∃ (k : Nat) (FF : ByteArray → Option Value), k ≤ f.length ∧ i = .int .i64 k ∧ TB L wr p m1 m2 (n + 1) (fun j => putN a.data.toList j (A j) (f.take k)) (setC C a.data.toList f) FF GG ∧ StrC L wr (.slice pv f.length c) f ∧ Apart FF (.slice pv f.length c) ∧ Out L w wr p m1 m2) (fun i _ => f.length - (intOf i).toNat)
    case atStart => exact ⟨0, F, Nat.zero_le _, rfl, HB.out, HV.out, HAP.out, HO.out⟩
    case round =>
      obtain ⟨k, FF, hk, rfl, hT, hS, hAp, hOut⟩ := hrel
      by_cases hlt : k < f.length
      · obtain ⟨x, hx⟩ : ∃ x, f[k]? = some x := ⟨_, List.getElem?_eq_getElem hlt⟩
        obtain ⟨pv', c', e', _, hcm, hr⟩ := hS.read
        cases e'
        obtain ⟨g, rfl, hg, hcell⟩ := hr k x hx
        obtain ⟨d0, d1, d2, _⟩ := hT.cells
        have hAk := hT.hF x
        obtain ⟨pa, ca, hva⟩ := hAk.shape
        rw [hva] at hAk
        have hlk : (Instr.lookup 89 (.map (some m1)) (.string ⟨x.toArray⟩) false).run Tryz.prog wr = .ok (.slice pa (putN a.data.toList x (A x) (f.take k)).length ca) wr := by
          rw [MapAt.lookup hT.f Tryz.underlying89 Tryz.underlying9 (zeroS wr) ⟨x.toArray⟩]
          exact congrArg (fun q => Result.ok q wr) hva
        have hl32 : (putN a.data.toList x (A x) (f.take k)).length ≤ 32 := putN_len _ _ _ _ (HA.out x)
        have HST := Lib.hid (fun j => (putN_take (a := a.data.toList) (k := j) (l := A j) hx))
        have hblk : Go.Tx.blk FF x = (Value.slice pa (putN a.data.toList x (A x) (f.take k)).length ca).ownBlock := by unfold Go.Tx.blk; rw [← hva]
        have HT := Lib.hid hT
        have HS2 := Lib.hid hS
        have HAk := Lib.hid hAk
        have HBl := Lib.hid hblk
        obtain ⟨T, hTT⟩ : ∃ T, putN a.data.toList x (A x) (f.take k) = T := ⟨_, rfl⟩
        rw [hTT] at hlk hl32 HAk HBl hva
        have HTT := Lib.hid hTT
        have HVA := Lib.hid hva
        clear hr hT hS hAk hTT hblk hva
        by_cases h32 : T.length < 32 ∧ a.data.toList ∉ T
        · obtain ⟨h1, h2⟩ := h32
          have h1' : (T.length : Int) < 32 := by omega
          have h2' : decide (a.data.toList ∈ T) = false := decide_eq_false h2
          go_wp2_with (go_at_call 45; refine (contains_any a _ HAk.out (by omega)).mono ?_; rintro e w2 ⟨rfl, hw⟩; obtain rfl : wr = w2 := hw.symm)
          have hB0 : Below wr.heap.size wr (wr.drew.alloc (.cells #[.string a] 9)) := ((Below.refl _ wr).drew).alloc (Nat.le_refl _) _
          have hT2 := HT.out.below hB0
          have hS2 := own_below HS2.out hB0
          obtain ⟨v', w5, hrun, hv5, hg5, hb5⟩ := append_one (w := wr.drew.alloc (.cells #[.string a] 9)) (B := L) a.data.toList ⟨wr.heap.size, 0, none⟩ (by have := cell_new wr.drew #[.string a] 9 0; exact this) (own_below HAk.out hB0) (by omega) hT2.size 23
          rw [← HBl.out] at hg5 hb5
          obtain ⟨q1, q2, q3, q4, _, _⟩ := hT2.grown (k := x) (r := Go.Tx.blk FF x) (.inr rfl) hg5
          obtain ⟨w9, hup, hm9, hs9, hh9, ho9, ht9, hu9⟩ := update_run (hT2.f.same q3) Tryz.underlying89 Tryz.underlying9 ⟨x.toArray⟩ v'
          have HC5 : Hid (w5.cell? ⟨p, 1, none⟩ = some (.map (some m1))) := Lib.hid (by rw [World.cell?_of_block (w := wr.drew.alloc (.cells #[.string a] 9)) (a := ⟨p, 1, none⟩) q2]; exact hT2.cells.2.1)
          have HP := Lib.hid (hT2.putF (x := x) (a := a.data.toList) (by rw [HTT.out]; exact hv5) hg5 hb5 hm9 hs9 hh9)
          have HO5 : Hid (Out L w w9 p m1 m2) := Lib.hid ((hOut.below HT.out.size hB0).trans ⟨ho9.trans hg5.os, ht9.trans hg5.tape, hu9.trans hg5.output, by rw [hs9]; exact hg5.size, fun j a1 _ a3 _ => by
            rw [hh9 j a3]
            exact hg5.block j (Nat.lt_of_lt_of_le a1 hT2.size) (fun e => by have := (hT2.lt e.symm).1; omega)⟩)
          have HC9 := Lib.hid HP.out.1.cells.2.1
          have HS5 := Lib.hid (HP.out.2 hS2 hAp)
          have HPut : Hid (put32 a.data.toList T = T ++ [a.data.toList]) := Lib.hid (by unfold put32; rw [if_pos ⟨h1, h2⟩])
          clear hT2 hS2 hv5 hg5 hb5 hm9 hs9 hh9 ho9 ht9 hu9 q1 q2 q3 q4 hOut hAp hB0
          go_region_held3 (fun w' => w'.cell? ⟨p, 1, none⟩ = some (.map (some m1))) (first | exact HC5.out | exact HC9.out | go_keep) (refine step_append_run (v' := v') (w' := w5) (by rfl) _ _ (by rfl) (by rfl) (by rfl) (by exact hrun) ?_)
          go_wp2
          go_roundw
          case rel => exact ⟨k + 1, _, hlt, by go_num, HP.out.1.cast (fun j => by
              rw [HST.out j]
              by_cases e : j = x
              · subst e; rw [if_pos rfl, if_pos rfl, HTT.out, HPut.out]
              · rw [if_neg e, if_neg e]), HS5.out.1, HS5.out.2, HO5.out⟩
          case measure => simp [intOf]; omega
        · have HN : Hid (put32 a.data.toList T = T) := Lib.hid (by unfold put32; rw [if_neg h32])
          have HP : Hid (Calls Tryz.prog 45 #[.slice pa T.length ca, .string a] wr fun e w' => e = .returned (.bool (decide (a.data.toList ∈ T))) ∧ w' = wr) := Lib.hid (contains_any a _ HAk.out (by omega))
          by_cases h1 : T.length < 32
          · have h1' : (T.length : Int) < 32 := by omega
            have h2 : decide (a.data.toList ∈ T) = true := decide_eq_true (Classical.byContradiction fun h2 => h32 ⟨h1, h2⟩)
            go_wp2_with (go_at_call 45; refine HP.out.mono ?_; rintro e w2 ⟨rfl, hw⟩; obtain rfl : wr = w2 := hw.symm)
            go_roundw
            case rel => exact ⟨k + 1, FF, hlt, by go_num, HT.out.cast (fun j => by rw [HST.out j]; split; · rename_i e; subst e; rw [HTT.out, HN.out]
                                                                                   · rfl), HS2.out, hAp, hOut⟩
            case measure => simp [intOf]; omega
          · have h1' : ¬ (T.length : Int) < 32 := by omega
            go_wp2_with (go_at_call 45; refine HP.out.mono ?_; rintro e w2 ⟨rfl, hw⟩; obtain rfl : wr = w2 := hw.symm)
            go_roundw
            case rel => exact ⟨k + 1, FF, hlt, by go_num, HT.out.cast (fun j => by rw [HST.out j]; split; · rename_i e; subst e; rw [HTT.out, HN.out]
                                                                                   · rfl), HS2.out, hAp, hOut⟩
            case measure => simp [intOf]; omega
      · obtain rfl : k = f.length := by omega
        rw [List.take_length] at hT
        have HT := Lib.hid hT
        clear hT hS
        go_wp2
        go_end0
        exact ⟨rfl, ⟨FF, GG, HT.out⟩, hOut⟩
  | none =>
    rw [hc] at hGa
    simp only at hGa
    rw [hGa] at hlk0
    have HC := Lib.hid hc
    clear hc
    obtain ⟨w9, hup, hm9, hs9, hh9, ho9, ht9, hu9⟩ := update_run HB.out.g Tryz.underlying89 Tryz.underlying9 a (.slice pv f.length c)
    have HB9 := Lib.hid (HB.out.putG HC.out HV.out HAP.out hm9 hs9 hh9)
    have HV9 : Hid (StrC L w9 (.slice pv f.length c) f) := Lib.hid (own_same HV.out (fun j hj => hh9 j (by have := HB.out.l2; omega)))
    have HO9 : Hid (Out L w w9 p m1 m2) := Lib.hid (HO.out.trans ⟨ho9, ht9, hu9, by rw [hs9]; exact Nat.le_refl _, fun j _ _ _ a4 => hh9 j a4⟩)
    obtain ⟨GG, hGG⟩ : ∃ GG, upd G a (.slice pv f.length c) = GG := ⟨_, rfl⟩
    rw [hGG] at HB9
    clear hm9 hs9 hh9 ho9 ht9 hu9 hGG hGa HB HV HO
    have HB := HB9
    have HV := HV9
    have HO := HO9
    clear HB9 HV9 HO9
    obtain ⟨y0, y1, y2, _⟩ := HB.out.cells
    go_wp2
    go_loopw [37] (fun i wr => ∃ (k : Nat) (FF : ByteArray → Option Value), k ≤ f.length ∧ i = .int .i64 k ∧ TB L wr p m1 m2 (n + 1) (fun j => putN a.data.toList j (A j) (f.take k)) (setC C a.data.toList f) FF GG ∧ StrC L wr (.slice pv f.length c) f ∧ Apart FF (.slice pv f.length c) ∧ Out L w wr p m1 m2) (fun i _ => f.length - (intOf i).toNat)
    case atStart => exact ⟨0, F, Nat.zero_le _, rfl, HB.out, HV.out, HAP.out, HO.out⟩
    case round =>
      obtain ⟨k, FF, hk, rfl, hT, hS, hAp, hOut⟩ := hrel
      by_cases hlt : k < f.length
      · obtain ⟨x, hx⟩ : ∃ x, f[k]? = some x := ⟨_, List.getElem?_eq_getElem hlt⟩
        obtain ⟨pv', c', e', _, hcm, hr⟩ := hS.read
        cases e'
        obtain ⟨g, rfl, hg, hcell⟩ := hr k x hx
        obtain ⟨d0, d1, d2, _⟩ := hT.cells
        have hAk := hT.hF x
        obtain ⟨pa, ca, hva⟩ := hAk.shape
        rw [hva] at hAk
        have hlk : (Instr.lookup 89 (.map (some m1)) (.string ⟨x.toArray⟩) false).run Tryz.prog wr = .ok (.slice pa (putN a.data.toList x (A x) (f.take k)).length ca) wr := by
          rw [MapAt.lookup hT.f Tryz.underlying89 Tryz.underlying9 (zeroS wr) ⟨x.toArray⟩]
          exact congrArg (fun q => Result.ok q wr) hva
        have hl32 : (putN a.data.toList x (A x) (f.take k)).length ≤ 32 := putN_len _ _ _ _ (HA.out x)
        have HST := Lib.hid (fun j => (putN_take (a := a.data.toList) (k := j) (l := A j) hx))
        have hblk : Go.Tx.blk FF x = (Value.slice pa (putN a.data.toList x (A x) (f.take k)).length ca).ownBlock := by unfold Go.Tx.blk; rw [← hva]
        have HT := Lib.hid hT
        have HS2 := Lib.hid hS
        have HAk := Lib.hid hAk
        have HBl := Lib.hid hblk
        obtain ⟨T, hTT⟩ : ∃ T, putN a.data.toList x (A x) (f.take k) = T := ⟨_, rfl⟩
        rw [hTT] at hlk hl32 HAk HBl hva
        have HTT := Lib.hid hTT
        have HVA := Lib.hid hva
        clear hr hT hS hAk hTT hblk hva
        by_cases h32 : T.length < 32 ∧ a.data.toList ∉ T
        · obtain ⟨h1, h2⟩ := h32
          have h1' : (T.length : Int) < 32 := by omega
          have h2' : decide (a.data.toList ∈ T) = false := decide_eq_false h2
          go_wp2_with (go_at_call 45; refine (contains_any a _ HAk.out (by omega)).mono ?_; rintro e w2 ⟨rfl, hw⟩; obtain rfl : wr = w2 := hw.symm)
          have hB0 : Below wr.heap.size wr (wr.drew.alloc (.cells #[.string a] 9)) := ((Below.refl _ wr).drew).alloc (Nat.le_refl _) _
          have hT2 := HT.out.below hB0
          have hS2 := own_below HS2.out hB0
          obtain ⟨v', w5, hrun, hv5, hg5, hb5⟩ := append_one (w := wr.drew.alloc (.cells #[.string a] 9)) (B := L) a.data.toList ⟨wr.heap.size, 0, none⟩ (by have := cell_new wr.drew #[.string a] 9 0; exact this) (own_below HAk.out hB0) (by omega) hT2.size 23
          rw [← HBl.out] at hg5 hb5
          obtain ⟨q1, q2, q3, q4, _, _⟩ := hT2.grown (k := x) (r := Go.Tx.blk FF x) (.inr rfl) hg5
          obtain ⟨w9, hup, hm9, hs9, hh9, ho9, ht9, hu9⟩ := update_run (hT2.f.same q3) Tryz.underlying89 Tryz.underlying9 ⟨x.toArray⟩ v'
          have HC5 : Hid (w5.cell? ⟨p, 1, none⟩ = some (.map (some m1))) := Lib.hid (by rw [World.cell?_of_block (w := wr.drew.alloc (.cells #[.string a] 9)) (a := ⟨p, 1, none⟩) q2]; exact hT2.cells.2.1)
          have HP := Lib.hid (hT2.putF (x := x) (a := a.data.toList) (by rw [HTT.out]; exact hv5) hg5 hb5 hm9 hs9 hh9)
          have HO5 : Hid (Out L w w9 p m1 m2) := Lib.hid ((hOut.below HT.out.size hB0).trans ⟨ho9.trans hg5.os, ht9.trans hg5.tape, hu9.trans hg5.output, by rw [hs9]; exact hg5.size, fun j a1 _ a3 _ => by
            rw [hh9 j a3]
            exact hg5.block j (Nat.lt_of_lt_of_le a1 hT2.size) (fun e => by have := (hT2.lt e.symm).1; omega)⟩)
          have HC9 := Lib.hid HP.out.1.cells.2.1
          have HS5 := Lib.hid (HP.out.2 hS2 hAp)
          have HPut : Hid (put32 a.data.toList T = T ++ [a.data.toList]) := Lib.hid (by unfold put32; rw [if_pos ⟨h1, h2⟩])
          clear hT2 hS2 hv5 hg5 hb5 hm9 hs9 hh9 ho9 ht9 hu9 q1 q2 q3 q4 hOut hAp hB0
          go_region_held3 (fun w' => w'.cell? ⟨p, 1, none⟩ = some (.map (some m1))) (first | exact HC5.out | exact HC9.out | go_keep) (refine step_append_run (v' := v') (w' := w5) (by rfl) _ _ (by rfl) (by rfl) (by rfl) (by exact hrun) ?_)
          go_wp2
          go_roundw
          case rel => exact ⟨k + 1, _, hlt, by go_num, HP.out.1.cast (fun j => by
              rw [HST.out j]
              by_cases e : j = x
              · subst e; rw [if_pos rfl, if_pos rfl, HTT.out, HPut.out]
              · rw [if_neg e, if_neg e]), HS5.out.1, HS5.out.2, HO5.out⟩
          case measure => simp [intOf]; omega
        · have HN : Hid (put32 a.data.toList T = T) := Lib.hid (by unfold put32; rw [if_neg h32])
          have HP : Hid (Calls Tryz.prog 45 #[.slice pa T.length ca, .string a] wr fun e w' => e = .returned (.bool (decide (a.data.toList ∈ T))) ∧ w' = wr) := Lib.hid (contains_any a _ HAk.out (by omega))
          by_cases h1 : T.length < 32
          · have h1' : (T.length : Int) < 32 := by omega
            have h2 : decide (a.data.toList ∈ T) = true := decide_eq_true (Classical.byContradiction fun h2 => h32 ⟨h1, h2⟩)
            go_wp2_with (go_at_call 45; refine HP.out.mono ?_; rintro e w2 ⟨rfl, hw⟩; obtain rfl : wr = w2 := hw.symm)
            go_roundw
            case rel => exact ⟨k + 1, FF, hlt, by go_num, HT.out.cast (fun j => by rw [HST.out j]; split; · rename_i e; subst e; rw [HTT.out, HN.out]
                                                                                   · rfl), HS2.out, hAp, hOut⟩
            case measure => simp [intOf]; omega
          · have h1' : ¬ (T.length : Int) < 32 := by omega
            go_wp2_with (go_at_call 45; refine HP.out.mono ?_; rintro e w2 ⟨rfl, hw⟩; obtain rfl : wr = w2 := hw.symm)
            go_roundw
            case rel => exact ⟨k + 1, FF, hlt, by go_num, HT.out.cast (fun j => by rw [HST.out j]; split; · rename_i e; subst e; rw [HTT.out, HN.out]
                                                                                   · rfl), HS2.out, hAp, hOut⟩
            case measure => simp [intOf]; omega
      · obtain rfl : k = f.length := by omega
        rw [List.take_length] at hT
        have HT := Lib.hid hT
        clear hT hS
        go_wp2
        go_end0
        exact ⟨rfl, ⟨FF, GG, HT.out⟩, hOut⟩
end Go.Proofs.YtabkdaaenikliaaGreatDoor

