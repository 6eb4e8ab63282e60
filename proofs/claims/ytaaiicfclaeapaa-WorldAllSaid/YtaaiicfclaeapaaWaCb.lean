/- Contracts and plain facts that the law leans on. -/
import Derived.Test.YtaaiicfclaeapaaWaCa
import Derived.Test.YtaaiicfclaeapaaEvB
import Derived.Lib.SlBytesConst
import Derived.OwnWalk
import Derived.Maps.RangeWalk
import Derived.Deep.AppendLies
import Derived.Deep.RegionLaw
import Derived.WalkKit
import Derived.Maps.OwnOps
import Derived.Lib.Strings
import Derived.Test.YtaaiicfclaeapaaRows
import Derived.LoopTactic
import Derived.Below
import Derived.Lib.Hide
import Derived.StillTailTactics
import Derived.Deep.QuietTactic
import Derived.BigQuiet
import Derived.Laws.Cover3
namespace Go.Rb
open Go.RowKit Go.Ev
def vbytes (l : List UInt8) : List Value := l.map fun c => .int .u8 (c.toNat : Int)
/-- What append reads: a text or a slice that reads as m. -/
structure Src (P : Program) (w : World) (v : Value) (m : List UInt8) : Prop where
  len : ∀ w' : World, (Builtin.lenOf v).run P w' = .ok m.length w'
  read : ∀ w' : World, w'.heap = w.heap → (Builtin.firstCells 1 m.length v).run P w' = .ok (vbytes m).toArray w'
theorem Src.str (P : Program) (w : World) (s : ByteArray) : Src P w (.string s) s.data.toList := by
  refine ⟨fun w' => by simp [Builtin.lenOf], fun w' _ => ?_⟩
  simp only [Builtin.firstCells, Sem.run_pure]
  congr 1
  apply Array.ext'
  simp [vbytes, ByteArray.extract, ByteArray.copySlice]
  exact List.take_of_length_le (by simp)
theorem Src.row {P : Program} {w : World} {b cap c : Nat} {l : List UInt8} (h : RowB 5 w b cap l) : Src P w (.slice (some ⟨b, 0, none⟩) l.length c) l := by
  refine ⟨fun w' => rfl, fun w' hw => ?_⟩
  refine run_firstCells_some w' 1 _ _ l.length c (vbytes l) (by simp [vbytes]) fun j v hj => ?_
  have ha : (⟨b, 0, none⟩ : Addr).add j = ⟨b, j, none⟩ := by unfold Addr.add; split <;> simp_all
  rw [ha]
  simp only [vbytes, List.getElem?_map, Option.map_eq_some_iff] at hj
  obtain ⟨c, hc, rfl⟩ := hj
  have := h.cell hc
  simpa [World.cell?, hw] using this
/-- Cells written over. -/
theorem run_stores' {P : Program} (b el : Nat) (fr : Nat × Nat) : ∀ (vs : List Value) (off i : Nat) (w : World) (arr : Array Value), w.heap[b]? = some (.cells arr el fr) → off + i + vs.length ≤ arr.size →
    (∀ i, i < arr.size → ¬ (fr.1 ≤ i ∧ i < fr.2)) → (∀ v ∈ vs, v.oneCell' = true) →
    ∃ w' arr', (storeCells ⟨b, off, none⟩ vs i).run P w = .ok () w' ∧ w'.heap[b]? = some (.cells arr' el fr) ∧ arr'.size = arr.size ∧ (∀ j, arr'[j]? = if off + i ≤ j ∧ j < off + i + vs.length then vs[j - (off + i)]? else arr[j]?) ∧
      (∀ k, k ≠ b → w'.heap[k]? = w.heap[k]?) ∧ w'.heap.size = w.heap.size ∧ w'.os = w.os ∧ w'.tape = w.tape ∧ w'.output = w.output
  | [], off, i, w, arr, hb, _, _, _ => ⟨w, arr, rfl, hb, rfl, fun j => by rw [if_neg (by simp <;> omega)], fun _ _ => rfl, rfl, rfl, rfl, rfl⟩
  | v :: vs, off, i, w, arr, hb, hl, hf, h1 => by
    simp only [List.length_cons] at hl
    have hcell : w.cell? ⟨b, off + i, none⟩ = some arr[off + i] := by simp [World.cell?, hb]
    have hfz : w.frozen? ⟨b, off + i, none⟩ = false := by
      simp only [World.frozen?, hb]
      have := hf (off + i) (by omega)
      cases h : decide (fr.1 ≤ off + i) && decide (off + i < fr.2)
      · rfl
      · simp at h; exact absurd h this
    have hb1 : (w.setCell ⟨b, off + i, none⟩ v).heap[b]? = some (.cells (arr.setIfInBounds (off + i) v) el fr) := by
      simp [World.setCell, Array.getElem?_modify, hb]
    obtain ⟨w', arr', e1, e2, e3, e4, e5, e6, e7, e8, e9⟩ := run_stores' b el fr vs off (i + 1) (w.setCell ⟨b, off + i, none⟩ v) (arr.setIfInBounds (off + i) v) hb1 (by simp; omega) (by simpa using hf) (fun u hu => h1 u (by simp [hu]))
    refine ⟨w', arr', ?_, e2, by simpa using e3, fun j => ?_, fun k hk => ?_, by simpa using e6, e7, e8, e9⟩
    · unfold storeCells
      simp only [Sem.run_bind]
      rw [add_off, run_store P w _ v .plain (h1 v (by simp)), hcell]
      simp only [hfz, Bool.false_eq_true, if_false, Result.andThen_ok]
      exact e1
    · rw [e4 j, Array.getElem?_setIfInBounds]
      simp only [List.length_cons]
      by_cases c1 : off + (i + 1) ≤ j ∧ j < off + (i + 1) + vs.length
      · rw [if_pos c1, if_pos (by omega), show j - (off + i) = (j - (off + (i + 1))) + 1 from by omega, List.getElem?_cons_succ]
      · rw [if_neg c1]
        by_cases c2 : off + i = j
        · rw [if_pos c2, if_pos (by omega), if_pos (by omega), show j - (off + i) = 0 from by omega]; rfl
        · rw [if_neg c2, if_neg (by omega)]
    · rw [e5 k hk]
      simp only [World.setCell, Array.getElem?_modify]
      rw [if_neg (by omega)]
theorem run_append_row {P : Program} {ts : Array TypeId} {ty t u : TypeId} {d : TypeDesc} {i : TypeInfo} {w : World} {b cap B : Nat} {l m : List UInt8} {v : Value}
    (h0 : ts[0]? = some t) (h1 : ts[1]? = some u) (ht : P.underlying t = some (.slice 5)) (hu : P.underlying u = some d) (hd : ∀ k, d ≠ .int k)
    (hi : P.info? 5 = some i) (hz0 : i.zero = some (.int .u8 0)) (hz1 : i.size = 1) (hz2 : i.bytes = 1)
    (hr : RowB 5 w b cap l) (hs : Src P w v m) (hB : B ≤ b) (hcap : cap ≤ 9223372036854775807) (hbd : l.length + m.length ≤ 1000000) :
    ∃ b' cap' w', (Builtin.append_ ts ty #[.slice (some ⟨b, 0, none⟩) l.length cap, v]).run P w = .ok (.slice (some ⟨b', 0, none⟩) (l.length + m.length) cap') w' ∧
      RowB 5 w' b' cap' (l ++ m) ∧ Below B w w' ∧ B ≤ b' ∧ cap' ≤ 9223372036854775807 ∧ l.length + m.length ≤ cap' := by
  have hr0 := hr
  obtain ⟨arr, lo, hi', hh, hmk, hsz, hle, hat⟩ := hr
  have hb : b < w.heap.size := (Array.getElem?_eq_some_iff.1 hh).1
  have hsrc := hs.read
  rw [← hz1] at hsrc
  by_cases hfit : l.length + m.length ≤ cap
  · have hrun := append_fits (P := P) (w := w) (ty := ty) (base := some ⟨b, 0, none⟩) (sLen := l.length) (sCap := cap) h0 h1 ht hu hd hi hs.len (hsrc w rfl) hfit
    have hadd : (⟨b, 0, none⟩ : Addr).add (l.length * i.size) = ⟨b, l.length, none⟩ := by
      rw [hz1]; unfold Addr.add; split <;> simp_all
    obtain ⟨w', arr', e1, e2, e3, e4, e5, e6, e7, e8, e9⟩ := run_stores' b 5 (lo, hi') (P := P) (vbytes m) l.length 0 w arr hh (by simp [vbytes]; omega) (fun j hj hc => by
        simp only at hc
        omega) (by simp [vbytes, Value.oneCell'])
    simp only [hadd, e1, Result.andThen_ok] at hrun
    refine ⟨b, cap, w', hrun, ⟨arr', lo, hi', e2, hmk, e3.trans hsz, by simpa using hfit, fun j c hj => ?_⟩, ⟨e7, e8, e9, by omega, fun k hk => e5 k (by omega)⟩, hB, hcap, hfit⟩
    rw [e4 j]
    have hjl := (List.getElem?_eq_some_iff.1 hj).1
    simp at hjl
    by_cases hlt : j < l.length
    · rw [if_neg (by omega)]
      rw [List.getElem?_append_left hlt] at hj
      exact hat j c hj
    · rw [if_pos (by simp [vbytes]; omega)]
      rw [List.getElem?_append_right (by omega)] at hj
      simp only [vbytes, List.getElem?_map, Nat.add_zero, hj, Option.map_some]
  · have hold := (Src.row (P := P) (c := cap) hr0).read
    rw [← hz1] at hold
    have hrun := append_grows (P := P) (w := w) (ty := ty) (base := some ⟨b, 0, none⟩) (sLen := l.length) (sCap := cap) (us := vbytes l) h0 h1 ht hu hd hi hz0 hs.len (hsrc w.drew rfl) (hold w.drew rfl) (by omega) (by rw [hz2]; omega) (by omega)
    have hge := grownCap_ge w (l.length + m.length) cap 5
    have hmx := grownCap_le_maxLen w (l.length + m.length) cap 5 (by unfold maxLen; omega)
    unfold maxLen at hmx
    refine ⟨w.heap.size, _, _, hrun, ⟨_, 0, 0, heap_alloc_new w.drew _, .inr rfl, ?_, by simpa using hge, fun j c hj => ?_⟩, (Below.refl _ _).drew.alloc (by show B ≤ w.heap.size; omega) _, by omega, by omega, hge⟩
    · simp [vbytes, Builtin.zeroCells, Value.cells]
      omega
    · have hjl := (List.getElem?_eq_some_iff.1 hj).1
      simp at hjl
      have e : (vbytes l).toArray ++ (vbytes m).toArray = (vbytes (l ++ m)).toArray := by simp [vbytes]
      rw [e, Array.getElem?_append_left (by simp [vbytes]; omega), List.getElem?_toArray]
      simp only [vbytes, List.getElem?_map, hj, Option.map_some]
end Go.Rb

namespace Go.Rb
open Go.RowKit Go.Ev
/-- A slice of bytes that reads as l: nil, or a row in a block from B on. -/
def RB (B : Nat) (w : World) (v : Value) (l : List UInt8) : Prop :=
  (v = .slice none 0 0 ∧ l = []) ∨ ∃ b cap, v = .slice (some ⟨b, 0, none⟩) l.length cap ∧ B ≤ b ∧ cap ≤ 9223372036854775807 ∧ RowB 5 w b cap l
theorem RB.nil (B : Nat) (w : World) : RB B w (.slice none 0 0) [] := .inl ⟨rfl, rfl⟩
theorem RB.alloc {B : Nat} {w : World} {v : Value} {l : List UInt8} (h : RB B w v l) (o : Obj) : RB B (w.alloc o) v l := by
  rcases h with h | ⟨b, cap, h1, h2, h3, h4⟩
  · exact .inl h
  · exact .inr ⟨b, cap, h1, h2, h3, h4.alloc o⟩
theorem RB.below {B : Nat} {w w' : World} {v : Value} {l : List UInt8} (h : RB B w v l) (hb : Below w.heap.size w w') : RB B w' v l := by
  rcases h with h | ⟨b, cap, h1, h2, h3, h4⟩
  · exact .inl h
  · refine .inr ⟨b, cap, h1, h2, h3, h4.below hb ?_⟩
    obtain ⟨_, _, _, hh, _⟩ := h4
    exact (Array.getElem?_eq_some_iff.1 hh).1
theorem RB.shape {B : Nat} {w : World} {v : Value} {l : List UInt8} (h : RB B w v l) : ∃ p c, v = .slice p l.length c ∧ l.length ≤ c ∧ c ≤ 9223372036854775807 := by
  rcases h with ⟨rfl, rfl⟩ | ⟨b, cap, h1, _, h3, _, _, _, _, _, _, h4, _⟩
  · exact ⟨none, 0, rfl, Nat.le_refl _, by decide⟩
  · exact ⟨_, cap, h1, h4, h3⟩
theorem RB.str {B : Nat} {w : World} {v : Value} {l : List UInt8} (h : RB B w v l) {P : Program} {src dst : TypeId} (hs : P.underlying src = some (.slice 5)) (he : P.underlying 5 = some (.int .u8)) (hd : P.underlying dst = some .string) :
    (convert src dst v).run P w = .ok (.string ⟨l.toArray⟩) w := by
  rcases h with ⟨rfl, rfl⟩ | ⟨b, cap, rfl, _, _, h4⟩
  · rw [run_convert_bytes_string w src dst 5 none 0 0 hs he hd]
    rfl
  · exact h4.str cap hs he hd
theorem run_append_rb {P : Program} {ts : Array TypeId} {ty t u : TypeId} {d : TypeDesc} {i : TypeInfo} {w : World} {B : Nat} {l m : List UInt8} {s v : Value}
    (h0 : ts[0]? = some t) (h1 : ts[1]? = some u) (ht : P.underlying t = some (.slice 5)) (hu : P.underlying u = some d) (hd : ∀ k, d ≠ .int k)
    (hi : P.info? 5 = some i) (hz0 : i.zero = some (.int .u8 0)) (hz1 : i.size = 1) (hz2 : i.bytes = 1)
    (hr : RB B w s l) (hs : Src P w v m) (hB : B ≤ w.heap.size) (hbd : l.length + m.length ≤ 1000000) :
    ∃ s' w', (Builtin.append_ ts ty #[s, v]).run P w = .ok s' w' ∧ RB B w' s' (l ++ m) ∧ Below B w w' := by
  rcases hr with ⟨rfl, rfl⟩ | ⟨b, cap, rfl, hb, hcap, hrow⟩
  · have hsrc := hs.read
    rw [← hz1] at hsrc
    by_cases hm : m = []
    · subst hm
      have hrun := append_fits (P := P) (w := w) (ty := ty) (base := none) (sLen := 0) (sCap := 0) h0 h1 ht hu hd hi hs.len (hsrc w rfl) (Nat.le_refl _)
      exact ⟨_, _, hrun, .inl ⟨rfl, rfl⟩, Below.refl _ _⟩
    · have hml : 0 < m.length := List.length_pos_iff.2 hm
      simp only [List.length_nil, Nat.zero_add] at hbd
      have hold : (Builtin.firstCells i.size 0 (.slice none 0 0)).run P w.drew = .ok ([] : List Value).toArray w.drew := run_firstCells_none w.drew i.size 0 0 0
      have hrun := append_grows (P := P) (w := w) (ty := ty) (base := none) (sLen := 0) (sCap := 0) (us := []) h0 h1 ht hu hd hi hz0 hs.len (hsrc w.drew rfl) hold (by omega) (by rw [hz2]; omega) (by omega)
      have hge := grownCap_ge w (0 + m.length) 0 5
      have hmx := grownCap_le_maxLen w (0 + m.length) 0 5 (by unfold maxLen; omega)
      unfold maxLen at hmx
      simp only [Nat.zero_add] at hrun hge hmx
      refine ⟨_, _, hrun, .inr ⟨w.heap.size, grownCap w m.length 0 5, by simp, hB, by omega, ⟨_, 0, 0, heap_alloc_new w.drew _, .inr rfl, ?_, by simpa using hge, fun j c hj => ?_⟩⟩, (Below.refl _ _).drew.alloc hB _⟩
      · simp [vbytes, Builtin.zeroCells, Value.cells]
        omega
      · have hjl := (List.getElem?_eq_some_iff.1 hj).1
        simp at hjl hj
        rw [Array.getElem?_append_left (by simp [vbytes]; omega), Array.getElem?_append_right (by simp)]
        simp [vbytes, hj]
  · obtain ⟨b', cap', w', e1, e2, e3, e4, e5, _⟩ := run_append_row (P := P) (ts := ts) (ty := ty) h0 h1 ht hu hd hi hz0 hz1 hz2 hrow hs hb hcap hbd
    exact ⟨_, w', e1, .inr ⟨b', cap', by rw [List.length_append], e4, e5, e2⟩, e3⟩
theorem wpList_append_rb {P : Program} {ops : Array Oper} {rest : List Oper} {o : Oper} {a : Act} {w : World} {Q : Exit → Act → World → Prop} (hgd : o.guard = none) (s x : Operand) (t u : TypeId)
    (ho : o.op = .call { callee := .builtin .append, args := #[s, x], argTypes := #[t, u] }) {d : TypeDesc} {i : TypeInfo}
    (ht : P.underlying t = some (.slice 5)) (hu : P.underlying u = some d) (hd : ∀ k, d ≠ .int k) (hi : P.info? 5 = some i) (hz0 : i.zero = some (.int .u8 0)) (hz1 : i.size = 1) (hz2 : i.bytes = 1)
    {B : Nat} {l m : List UInt8} {sv v : Value} (hs : a.eval s = sv) (hx : a.eval x = v) (hr : RB B w sv l) (hv : Src P w v m) (hB : B ≤ w.heap.size) (hbd : l.length + m.length ≤ 1000000)
    (h : ∀ s' w', RB B w' s' (l ++ m) → Below B w w' → wpList P ops Q rest (a.put o.dst s') w') : wpList P ops Q (o :: rest) a w :=
  wpList_plain hgd fun _ hK => by
    obtain ⟨s', w', e1, e2, e3⟩ := run_append_rb (P := P) (ts := #[t, u]) (ty := o.type) (t := t) (u := u) rfl rfl ht hu hd hi hz0 hz1 hz2 hr hv hB hbd
    unfold Oper.wp execOp
    simp only [ho, resolve, invoke, builtin, Sem.run_bind, Sem.run_pure, Result.andThen_ok, List.map_toArray, List.map_cons, List.map_nil, hs, hx, e1]
    exact hK _ _ (h s' w' e2 e3)
/-- A literal's row as a source. -/
theorem Src.lit (P : Program) (w : World) (l : List UInt8) : Src P (w.alloc (.cells (vbytes l).toArray 5)) (.slice (some ⟨w.heap.size, 0, none⟩) l.length l.length) l := by
  refine Src.row (cap := l.length) ⟨_, 0, 0, heap_alloc_new w _, .inr rfl, by simp [vbytes], Nat.le_refl _, fun j c hj => ?_⟩
  rw [List.getElem?_toArray]
  simp only [vbytes, List.getElem?_map, hj, Option.map_some]
end Go.Rb

namespace Go.Rb
open Go.RowKit Go.Ev
/-- Of what was there nothing has turned but what lies behind the first n cells of row g. -/
structure KG (g n : Nat) (w w' : World) : Prop where
  os : w'.os = w.os
  tape : w'.tape = w.tape
  output : w'.output = w.output
  size : w.heap.size ≤ w'.heap.size
  block : ∀ k, k < w.heap.size → k ≠ g → w'.heap[k]? = w.heap[k]?
  row : ∀ arr e fr, w.heap[g]? = some (.cells arr e fr) → ∃ arr', w'.heap[g]? = some (.cells arr' e fr) ∧ arr'.size = arr.size ∧ ∀ j, j < n → arr'[j]? = arr[j]?
theorem KG.of {w w' : World} (g n : Nat) (h : Below w.heap.size w w') : KG g n w w' :=
  ⟨h.os, h.tape, h.output, h.size, fun k hk _ => h.block k hk, fun arr e fr hg => ⟨arr, (h.block g (Array.getElem?_eq_some_iff.1 hg).1).trans hg, rfl, fun _ _ => rfl⟩⟩
theorem KG.below {B g n : Nat} {w w' : World} (h : KG g n w w') (hB : B ≤ g) (hs : B ≤ w.heap.size) : Below B w w' := ⟨h.os, h.tape, h.output, h.size, fun k hk => h.block k (by omega) (by omega)⟩
theorem KG.after {g n : Nat} {a b c : World} (h : Below a.heap.size a b) (k : KG g n b c) : KG g n a c :=
  ⟨k.os.trans h.os, k.tape.trans h.tape, k.output.trans h.output, Nat.le_trans h.size k.size, fun i hi hg => (k.block i (Nat.lt_of_lt_of_le hi h.size) hg).trans (h.block i hi), fun arr e fr hg => k.row arr e fr ((h.block g (Array.getElem?_eq_some_iff.1 hg).1).trans hg)⟩
theorem KG.then {g n : Nat} {a b c : World} (h : KG g n a b) (k : Below a.heap.size b c) : KG g n a c :=
  ⟨k.os.trans h.os, k.tape.trans h.tape, k.output.trans h.output, Nat.le_trans h.size k.size, fun i hi hg => (k.block i hi).trans (h.block i hi hg), fun arr e fr hg => by
    obtain ⟨arr', h1, h2⟩ := h.row arr e fr hg
    exact ⟨arr', (k.block g (Array.getElem?_eq_some_iff.1 hg).1).trans h1, h2⟩⟩
theorem RowB.kg {e : TypeId} {w w' : World} {b cap g n : Nat} {l : List UInt8} (h : RowB e w b cap l) (hk : KG g n w w') (hn : b = g → l.length ≤ n) : RowB e w' b cap l := by
  obtain ⟨arr, lo, hi, h1, h2, h3, h4, h5⟩ := h
  by_cases hb : b = g
  · subst hb
    obtain ⟨arr', k1, k2, k3⟩ := hk.row arr e (lo, hi) h1
    refine ⟨arr', lo, hi, k1, h2, by omega, h4, fun j c hj => ?_⟩
    have := (List.getElem?_eq_some_iff.1 hj).1
    rw [k3 j (by have := hn rfl; omega)]
    exact h5 j c hj
  · exact ⟨arr, lo, hi, by rw [hk.block b (Array.getElem?_eq_some_iff.1 h1).1 hb]; exact h1, h2, h3, h4, h5⟩
/-- A shorter look at a row. -/
theorem RowB.pre {e : TypeId} {w : World} {b cap : Nat} {l m : List UInt8} (h : RowB e w b cap (l ++ m)) : RowB e w b cap l := by
  obtain ⟨arr, lo, hi, h1, h2, h3, h4, h5⟩ := h
  refine ⟨arr, lo, hi, h1, h2, h3, by rw [List.length_append] at h4; omega, fun j c hj => h5 j c ?_⟩
  rw [List.getElem?_append_left (List.getElem?_eq_some_iff.1 hj).1]
  exact hj
/-- The block that a slice lies in. -/
def blk (v : Value) : Nat := match v with
  | .slice (some a) _ _ => a.block
  | _ => 0
/-- append of bytes to bytes of the call's own: what is made, and that all else is left. -/
theorem run_append_kg {P : Program} {ts : Array TypeId} {ty t u : TypeId} {d : TypeDesc} {i : TypeInfo} {w : World} {B : Nat} {l m : List UInt8} {s v : Value}
    (h0 : ts[0]? = some t) (h1 : ts[1]? = some u) (ht : P.underlying t = some (.slice 5)) (hu : P.underlying u = some d) (hd : ∀ k, d ≠ .int k)
    (hi : P.info? 5 = some i) (hz0 : i.zero = some (.int .u8 0)) (hz1 : i.size = 1) (hz2 : i.bytes = 1)
    (hr : RB B w s l) (hs : Src P w v m) (hB : B ≤ w.heap.size) (hbd : l.length + m.length ≤ 1000000) :
    ∃ s' w', (Builtin.append_ ts ty #[s, v]).run P w = .ok s' w' ∧ RB B w' s' (l ++ m) ∧ ((∃ a n c, s = .slice (some a) n c ∧ KG a.block l.length w w' ∧ blk s' = a.block) ∨ (Below w.heap.size w w' ∧ (s' = .slice none 0 0 ∨ blk s' = w.heap.size))) := by
  rcases hr with ⟨rfl, rfl⟩ | ⟨b, cap, rfl, hb, hcap, hrow⟩
  · have hsrc := hs.read
    rw [← hz1] at hsrc
    by_cases hm : m = []
    · subst hm
      have hrun := append_fits (P := P) (w := w) (ty := ty) (base := none) (sLen := 0) (sCap := 0) h0 h1 ht hu hd hi hs.len (hsrc w rfl) (Nat.le_refl _)
      exact ⟨_, _, hrun, .inl ⟨rfl, rfl⟩, .inr ⟨Below.refl _ _, .inl rfl⟩⟩
    · have hml : 0 < m.length := List.length_pos_iff.2 hm
      simp only [List.length_nil, Nat.zero_add] at hbd
      have hold : (Builtin.firstCells i.size 0 (.slice none 0 0)).run P w.drew = .ok ([] : List Value).toArray w.drew := run_firstCells_none w.drew i.size 0 0 0
      have hrun := append_grows (P := P) (w := w) (ty := ty) (base := none) (sLen := 0) (sCap := 0) (us := []) h0 h1 ht hu hd hi hz0 hs.len (hsrc w.drew rfl) hold (by omega) (by rw [hz2]; omega) (by omega)
      have hge := grownCap_ge w (0 + m.length) 0 5
      have hmx := grownCap_le_maxLen w (0 + m.length) 0 5 (by unfold maxLen; omega)
      unfold maxLen at hmx
      simp only [Nat.zero_add] at hrun hge hmx
      refine ⟨_, _, hrun, .inr ⟨w.heap.size, grownCap w m.length 0 5, by simp, hB, by omega, ⟨_, 0, 0, heap_alloc_new w.drew _, .inr rfl, ?_, by simpa using hge, fun j c hj => ?_⟩⟩, .inr ⟨(Below.refl _ _).drew.alloc (Nat.le_refl _) _, .inr rfl⟩⟩
      · simp [vbytes, Builtin.zeroCells, Value.cells]
        omega
      · have hjl := (List.getElem?_eq_some_iff.1 hj).1
        simp at hjl hj
        rw [Array.getElem?_append_left (by simp [vbytes]; omega), Array.getElem?_append_right (by simp)]
        simp [vbytes, hj]
  · have hr0 := hrow
    obtain ⟨arr, lo, hi', hh, hmk, hsz, hle, hat⟩ := hrow
    have hbl : b < w.heap.size := (Array.getElem?_eq_some_iff.1 hh).1
    have hsrc := hs.read
    rw [← hz1] at hsrc
    by_cases hfit : l.length + m.length ≤ cap
    · have hrun := append_fits (P := P) (w := w) (ty := ty) (base := some ⟨b, 0, none⟩) (sLen := l.length) (sCap := cap) h0 h1 ht hu hd hi hs.len (hsrc w rfl) hfit
      have hadd : (⟨b, 0, none⟩ : Addr).add (l.length * i.size) = ⟨b, l.length, none⟩ := by
        rw [hz1]; unfold Addr.add; split <;> simp_all
      obtain ⟨w', arr', e1, e2, e3, e4, e5, e6, e7, e8, e9⟩ := run_stores' b 5 (lo, hi') (P := P) (vbytes m) l.length 0 w arr hh (by simp [vbytes]; omega) (fun j hj hc => by
          simp only at hc
          omega) (by simp [vbytes, Value.oneCell'])
      simp only [hadd, e1, Result.andThen_ok] at hrun
      refine ⟨_, w', hrun, .inr ⟨b, cap, by rw [List.length_append], hb, hcap, ⟨arr', lo, hi', e2, hmk, e3.trans hsz, by simpa using hfit, fun j c hj => ?_⟩⟩, .inl ⟨_, _, _, rfl, ⟨e7, e8, e9, by omega, fun k _ hk => e5 k hk, fun arr2 e fr hg => ?_⟩, rfl⟩⟩
      · rw [e4 j]
        have hjl := (List.getElem?_eq_some_iff.1 hj).1
        simp at hjl
        by_cases hlt : j < l.length
        · rw [if_neg (by omega)]
          rw [List.getElem?_append_left hlt] at hj
          exact hat j c hj
        · rw [if_pos (by simp [vbytes]; omega)]
          rw [List.getElem?_append_right (by omega)] at hj
          simp only [vbytes, List.getElem?_map, Nat.add_zero, hj, Option.map_some]
      · have hg2 : w.heap[b]? = some (.cells arr2 e fr) := hg
        rw [hh] at hg2
        cases hg2
        exact ⟨arr', e2, e3, fun j hj => by rw [e4 j, if_neg (by omega)]⟩
    · have hold := (Src.row (P := P) (c := cap) hr0).read
      rw [← hz1] at hold
      have hrun := append_grows (P := P) (w := w) (ty := ty) (base := some ⟨b, 0, none⟩) (sLen := l.length) (sCap := cap) (us := vbytes l) h0 h1 ht hu hd hi hz0 hs.len (hsrc w.drew rfl) (hold w.drew rfl) (by omega) (by rw [hz2]; omega) (by omega)
      have hge := grownCap_ge w (l.length + m.length) cap 5
      have hmx := grownCap_le_maxLen w (l.length + m.length) cap 5 (by unfold maxLen; omega)
      unfold maxLen at hmx
      refine ⟨_, _, hrun, .inr ⟨w.heap.size, grownCap w (l.length + m.length) cap 5, by rw [List.length_append], hB, by omega, ⟨_, 0, 0, heap_alloc_new w.drew _, .inr rfl, ?_, by simpa using hge, fun j c hj => ?_⟩⟩, .inr ⟨(Below.refl _ _).drew.alloc (Nat.le_refl _) _, .inr rfl⟩⟩
      · simp [vbytes, Builtin.zeroCells, Value.cells]
        omega
      · have hjl := (List.getElem?_eq_some_iff.1 hj).1
        simp at hjl
        have e : (vbytes l).toArray ++ (vbytes m).toArray = (vbytes (l ++ m)).toArray := by simp [vbytes]
        rw [e, Array.getElem?_append_left (by simp [vbytes]; omega), List.getElem?_toArray]
        simp only [vbytes, List.getElem?_map, hj, Option.map_some]
theorem wpList_append_kg {P : Program} {ops : Array Oper} {rest : List Oper} {o : Oper} {a : Act} {w : World} {Q : Exit → Act → World → Prop} (hgd : o.guard = none) (s x : Operand) (t u : TypeId)
    (ho : o.op = .call { callee := .builtin .append, args := #[s, x], argTypes := #[t, u] }) {d : TypeDesc} {i : TypeInfo}
    (ht : P.underlying t = some (.slice 5)) (hu : P.underlying u = some d) (hd : ∀ k, d ≠ .int k) (hi : P.info? 5 = some i) (hz0 : i.zero = some (.int .u8 0)) (hz1 : i.size = 1) (hz2 : i.bytes = 1)
    {B : Nat} {l m : List UInt8} {sv v : Value} (hs : a.eval s = sv) (hx : a.eval x = v) (hr : RB B w sv l) (hv : Src P w v m) (hB : B ≤ w.heap.size) (hbd : l.length + m.length ≤ 1000000)
    (h : ∀ p c w', RB B w' (.slice p (l.length + m.length) c) (l ++ m) → ((∃ a n c', sv = .slice (some a) n c' ∧ KG a.block l.length w w' ∧ blk (.slice p (l.length + m.length) c) = a.block) ∨ (Below w.heap.size w w' ∧ (p = none ∨ blk (.slice p (l.length + m.length) c) = w.heap.size))) → wpList P ops Q rest (a.put o.dst (.slice p (l.length + m.length) c)) w') : wpList P ops Q (o :: rest) a w :=
  wpList_plain hgd fun _ hK => by
    obtain ⟨s', w', e1, e2, e4⟩ := run_append_kg (P := P) (ts := #[t, u]) (ty := o.type) (t := t) (u := u) rfl rfl ht hu hd hi hz0 hz1 hz2 hr hv hB hbd
    obtain ⟨p, c, rfl, _, _⟩ := e2.shape
    rw [List.length_append] at e1 e2 e4
    unfold Oper.wp execOp
    simp only [ho, resolve, invoke, builtin, Sem.run_bind, Sem.run_pure, Result.andThen_ok, List.map_toArray, List.map_cons, List.map_nil, hs, hx, e1]
    exact hK _ _ (h p c w' e2 (e4.imp id (fun e => ⟨e.1, e.2.imp (fun e => by injection e) id⟩)))
end Go.Rb

namespace Go.Mp
open Go.Ev Go.RowKit
def keyIs (v : Value) (k : ByteArray) : Bool :=
  match v with
  | .string s => decide (s = k)
  | _ => false
theorem keyIs_iff (v : Value) (k : ByteArray) : keyIs v k = true ↔ v = .string k := by
  unfold keyIs
  split
  · simp
  · rename_i h
    constructor
    · intro h; cases h
    · rintro rfl; exact absurd rfl (h k)
def mget (k : ByteArray) : List MapEntry → Option Value
  | [] => none
  | e :: es => if keyIs e.key k = true then some e.val else mget k es
def StrKeys (l : List MapEntry) : Prop := ∀ e ∈ l, ∃ s, e.key = .string s
/-- Block b is a map that answers F. -/
def MapAt (w : World) (b : Nat) (F : ByteArray → Option Value) : Prop := ∃ ms clock, w.heap[b]? = some (.map ms clock) ∧ StrKeys ms.toList ∧ ∀ k, mget k ms.toList = F k
theorem MapAt.lt {w : World} {b : Nat} {F : ByteArray → Option Value} (h : MapAt w b F) : b < w.heap.size := by
  obtain ⟨ms, c, h1, _⟩ := h
  exact (Array.getElem?_eq_some_iff.1 h1).1
theorem MapAt.same {w w' : World} {b : Nat} {F : ByteArray → Option Value} (h : MapAt w b F) (hw : w'.heap[b]? = w.heap[b]?) : MapAt w' b F := by
  obtain ⟨ms, c, h1, h2⟩ := h
  exact ⟨ms, c, hw.trans h1, h2⟩
theorem MapAt.made (w : World) : MapAt (w.alloc (.map #[] 0)) w.heap.size (fun _ => none) :=
  ⟨#[], 0, heap_alloc_new w _, (fun e he => by cases he), fun _ => rfl⟩
theorem beq_str (x y : ByteArray) : (x == y) = decide (x = y) := by
  rw [beq_toListBytes]
  by_cases h : x = y
  · subst h; simp
  · rw [decide_eq_false h, beq_eq_false_iff_ne]
    intro hh
    rw [Go.Lib.toList_data, Go.Lib.toList_data] at hh
    exact h (ByteArray.ext (Array.ext' hh))
theorem find_str (k : ByteArray) : ∀ (l : List MapEntry) (i : Nat), StrKeys l →
    match mget k l with
    | none => Instr.findNow .string (.string k) l i = some none
    | some v => ∃ j m, i ≤ j ∧ l[j - i]? = some m ∧ m.key = .string k ∧ m.val = v ∧ Instr.findNow .string (.string k) l i = some (some (j, v)) ∧ ∀ x, x < j - i → ∀ e, l[x]? = some e → e.key ≠ .string k
  | [], i, _ => rfl
  | e :: l, i, h => by
    obtain ⟨s, hs⟩ := h e (by simp)
    unfold mget
    by_cases he : e.key = .string k
    · rw [if_pos ((keyIs_iff _ _).2 he)]
      have hsk : s = k := by rw [hs] at he; cases he; rfl
      subst hsk
      refine ⟨i, e, Nat.le_refl _, by simp, he, rfl, ?_, fun x hx => by omega⟩
      simp [Instr.findNow, hs, Instr.sameNow, beq_str]
    · rw [if_neg (fun h => he ((keyIs_iff _ _).1 h))]
      have hsk : ¬ k = s := fun hh => he (by rw [hs, hh])
      have hq : Instr.sameNow .string (.string k) (.string s) = some false := by
        simp [Instr.sameNow, beq_str, hsk]
      have ih := find_str k l (i + 1) fun e he => h e (by simp [he])
      cases hm : mget k l with
      | none =>
        rw [hm] at ih
        simp only at ih ⊢
        simp [Instr.findNow, hs, hq, ih]
      | some v =>
        rw [hm] at ih
        simp only at ih ⊢
        obtain ⟨j, m, h1, h2, h3, h4, h5, h6⟩ := ih
        refine ⟨j, m, by omega, ?_, h3, h4, ?_, fun x hx e' hx' => ?_⟩
        · rw [show j - i = (j - (i + 1)) + 1 from by omega, List.getElem?_cons_succ]; exact h2
        · simp [Instr.findNow, hs, hq, h5]
        · cases x with
          | zero => simp at hx'; subst hx'; exact he
          | succ x => rw [List.getElem?_cons_succ] at hx'; exact h6 x (by omega) e' hx'
section
variable {P : Program} {w : World} {b t key elem : Nat} {F : ByteArray → Option Value}
theorem MapAt.lookup (h : MapAt w b F) (ht : P.underlying t = some (.map key elem)) (hk : P.underlying key = some .string) {z : Value} (hz : (zeroValue elem).run P w = .ok z w) (k : ByteArray) :
    (Instr.lookup t (.map (some b)) (.string k) false).run P w = .ok ((F k).getD z) w := by
  obtain ⟨ms, c, h1, h2, h3⟩ := h
  have hf := find_str k ms.toList 0 h2
  rw [h3 k] at hf
  cases hF : F k with
  | none =>
    rw [hF] at hf
    simp only at hf
    simp only [Instr.lookup, pure_bind, Sem.run_bind, run_und ht, Result.andThen_ok, run_getObj h1 (by simp), checkKey_run hk rfl, findKey_run hk hf, hz, Sem.run_pure]
    rfl
  | some v =>
    rw [hF] at hf
    simp only at hf
    obtain ⟨j, m, _, _, _, _, h5, _⟩ := hf
    simp only [Instr.lookup, pure_bind, Sem.run_bind, run_und ht, Result.andThen_ok, run_getObj h1 (by simp), checkKey_run hk rfl, findKey_run hk h5, Sem.run_pure]
    rfl
theorem lookup_nil (ht : P.underlying t = some (.map key elem)) (hk : P.underlying key = some .string) {z : Value} (hz : (zeroValue elem).run P w = .ok z w) (k : ByteArray) :
    (Instr.lookup t (.map none) (.string k) false).run P w = .ok z w := by
  have hf : Instr.findNow .string (.string k) [] 0 = some none := rfl
  simp only [Instr.lookup, pure_bind, Sem.run_bind, run_und ht, Result.andThen_ok, checkKey_run hk rfl, findKey_run hk hf, hz, Sem.run_pure]
  rfl
def upd (F : ByteArray → Option Value) (k : ByteArray) (v : Value) : ByteArray → Option Value := fun j => if j = k then some v else F j
theorem mget_modify (k : ByteArray) (v : Value) : ∀ (l : List MapEntry) (i : Nat) (m : MapEntry), l[i]? = some m → m.key = .string k → (∀ x, x < i → ∀ e, l[x]? = some e → e.key ≠ .string k) → ∀ j, mget j (l.modify i fun e => { e with key := .string k, val := v }) = if j = k then some v else mget j l
  | [], i, m, h, _, _, j => by simp at h
  | e :: l, 0, m, h, hm, _, j => by
    simp at h
    subst h
    rw [List.modify_zero_cons]
    unfold mget
    rw [hm]
    by_cases hj : j = k
    · subst hj; simp [keyIs]
    · have : ¬ k = j := fun h => hj h.symm
      simp [keyIs, this, hj]
  | e :: l, i + 1, m, h, hm, hn, j => by
    rw [List.getElem?_cons_succ] at h
    have he := hn 0 (by omega) e (by simp)
    rw [List.modify_succ_cons]
    unfold mget
    have ih := mget_modify k v l i m h hm (fun x hx e' hx' => hn (x + 1) (by omega) e' (by rw [List.getElem?_cons_succ]; exact hx')) j
    by_cases hj : j = k
    · subst hj
      rw [if_neg (fun h => he ((keyIs_iff _ _).1 h)), ih]
      simp
    · rw [ih, if_neg hj, if_neg hj]
theorem mget_push (k : ByteArray) (v : Value) (c : Nat) : ∀ (l : List MapEntry), mget k l = none → ∀ j, mget j (l ++ [{ key := .string k, val := v, born := c }]) = if j = k then some v else mget j l
  | [], _, j => by
    by_cases hj : j = k
    · subst hj; simp [mget, keyIs]
    · have : ¬ k = j := fun h => hj h.symm
      simp [mget, keyIs, this, hj]
  | e :: l, h, j => by
    unfold mget at h
    split at h
    · cases h
    · rename_i he
      have ih := mget_push k v c l h j
      rw [List.cons_append]
      unfold mget
      by_cases hj : j = k
      · subst hj
        rw [if_neg he, ih]
        simp
      · rw [ih, if_neg hj, if_neg hj]
theorem MapAt.update (h : MapAt w b F) (ht : P.underlying t = some (.map key elem)) (hk : P.underlying key = some .string) (k : ByteArray) (v : Value) :
    ∃ O, (Instr.mapUpdate t (.map (some b)) (.string k) v).run P w = .ok () { w with heap := w.heap.setIfInBounds b O } ∧ MapAt { w with heap := w.heap.setIfInBounds b O } b (upd F k v) := by
  have hlt := h.lt
  obtain ⟨ms, c, h1, h2, h3⟩ := h
  have hf := find_str k ms.toList 0 h2
  cases hm : mget k ms.toList with
  | none =>
    rw [hm] at hf
    simp only at hf
    refine ⟨.map (ms.push { key := .string k, val := v, born := c }) (c + 1), ?_, _, _, heap_set hlt, ?_, fun j => ?_⟩
    · simp only [Instr.mapUpdate, Sem.run_bind, run_und ht, Result.andThen_ok, run_getObj h1 (by simp), checkKey_run hk rfl, findKey_run hk hf, run_setObj h1 (by simp)]
    · intro e he
      simp only [Array.toList_push, List.mem_append, List.mem_singleton] at he
      rcases he with he | rfl
      · exact h2 e he
      · exact ⟨k, rfl⟩
    · rw [Array.toList_push, mget_push k v c _ hm, h3 j]
      rfl
  | some u =>
    rw [hm] at hf
    simp only at hf
    obtain ⟨j, m, _, h5, h6, h7, h8, h9⟩ := hf
    rw [Nat.sub_zero] at h5 h9
    have hi : ms[j]? = some m := by simpa using h5
    refine ⟨.map (ms.modify j fun e => { e with key := .string k, val := v }) c, ?_, _, _, heap_set hlt, ?_, fun x => ?_⟩
    · simp only [Instr.mapUpdate, Sem.run_bind, run_und ht, Result.andThen_ok, run_getObj h1 (by simp), checkKey_run hk rfl, findKey_run hk h8, Instr.keyThatStays]
      rw [hi]
      have hsb : Instr.sameBits 10000 m.key (.string k) = true := by rw [h6]; simp [Instr.sameBits, beq_str]
      simp only [Option.map_some, Option.getD_some, hsb, if_true, Sem.run_pure, Result.andThen_ok, run_setObj h1 (by simp)]
    · intro e he
      rw [Array.toList_modify] at he
      obtain ⟨x, hx, rfl⟩ := List.getElem_of_mem he
      rw [List.getElem_modify]
      split
      · exact ⟨k, rfl⟩
      · exact h2 _ (List.getElem_mem _)
    · rw [Array.toList_modify, mget_modify k v _ j m h5 h6 h9 x, h3 x]
      rfl
end
end Go.Mp

namespace Go.Mp
/-- A region that draws its order, of which the first n operations read alone: they are walked in the text's order. -/
theorem region_tail {P : Program} {id : Nat} {Q : Exit → Act → World → Prop} {a : Act} {w : World} {l : List Oper} (n : Nat) (hm : P.follows .mixedOrders = true) (hB : Region.lexTailB .any l.toArray n = true)
    (h : wpStill P l.toArray w.drew (fun a' => wpList P l.toArray Q (l.drop n) a' w.drew) (l.take n) a) : (Code.region id l.toArray true).wp P Q a w :=
  wp_region_still_tail n hm hB h
theorem wpList_mapUpdate_at {P : Program} {w : World} {ops : Array Oper} {rest : List Oper} {o : Oper} {a : Act} {Q : Exit → Act → World → Prop}
    (hg : o.guard = none) (m x v : Operand) (t : TypeId) (hop : o.op = Op.mapUpdate t m x v) {key elem b : Nat} {F : ByteArray → Option Value} (ht : P.underlying t = some (.map key elem)) (hk : P.underlying key = some .string)
    (hm : a.eval m = .map (some b)) (hown : MapAt w b F) {k : ByteArray} {val : Value} (hx : a.eval x = .string k) (hv : a.eval v = val)
    (hK : ∀ w', MapAt w' b (upd F k val) → w'.heap.size = w.heap.size → (∀ j, j ≠ b → w'.heap[j]? = w.heap[j]?) → w'.os = w.os → w'.tape = w.tape → w'.output = w.output → wpList P ops Q rest (a.put o.dst undef) w') :
    wpList P ops Q (o :: rest) a w := by
  refine wpList_plain hg fun K' hK' => ?_
  obtain ⟨O, hrun, r1⟩ := hown.update ht hk k val
  unfold Oper.wp
  simp [execOp, hop, hm, hx, hv, hrun, Result.andThen]
  refine hK' _ _ (hK _ r1 (by simp) (fun j hj => ?_) rfl rfl rfl)
  simp only [Array.getElem?_setIfInBounds]
  rw [if_neg (fun e => hj e.symm)]
end Go.Mp
namespace Go.Proofs.Ytaaiicfclaeapaa
open Go.RowKit Go.Lib Go.Mp
theorem eql_map (t k e : Nat) (m : Option Nat) (h : Try.prog.underlying t = some (.map k e)) (w : World) : (binOp .eql t (.map m) (.map none)).run Try.prog w = .ok (.bool m.isNone) w := by
  simp only [binOp]
  simp [run_equal_map_nil w t k e m h]
theorem eql33 (a : Option Addr) (l c : Nat) (w : World) : (binOp .eql 33 (.slice a l c) (.slice none 0 0)).run Try.prog w = .ok (.bool a.isNone) w := by
  simp only [binOp]
  simp [run_equal_slice_nil w 33 5 a l c Try.underlying33]
theorem eql79_some (m : Nat) (w : World) : (binOp .eql 57 (.map (some m)) (.map none)).run Try.prog w = .ok (.bool false) w := eql_map 57 _ _ (some m) Try.underlying57 w
theorem eql79_none (w : World) : (binOp .eql 57 (.map none) (.map none)).run Try.prog w = .ok (.bool true) w := eql_map 57 _ _ none Try.underlying57 w
/-- The files of a world: its map (none: nil), which answers F. -/
def FM (w : World) (b : Nat) (mp : Option Nat) (F : ByteArray → Option Value) : Prop :=
  match mp with
  | none => ∀ k, F k = none
  | some m => m ≠ b ∧ MapAt w m F
/-- Block b is a world of this stamp and these files. -/
def WS (w : World) (b : Nat) (st : Int) (mp : Option Nat) (F : ByteArray → Option Value) : Prop :=
  (∃ c0 c3 c4 c5 c6 c7 : Value, w.heap[b]? = some (.cells #[c0, .int .i64 st, .map mp, c3, c4, c5, c6, c7] 63 (0, 0))) ∧ FM w b mp F
/-- What a call may have turned: the world's block and its map; else it made memory alone. -/
structure Turned (w w' : World) (b : Nat) (mp : Option Nat) : Prop where
  os : w'.os = w.os
  tape : w'.tape = w.tape
  output : w'.output = w.output
  size : w.heap.size ≤ w'.heap.size
  same : ∀ j, j < w.heap.size → j ≠ b → some j ≠ mp → w'.heap[j]? = w.heap[j]?
theorem heap_setCell_ne (w : World) (b j off : Nat) (v : Value) (h : j ≠ b) : (w.setCell ⟨b, off, none⟩ v).heap[j]? = w.heap[j]? := by
  show (w.heap.modify b _)[j]? = _
  rw [Array.getElem?_modify, if_neg (fun e => h e.symm)]
theorem heap_setCell_eq (w : World) (b off : Nat) (v : Value) (c : Array Value) (e : TypeId) (fr : Nat × Nat) (h : w.heap[b]? = some (.cells c e fr)) : (w.setCell ⟨b, off, none⟩ v).heap[b]? = some (.cells (c.setIfInBounds off v) e fr) := by
  show (w.heap.modify b _)[b]? = _
  rw [Array.getElem?_modify, if_pos rfl, h]
  rfl
theorem heap_alloc_lt (w : World) (o : Obj) (j : Nat) (h : j < w.heap.size) : (w.alloc o).heap[j]? = w.heap[j]? := by
  show (w.heap.push o)[j]? = _
  rw [Array.getElem?_push, if_neg (by omega)]
theorem size_setCell' (w : World) (a : Addr) (v : Value) : (w.setCell a v).heap.size = w.heap.size := by
  show (w.heap.modify _ _).size = _
  simp
def ChangeR (w : World) (b : Nat) (st : Int) (mp : Option Nat) (F : ByteArray → Option Value) (e : Ending) (w' : World) : Prop :=
  e = .returned (.tuple #[]) ∧ ∃ m, (mp = some m ∨ (mp = none ∧ w.heap.size ≤ m)) ∧ WS w' b st (some m) F ∧ Turned w w' b mp
set_option maxHeartbeats 1000000 in
set_option maxRecDepth 100000 in
theorem change_some (b m : Nat) (st : Int) (F : ByteArray → Option Value) (p : ByteArray) (body : Value) (th : Bool) (w : World) (h : WS w b st (some m) F) (hst : 0 ≤ st) (hst2 : st ≤ 1000000) :
    Calls Try.prog 30 #[.pointer (some ⟨b, 0, none⟩), .string p, .agg #[body, .int .i64 0, .bool th]] w (ChangeR w b (st + 1) (some m) (upd F p (.agg #[body, .int .i64 (st + 1), .bool th]))) := by
  obtain ⟨⟨c0, c3, c4, c5, c6, c7, hh⟩, hne, hm⟩ := h
  have hb : b < w.heap.size := (Array.getElem?_eq_some_iff.1 hh).1
  have hml := hm.lt
  have k1 : w.cell? ⟨b, 1, none⟩ = some (.int .i64 st) := by simp [World.cell?, hh]
  have k2 : w.cell? ⟨b, 2, none⟩ = some (.map (some m)) := by simp [World.cell?, hh]
  have f1 : w.frozen? ⟨b, 1, none⟩ = false := by simp [World.frozen?, hh]
  have HH := Lib.hid hh
  have HM := Lib.hid hm
  clear hh hm
  have e79 := eql79_some m
  go_enter Try.func30, Try.ntmps30
  go_wp2
  refine region_tail 6 (by kernel_rfl) (by kernel_rfl) ?_
  simp only [List.take_succ_cons, List.take_zero, List.drop_succ_cons, List.drop_zero]
  repeat still_step
  refine wpStill_nil ?_
  refine wpList_mapUpdate_at rfl _ _ _ _ rfl Try.underlying57 Try.underlying9 rfl (HM.out.same (by
    show ((w.setCell _ _).alloc _).heap[m]? = _
    rw [heap_alloc_lt _ _ _ (by rw [size_setCell']; exact hml), heap_setCell_ne _ _ _ _ _ hne])) rfl rfl ?_
  intro w9 hm9 hs9 hh9 ho9 ht9 hu9
  go_wp2
  go_end0
  refine ⟨rfl, m, .inl rfl, ⟨⟨c0, c3, c4, c5, c6, c7, ?_⟩, hne, hm9⟩, ?_⟩
  · rw [hh9 b (fun e => hne e.symm)]
    show ((w.setCell _ _).alloc _).heap[b]? = _
    rw [heap_alloc_lt _ _ _ (by rw [size_setCell']; exact hb), heap_setCell_eq _ _ _ _ _ _ _ HH.out]
    rfl
  · refine ⟨ho9, ht9, hu9, ?_, fun j hj hjb hjm => ?_⟩
    · rw [hs9]
      show w.heap.size ≤ ((w.setCell _ _).heap.push _).size
      rw [Array.size_push, size_setCell']
      omega
    · rw [hh9 j (fun e => hjm (by rw [e]))]
      show ((w.setCell _ _).alloc _).heap[j]? = _
      rw [heap_alloc_lt _ _ _ (by rw [size_setCell']; exact hj), heap_setCell_ne _ _ _ _ _ hjb]
set_option maxHeartbeats 1000000 in
set_option maxRecDepth 100000 in
theorem change_none (b : Nat) (st : Int) (F : ByteArray → Option Value) (p : ByteArray) (body : Value) (th : Bool) (w : World) (h : WS w b st none F) (hst : 0 ≤ st) (hst2 : st ≤ 1000000) :
    Calls Try.prog 30 #[.pointer (some ⟨b, 0, none⟩), .string p, .agg #[body, .int .i64 0, .bool th]] w (ChangeR w b (st + 1) none (upd F p (.agg #[body, .int .i64 (st + 1), .bool th]))) := by
  obtain ⟨⟨c0, c3, c4, c5, c6, c7, hh⟩, hm⟩ := h
  have hb : b < w.heap.size := (Array.getElem?_eq_some_iff.1 hh).1
  have k1 : w.cell? ⟨b, 1, none⟩ = some (.int .i64 st) := by simp [World.cell?, hh]
  have k2 : w.cell? ⟨b, 2, none⟩ = some (.map none) := by simp [World.cell?, hh]
  have f1 : w.frozen? ⟨b, 1, none⟩ = false := by simp [World.frozen?, hh]
  have f2 : w.frozen? ⟨b, 2, none⟩ = false := by simp [World.frozen?, hh]
  have HH := Lib.hid hh
  have HM := Lib.hid hm
  clear hh hm
  have e79 := eql79_none
  have hmm := @run_makeMap Try.prog
  go_enter Try.func30, Try.ntmps30
  go_wp2
  refine region_tail 6 (by kernel_rfl) (by kernel_rfl) ?_
  simp only [List.take_succ_cons, List.take_zero, List.drop_succ_cons, List.drop_zero]
  repeat still_step
  refine wpStill_nil ?_
  have hsz : (((w.setCell ⟨b, 1, none⟩ (.int .i64 (st + 1))).setCell ⟨b, 2, none⟩ (.map (some (w.heap.size + 1)))).alloc (.cells #[body, .int .i64 (st + 1), .bool th] 67)).heap.size = w.heap.size + 1 := by
    show (Array.push _ _).size = _
    rw [Array.size_push, size_setCell', size_setCell']
  have hF : F = fun _ => none := funext HM.out
  refine wpList_mapUpdate_at (b := w.heap.size + 1) (F := F) rfl _ _ _ _ rfl Try.underlying57 Try.underlying9 rfl (by
    have := MapAt.made (((w.setCell ⟨b, 1, none⟩ (.int .i64 (st + 1))).setCell ⟨b, 2, none⟩ (.map (some (w.heap.size + 1)))).alloc (.cells #[body, .int .i64 (st + 1), .bool th] 67))
    rw [hsz] at this
    rw [hF]
    exact this.same rfl) rfl rfl ?_
  intro w9 hm9 hs9 hh9 ho9 ht9 hu9
  have hold : ∀ j, j < w.heap.size → (((((w.setCell ⟨b, 1, none⟩ (.int .i64 (st + 1))).setCell ⟨b, 2, none⟩ (.map (some (w.heap.size + 1)))).alloc (.cells #[body, .int .i64 (st + 1), .bool th] 67)).alloc (.map #[] 0)).drew).heap[j]? = ((w.setCell ⟨b, 1, none⟩ (.int .i64 (st + 1))).setCell ⟨b, 2, none⟩ (.map (some (w.heap.size + 1)))).heap[j]? := by
    intro j hj
    show (World.alloc _ _).heap[j]? = _
    rw [heap_alloc_lt _ _ _ (by rw [hsz]; omega), heap_alloc_lt _ _ _ (by rw [size_setCell', size_setCell']; exact hj)]
  have HOLD := Lib.hid hold
  have HSZ := Lib.hid hsz
  have HS9 := Lib.hid hs9
  clear hold hsz hs9 hF
  go_wp2
  go_end0
  refine ⟨rfl, w.heap.size + 1, .inr ⟨rfl, by omega⟩, ⟨⟨c0, c3, c4, c5, c6, c7, ?_⟩, by omega, hm9⟩, ?_⟩
  · rw [hh9 b (by omega), HOLD.out b hb, heap_setCell_eq _ _ _ _ _ _ _ (heap_setCell_eq _ _ _ _ _ _ _ HH.out)]
    rfl
  · refine ⟨ho9, ht9, hu9, ?_, fun j hj hjb hjm => ?_⟩
    · rw [HS9.out]
      show w.heap.size ≤ (Array.push _ _).size
      rw [Array.size_push, HSZ.out]
      omega
    · rw [hh9 j (by omega), HOLD.out j hj, heap_setCell_ne _ _ _ _ _ hjb, heap_setCell_ne _ _ _ _ _ hjb]
theorem change_any (b : Nat) (mp : Option Nat) (st : Int) (F : ByteArray → Option Value) (p : ByteArray) (body : Value) (th : Bool) (w : World) (h : WS w b st mp F) (hst : 0 ≤ st) (hst2 : st ≤ 1000000) :
    Calls Try.prog 30 #[.pointer (some ⟨b, 0, none⟩), .string p, .agg #[body, .int .i64 0, .bool th]] w (ChangeR w b (st + 1) mp (upd F p (.agg #[body, .int .i64 (st + 1), .bool th]))) := by
  cases mp with
  | none => exact change_none b st F p body th w h hst hst2
  | some m => exact change_some b m st F p body th w h hst hst2

set_option maxRecDepth 100000 in
theorem remove_any (b : Nat) (mp : Option Nat) (st : Int) (F : ByteArray → Option Value) (p : ByteArray) (w : World) (h : WS w b st mp F) (hst : 0 ≤ st) (hst2 : st ≤ 1000000) :
    Calls Try.prog 11 #[.pointer (some ⟨b, 0, none⟩), .string p] w (ChangeR w b (st + 1) mp (upd F p (.agg #[.slice none 0 0, .int .i64 (st + 1), .bool false]))) := by
  go_enter Try.func11, Try.ntmps11
  go_wp2_with (go_at_call 30; refine (change_any b mp st F p _ _ _ h hst hst2).mono ?_; rintro e w' ⟨rfl, m, h1, h2, h3⟩)
  go_end0
  exact ⟨rfl, m, h1, h2, h3⟩
set_option maxRecDepth 100000 in
theorem clone_nil (w : World) : Calls Try.prog 31 #[.slice none 0 0] w fun e w' => e = .returned (.slice none 0 0) ∧ w = w' := by
  have k33 := eql33 none 0 0
  go_enter Try.func31, Try.ntmps31
  go_wp2
  go_ret
  exact ⟨rfl, rfl⟩
set_option maxRecDepth 100000 in
theorem put_nil (b : Nat) (mp : Option Nat) (st : Int) (F : ByteArray → Option Value) (p : ByteArray) (w : World) (h : WS w b st mp F) (hst : 0 ≤ st) (hst2 : st ≤ 1000000) :
    Calls Try.prog 9 #[.pointer (some ⟨b, 0, none⟩), .string p, .slice none 0 0] w (ChangeR w b (st + 1) mp (upd F p (.agg #[.slice none 0 0, .int .i64 (st + 1), .bool true]))) := by
  go_enter Try.func9, Try.ntmps9
  go_wp2_with (first | (go_at_call 31; refine (clone_nil _).mono ?_; rintro e w' ⟨rfl, rfl⟩) | (go_at_call 30; refine (change_any b mp st F p _ _ _ h hst hst2).mono ?_; rintro e w' ⟨rfl, m, h1, h2, h3⟩))
  go_end0
  exact ⟨rfl, m, h1, h2, h3⟩
end Go.Proofs.Ytaaiicfclaeapaa

