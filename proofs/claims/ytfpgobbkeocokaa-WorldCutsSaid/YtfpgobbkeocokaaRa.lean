/- A row of bytes is appended to: it reads as both, and nothing elder has turned. -/
import Derived.Test.YtfpgobbkeocokaaTr
import Derived.Test.YtfpgobbkeocokaaEvB
import Derived.Lib.SlBytesConst
namespace Go.Rb
open Go.RowKit Go.Ev
def vbytes (l : List UInt8) : List Value := l.map fun c => .int .u8 (c.toNat : Int)
/-- What append reads: a text or a slice that reads as m. -/
structure Src (P : Program) (w : World) (v : Value) (m : List UInt8) : Prop where
  len : ∀ w' : World, (Builtin.lenOf v).run P w' = .ok m.length w'
  read : ∀ w' : World, w'.heap = w.heap → (Builtin.firstCells 1 m.length v).run P w' = .ok (vbytes m).toArray w'
theorem Src.str (P : Program) (w : World) (s : ByteArray) : Src P w (.string s) s.data.toList := by
  refine ⟨fun w' => by simp [Builtin.lenOf], fun w' _ => ?_⟩
  simp only [Builtin.firstCells, Sem.run_pure]
  congr 1
  apply Array.ext'
  simp [vbytes, ByteArray.extract, ByteArray.copySlice]
  exact List.take_of_length_le (by simp)
theorem Src.row {P : Program} {w : World} {b cap c : Nat} {l : List UInt8} (h : RowB 5 w b cap l) : Src P w (.slice (some ⟨b, 0, none⟩) l.length c) l := by
  refine ⟨fun w' => rfl, fun w' hw => ?_⟩
  refine run_firstCells_some w' 1 _ _ l.length c (vbytes l) (by simp [vbytes]) fun j v hj => ?_
  have ha : (⟨b, 0, none⟩ : Addr).add j = ⟨b, j, none⟩ := by unfold Addr.add; split <;> simp_all
  rw [ha]
  simp only [vbytes, List.getElem?_map, Option.map_eq_some_iff] at hj
  obtain ⟨c, hc, rfl⟩ := hj
  have := h.cell hc
  simpa [World.cell?, hw] using this
/-- Cells written over. -/
theorem run_stores' {P : Program} (b el : Nat) (fr : Nat × Nat) : ∀ (vs : List Value) (off i : Nat) (w : World) (arr : Array Value), w.heap[b]? = some (.cells arr el fr) → off + i + vs.length ≤ arr.size →
    (∀ i, i < arr.size → ¬ (fr.1 ≤ i ∧ i < fr.2)) → (∀ v ∈ vs, v.oneCell' = true) →
    ∃ w' arr', (storeCells ⟨b, off, none⟩ vs i).run P w = .ok () w' ∧ w'.heap[b]? = some (.cells arr' el fr) ∧ arr'.size = arr.size ∧ (∀ j, arr'[j]? = if off + i ≤ j ∧ j < off + i + vs.length then vs[j - (off + i)]? else arr[j]?) ∧
      (∀ k, k ≠ b → w'.heap[k]? = w.heap[k]?) ∧ w'.heap.size = w.heap.size ∧ w'.os = w.os ∧ w'.tape = w.tape ∧ w'.output = w.output
  | [], off, i, w, arr, hb, _, _, _ => ⟨w, arr, rfl, hb, rfl, fun j => by rw [if_neg (by simp <;> omega)], fun _ _ => rfl, rfl, rfl, rfl, rfl⟩
  | v :: vs, off, i, w, arr, hb, hl, hf, h1 => by
    simp only [List.length_cons] at hl
    have hcell : w.cell? ⟨b, off + i, none⟩ = some arr[off + i] := by simp [World.cell?, hb]
    have hfz : w.frozen? ⟨b, off + i, none⟩ = false := by
      simp only [World.frozen?, hb]
      have := hf (off + i) (by omega)
      cases h : decide (fr.1 ≤ off + i) && decide (off + i < fr.2)
      · rfl
      · simp at h; exact absurd h this
    have hb1 : (w.setCell ⟨b, off + i, none⟩ v).heap[b]? = some (.cells (arr.setIfInBounds (off + i) v) el fr) := by
      simp [World.setCell, Array.getElem?_modify, hb]
    obtain ⟨w', arr', e1, e2, e3, e4, e5, e6, e7, e8, e9⟩ := run_stores' b el fr vs off (i + 1) (w.setCell ⟨b, off + i, none⟩ v) (arr.setIfInBounds (off + i) v) hb1 (by simp; omega) (by simpa using hf) (fun u hu => h1 u (by simp [hu]))
    refine ⟨w', arr', ?_, e2, by simpa using e3, fun j => ?_, fun k hk => ?_, by simpa using e6, e7, e8, e9⟩
    · unfold storeCells
      simp only [Sem.run_bind]
      rw [add_off, run_store P w _ v .plain (h1 v (by simp)), hcell]
      simp only [hfz, Bool.false_eq_true, if_false, Result.andThen_ok]
      exact e1
    · rw [e4 j, Array.getElem?_setIfInBounds]
      simp only [List.length_cons]
      by_cases c1 : off + (i + 1) ≤ j ∧ j < off + (i + 1) + vs.length
      · rw [if_pos c1, if_pos (by omega), show j - (off + i) = (j - (off + (i + 1))) + 1 from by omega, List.getElem?_cons_succ]
      · rw [if_neg c1]
        by_cases c2 : off + i = j
        · rw [if_pos c2, if_pos (by omega), if_pos (by omega), show j - (off + i) = 0 from by omega]; rfl
        · rw [if_neg c2, if_neg (by omega)]
    · rw [e5 k hk]
      simp only [World.setCell, Array.getElem?_modify]
      rw [if_neg (by omega)]
theorem run_append_row {P : Program} {ts : Array TypeId} {ty t u : TypeId} {d : TypeDesc} {i : TypeInfo} {w : World} {b cap B : Nat} {l m : List UInt8} {v : Value}
    (h0 : ts[0]? = some t) (h1 : ts[1]? = some u) (ht : P.underlying t = some (.slice 5)) (hu : P.underlying u = some d) (hd : ∀ k, d ≠ .int k)
    (hi : P.info? 5 = some i) (hz0 : i.zero = some (.int .u8 0)) (hz1 : i.size = 1) (hz2 : i.bytes = 1)
    (hr : RowB 5 w b cap l) (hs : Src P w v m) (hB : B ≤ b) (hcap : cap ≤ 9223372036854775807) (hbd : l.length + m.length ≤ 1000000) :
    ∃ b' cap' w', (Builtin.append_ ts ty #[.slice (some ⟨b, 0, none⟩) l.length cap, v]).run P w = .ok (.slice (some ⟨b', 0, none⟩) (l.length + m.length) cap') w' ∧
      RowB 5 w' b' cap' (l ++ m) ∧ Below B w w' ∧ B ≤ b' ∧ cap' ≤ 9223372036854775807 ∧ l.length + m.length ≤ cap' := by
  have hr0 := hr
  obtain ⟨arr, lo, hi', hh, hmk, hsz, hle, hat⟩ := hr
  have hb : b < w.heap.size := (Array.getElem?_eq_some_iff.1 hh).1
  have hsrc := hs.read
  rw [← hz1] at hsrc
  by_cases hfit : l.length + m.length ≤ cap
  · have hrun := append_fits (P := P) (w := w) (ty := ty) (base := some ⟨b, 0, none⟩) (sLen := l.length) (sCap := cap) h0 h1 ht hu hd hi hs.len (hsrc w rfl) hfit
    have hadd : (⟨b, 0, none⟩ : Addr).add (l.length * i.size) = ⟨b, l.length, none⟩ := by
      rw [hz1]; unfold Addr.add; split <;> simp_all
    obtain ⟨w', arr', e1, e2, e3, e4, e5, e6, e7, e8, e9⟩ := run_stores' b 5 (lo, hi') (P := P) (vbytes m) l.length 0 w arr hh (by simp [vbytes]; omega) (fun j hj hc => by
        simp only at hc
        omega) (by simp [vbytes, Value.oneCell'])
    simp only [hadd, e1, Result.andThen_ok] at hrun
    refine ⟨b, cap, w', hrun, ⟨arr', lo, hi', e2, hmk, e3.trans hsz, by simpa using hfit, fun j c hj => ?_⟩, ⟨e7, e8, e9, by omega, fun k hk => e5 k (by omega)⟩, hB, hcap, hfit⟩
    rw [e4 j]
    have hjl := (List.getElem?_eq_some_iff.1 hj).1
    simp at hjl
    by_cases hlt : j < l.length
    · rw [if_neg (by omega)]
      rw [List.getElem?_append_left hlt] at hj
      exact hat j c hj
    · rw [if_pos (by simp [vbytes]; omega)]
      rw [List.getElem?_append_right (by omega)] at hj
      simp only [vbytes, List.getElem?_map, Nat.add_zero, hj, Option.map_some]
  · have hold := (Src.row (P := P) (c := cap) hr0).read
    rw [← hz1] at hold
    have hrun := append_grows (P := P) (w := w) (ty := ty) (base := some ⟨b, 0, none⟩) (sLen := l.length) (sCap := cap) (us := vbytes l) h0 h1 ht hu hd hi hz0 hs.len (hsrc w.drew rfl) (hold w.drew rfl) (by omega) (by rw [hz2]; omega) (by omega)
    have hge := grownCap_ge w (l.length + m.length) cap 5
    have hmx := grownCap_le_maxLen w (l.length + m.length) cap 5 (by unfold maxLen; omega)
    unfold maxLen at hmx
    refine ⟨w.heap.size, _, _, hrun, ⟨_, 0, 0, heap_alloc_new w.drew _, .inr rfl, ?_, by simpa using hge, fun j c hj => ?_⟩, (Below.refl _ _).drew.alloc (by show B ≤ w.heap.size; omega) _, by omega, by omega, hge⟩
    · simp [vbytes, Builtin.zeroCells, Value.cells]
      omega
    · have hjl := (List.getElem?_eq_some_iff.1 hj).1
      simp at hjl
      have e : (vbytes l).toArray ++ (vbytes m).toArray = (vbytes (l ++ m)).toArray := by simp [vbytes]
      rw [e, Array.getElem?_append_left (by simp [vbytes]; omega), List.getElem?_toArray]
      simp only [vbytes, List.getElem?_map, hj, Option.map_some]
end Go.Rb
