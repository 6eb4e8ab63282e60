/- Contract of the disk's write: the undo list, the map. -/
import Derived.Test.YtfpgobbkeocokaaDc
import Derived.Deep.RegionHeld3
namespace Go.Proofs.Ytfpgobbkeocokaa
open Go.RowKit Go.Mp Go.Rb Go.Lib
def befCells (e : ByteArray × Value) : List Value := [.string e.1, e.2]
/-- The undo list. -/
def UndoAt (w : World) (B : Nat) (p : Option Addr) (cap : Nat) (U : List (ByteArray × Value)) : Prop := w.ownsRow B 85 2 (.slice p U.length cap) U.length (U.flatMap befCells)
theorem infoBef : (Try.prog.info? 85).map (fun i => (i.zero, i.size, i.bytes)) = some (some (.agg #[.string ⟨#[]⟩, .slice none 0 0]), 2, 40) := by kernel_rfl
theorem info_parts' {x : Option TypeInfo} {z : Option Value} {n m : Nat} (h : x.map (fun i => (i.zero, i.size, i.bytes)) = some (z, n, m)) : ∃ i, x = some i ∧ i.zero = z ∧ i.size = n ∧ i.bytes = m := by
  cases x with
  | none => cases h
  | some i => simp at h; exact ⟨i, rfl, h.1, h.2.1, h.2.2⟩
theorem new_cells2 (w : World) (x y : Value) (e : TypeId) : ∀ j q, [x, y][j]? = some q → (w.alloc (.cells #[x, y] e)).cell? ((⟨w.heap.size, 0, none⟩ : Addr).add j) = some q := by
  intro j q hj
  have ha : (⟨w.heap.size, 0, none⟩ : Addr).add j = ⟨w.heap.size, j, none⟩ := by unfold Addr.add; split <;> simp_all
  rw [ha, World.cell?_alloc_new]
  simpa using hj
/-- What write leaves. -/
def WriteR (w : World) (b B K : Nat) (c : Value × Value × Value × Value × Value) (mp : Option Nat) (D : DataW Value) (syn : Nat) (U : List (ByteArray × Value)) (p : Option Addr) (s : ByteArray) (v : Value) (e : Ending) (w' : World) : Prop :=
  e = .returned (.tuple #[]) ∧ ∃ g cap' m', WD w' b c (some m') syn (.slice (some ⟨g, 0, none⟩) (U.length + 1) cap') ∧ UndoAt w' B (some ⟨g, 0, none⟩) cap' (U ++ [(s, valOf D s)]) ∧ MapD w' B (K + 1) (some m') (D.put (keyL s) (.held v)) ∧
    ((∃ q, p = some q ∧ g = q.block) ∨ w.heap.size ≤ g) ∧ (mp = some m' ∨ w.heap.size ≤ m') ∧ w'.os = w.os ∧ w'.tape = w.tape ∧ w'.output = w.output ∧ w.heap.size ≤ w'.heap.size ∧
    ∀ k, k < w.heap.size → k ≠ b → mp ≠ some k → (∀ q, p = some q → k ≠ q.block) → w'.heap[k]? = w.heap[k]?
set_option maxHeartbeats 4000000 in
set_option maxRecDepth 100000 in
theorem write_some (b B K m : Nat) (c : Value × Value × Value × Value × Value) (D : DataW Value) (syn : Nat) (U : List (ByteArray × Value)) (p : Option Addr) (cap : Nat) (s : ByteArray) (a1 : Option Addr) (n1 c1 : Nat) (w : World)
    (hwd : WD w b c (some m) syn (.slice p U.length cap)) (hB : B ≤ b) (hmap : MapD w B K (some m) D) (hK : K ≤ 1000000) (hun : UndoAt w B p cap U) (hU : U.length ≤ 100000) (hs : s.size ≤ maxLen) (hne : ∀ q, p = some q → q.block ≠ b ∧ q.block ≠ m) (hbm : b ≠ m) :
    Calls Try.prog 47 #[.pointer (some ⟨b, 5, none⟩), .string s, .slice a1 n1 c1] w (WriteR w b B K c (some m) D syn U p s (.slice a1 n1 c1)) := by
  obtain ⟨N, hBm, hom, hN⟩ : ∃ N, B ≤ m ∧ w.ownsMap Try.prog 9 R33 m N D ∧ N ≤ K := by
    rcases hmap with ⟨e, _⟩ | ⟨m', N, e, h1, h2, h3⟩
    · cases e
    · cases e; exact ⟨N, h1, h2, h3⟩
  have hbl := hwd.lt
  have hml := hom.lt
  have hpl : ∀ q, p = some q → B ≤ q.block ∧ q.block < w.heap.size := fun q e => by subst e; exact World.ownsRow.lt hun q.block rfl
  have HWD := Lib.hid hwd
  have HUn := Lib.hid hun
  have HOm := Lib.hid hom
  have k7 := hwd.c7
  have k5 := hwd.c5
  have f7 := hwd.free 7
  have hlk : (Instr.lookup 59 (.map (some m)) (.string s) false).run Try.prog w.drew = .ok (valOf D s) w.drew := (hmap.same (w' := w.drew) (fun _ _ => rfl)).lookup s hs
  obtain ⟨ib, hi, hz0, hz1, hz2⟩ := info_parts' infoBef
  obtain ⟨a0, n0, c0, hv0⟩ := hmap.shape s hs
  rw [hv0] at hlk
  have HV0 := Lib.hid hv0
  have k7b : (w.alloc (.cells #[.string s, .slice a0 n0 c0] 85)).cell? ⟨b, 7, none⟩ = some (.slice p U.length cap) := (hwd.same (w' := w.alloc _) (by show (w.heap.push _)[b]? = _; rw [Array.getElem?_push, if_neg (by omega)])).c7
  have hsz : (w.alloc (.cells #[.string s, .slice a0 n0 c0] 85)).heap.size = w.heap.size + 1 := by show (w.heap.push _).size = _; simp
  have HSz := Lib.hid hsz
  have HBlk : Hid (∀ k, k < w.heap.size → (w.alloc (.cells #[.string s, .slice a0 n0 c0] 85)).heap[k]? = w.heap[k]?) := Lib.hid (fun k hk => by show (w.heap.push _)[k]? = _; rw [Array.getElem?_push, if_neg (by omega)])
  have eqm : ∀ W : World, (binOp .eql 59 (.map (some m)) (.map none)).run Try.prog W = .ok (.bool false) W := fun W => eql_map 59 _ _ (some m) Try.underlying59 W
  clear hwd hmap hun hom hv0 hsz
  go_enter Try.func47, Try.ntmps47
  go_wp2
  go_region_law (refine step_append_lies _ (by rfl) _ _ _ (by rfl) B 85 ib (.agg #[.string ⟨#[]⟩, .slice none 0 0]) 2 40 Try.underlying60 hi hz0 hz1 hz2 rfl (by decide) (.slice p U.length cap) U.length (U.flatMap befCells) (by rfl) (World.ownsRow.alloc HUn.out _) ⟨w.heap.size, 0, none⟩ 1 1 [.string s, .slice a0 n0 c0] (by rfl) rfl (new_cells2 _ _ _ _) (by simp [Value.oneCell']) (by decide) (by unfold maxLen; omega) (by omega) (by show B ≤ (w.heap.push _).size; simp; omega) (w.heap.size + 1) (by show (w.heap.push _).size = _; simp) ?_; intro g4 cap4 w4 hown4 hg4 hat4 hlt4; have HBlk4 : Hid (∀ k, k < w.heap.size → (∀ q, p = some q → k ≠ q.block) → w4.heap[k]? = w.heap[k]?) := Lib.hid (fun k hk hq => (hg4.block k (by show k < (w.heap.push _).size; simp; omega) (fun e => by cases p with | none => cases e | some q => exact hq q rfl (Option.some.inj e))).trans (HBlk.out k hk)); have HW4 : Hid (WD w4 b c (some m) syn (.slice p U.length cap)) := Lib.hid (HWD.out.same (HBlk4.out b hbl (fun q e => (hne q e).1.symm))); have HOm4 : Hid (w4.ownsMap Try.prog 9 R33 m N D) := Lib.hid (by obtain ⟨es, clock, h1, h2⟩ := HOm.out; exact ⟨es, clock, (HBlk4.out m hml (fun q e => (hne q e).2.symm)).trans h1, h2⟩); have hf4 := HW4.out.free 7; have hc4 := HW4.out.c7)
  all_goals
    have HG4 := Lib.hid hg4
    have HO4 := Lib.hid hown4
    have HA4 := Lib.hid hat4
    have hs4 : w.heap.size + 1 ≤ w4.heap.size := by have := hg4.size; rw [← HSz.out]; exact this
    have HW5 : Hid (WD (w4.setCell ⟨b, 7, none⟩ (.slice (some ⟨g4, 0, none⟩) (U.length + 1) cap4)) b c (some m) syn (.slice (some ⟨g4, 0, none⟩) (U.length + 1) cap4)) := Lib.hid (HW4.out.set7 _)
    have HOm5 : Hid ((w4.setCell ⟨b, 7, none⟩ (.slice (some ⟨g4, 0, none⟩) (U.length + 1) cap4)).ownsMap Try.prog 9 R33 m N D) := Lib.hid (HOm4.out.setCell (fun e => hbm e.symm) _)
    have hgb : g4 ≠ b := by
      rcases hat4 with h | h
      · cases p with
        | none => cases h
        | some q => exact fun e => (hne q rfl).1 ((Option.some.inj h).trans e)
      · omega
    have hgm : g4 ≠ m := by
      rcases hat4 with h | h
      · cases p with
        | none => cases h
        | some q => exact fun e => (hne q rfl).2 ((Option.some.inj h).trans e)
      · omega
    have HO5 : Hid ((w4.setCell ⟨b, 7, none⟩ (.slice (some ⟨g4, 0, none⟩) (U.length + 1) cap4)).ownsRow B 85 2 (.slice (some ⟨g4, 0, none⟩) (U.length + 1) cap4) (U.length + 1) (U.flatMap befCells ++ [.string s, .slice a0 n0 c0])) := Lib.hid (by
      obtain ⟨h1, h2⟩ := hown4
      refine ⟨h1, ?_⟩
      rcases h2 with h2 | ⟨g, cap, cur, e, r1, r2, r3⟩
      · exact .inl h2
      · cases e
        exact .inr ⟨g4, cap4, cur, rfl, r1, (heap_setCell_ne _ _ _ _ _ hgb).trans r2, r3⟩)
    have hs5 : (w4.setCell ⟨b, 7, none⟩ (.slice (some ⟨g4, 0, none⟩) (U.length + 1) cap4)).heap.size = w4.heap.size := size_setCell' _ _ _
    have HF5 : Hid (∀ k, k < w.heap.size → k ≠ b → (∀ q, p = some q → k ≠ q.block) → (w4.setCell ⟨b, 7, none⟩ (.slice (some ⟨g4, 0, none⟩) (U.length + 1) cap4)).heap[k]? = w.heap[k]?) := Lib.hid (fun k hk hkb hq => (heap_setCell_ne _ _ _ _ _ hkb).trans (HBlk4.out k hk hq))
    have ho5 : (w4.setCell ⟨b, 7, none⟩ (.slice (some ⟨g4, 0, none⟩) (U.length + 1) cap4)).os = w.os ∧ (w4.setCell ⟨b, 7, none⟩ (.slice (some ⟨g4, 0, none⟩) (U.length + 1) cap4)).tape = w.tape ∧ (w4.setCell ⟨b, 7, none⟩ (.slice (some ⟨g4, 0, none⟩) (U.length + 1) cap4)).output = w.output := ⟨hg4.os, hg4.tape, hg4.output⟩
    clear hg4 hown4 hat4 hf4 hc4
    generalize w4.setCell ⟨b, 7, none⟩ (.slice (some ⟨g4, 0, none⟩) (U.length + 1) cap4) = w5 at *
    have k5' := HW5.out.c5
    go_wp2_with (at_mapUpdate; refine wpList_mapUpdate_own _ rfl _ _ _ 59 rfl 9 33 law9 Try.underlying59 R33 m N D rfl HOm5.out (by unfold maxLen; omega) (.string s) (.slice a1 n1 c1) (keyL s) rfl rfl (Go.WideMaps.keyOf_string_mk Try.underlying9 hs) (.held (.slice a1 n1 c1)) [] rfl ?_; intro w6 hom6 hg6)
    go_end0
    have hl5 : g4 < w5.heap.size := (World.ownsRow.lt HO5.out g4 rfl).2
    refine ⟨rfl, g4, cap4, m, HW5.out.same (hg6.block b (by have := HW5.out.lt; exact this) (fun e => hbm (Option.some.inj e))), ?_, .inr ⟨m, N + 1, rfl, hBm, hom6, by omega⟩, ?_, .inl rfl, hg6.os.trans ho5.1, hg6.tape.trans ho5.2.1, hg6.output.trans ho5.2.2, by have := hg6.size; omega, fun k hk hkb hkm hq => (hg6.block k (by omega) (fun e => hkm e.symm)).trans (HF5.out k hk hkb hq)⟩
    · unfold UndoAt
      rw [List.length_append, List.flatMap_append, HV0.out]
      exact HO5.out.kept hg6 (.inr (fun e => hgm (Option.some.inj e)))
    · rcases HA4.out with h | h
      · cases p with
        | none => cases h
        | some q => exact .inl ⟨q, rfl, (Option.some.inj h).symm⟩
      · exact .inr (by omega)
end Go.Proofs.Ytfpgobbkeocokaa
