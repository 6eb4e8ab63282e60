/- Contract of the disk's write, where no file is there yet. -/
import Derived.Test.YtfpgobbkeocokaaDd
import Derived.Deep.CutRange
namespace Go.Proofs.Ytfpgobbkeocokaa
open Go.RowKit Go.Mp Go.Rb Go.Lib
set_option maxHeartbeats 4000000 in
set_option maxRecDepth 100000 in
theorem write_none (b B K : Nat) (c : Value × Value × Value × Value × Value) (D : DataW Value) (syn : Nat) (U : List (ByteArray × Value)) (p : Option Addr) (cap : Nat) (s : ByteArray) (a1 : Option Addr) (n1 c1 : Nat) (w : World)
    (hwd : WD w b c none syn (.slice p U.length cap)) (hB : B ≤ b) (hmap : MapD w B K none D) (hK : K ≤ 1000000) (hun : UndoAt w B p cap U) (hU : U.length ≤ 100000) (hs : s.size ≤ maxLen) (hne : ∀ q, p = some q → q.block ≠ b) (hBs : B ≤ w.heap.size) :
    Calls Try.prog 47 #[.pointer (some ⟨b, 5, none⟩), .string s, .slice a1 n1 c1] w (WriteR w b B K c none D syn U p s (.slice a1 n1 c1)) := by
  obtain rfl : D = .map [] := by
    rcases hmap with ⟨_, e⟩ | ⟨m', N, e, h1, h2, h3⟩
    · exact e
    · cases e
  have hbl := hwd.lt
  have hpl : ∀ q, p = some q → B ≤ q.block ∧ q.block < w.heap.size := fun q e => by subst e; exact World.ownsRow.lt hun q.block rfl
  have HWD := Lib.hid hwd
  have HUn := Lib.hid hun
  have k7 := hwd.c7
  have k5 := hwd.c5
  have f7 := hwd.free 7
  have hlk : (Instr.lookup 59 (.map none) (.string s) false).run Try.prog w.drew = .ok (valOf (.map [] : DataW Value) s) w.drew := (hmap.same (w' := w.drew) (fun _ _ => rfl)).lookup s hs
  obtain ⟨ib, hi, hz0, hz1, hz2⟩ := info_parts' infoBef
  obtain ⟨a0, n0, c0, hv0⟩ := hmap.shape s hs
  rw [hv0] at hlk
  have HV0 := Lib.hid hv0
  have k7b : (w.alloc (.cells #[.string s, .slice a0 n0 c0] 85)).cell? ⟨b, 7, none⟩ = some (.slice p U.length cap) := (hwd.same (w' := w.alloc _) (by show (w.heap.push _)[b]? = _; rw [Array.getElem?_push, if_neg (by omega)])).c7
  have hsz : (w.alloc (.cells #[.string s, .slice a0 n0 c0] 85)).heap.size = w.heap.size + 1 := by show (w.heap.push _).size = _; simp
  have HSz := Lib.hid hsz
  have HBlk : Hid (∀ k, k < w.heap.size → (w.alloc (.cells #[.string s, .slice a0 n0 c0] 85)).heap[k]? = w.heap[k]?) := Lib.hid (fun k hk => by show (w.heap.push _)[k]? = _; rw [Array.getElem?_push, if_neg (by omega)])
  have hmm := @run_makeMap Try.prog
  have eqm : ∀ W : World, (binOp .eql 59 (.map none) (.map none)).run Try.prog W = .ok (.bool true) W := fun W => eql_map 59 _ _ none Try.underlying59 W
  clear hwd hmap hun hv0 hsz
  go_enter Try.func47, Try.ntmps47
  go_wp2
  go_region_law (refine step_append_lies _ (by rfl) _ _ _ (by rfl) B 85 ib (.agg #[.string ⟨#[]⟩, .slice none 0 0]) 2 40 Try.underlying60 hi hz0 hz1 hz2 rfl (by decide) (.slice p U.length cap) U.length (U.flatMap befCells) (by rfl) (World.ownsRow.alloc HUn.out _) ⟨w.heap.size, 0, none⟩ 1 1 [.string s, .slice a0 n0 c0] (by rfl) rfl (new_cells2 _ _ _ _) (by simp [Value.oneCell']) (by decide) (by unfold maxLen; omega) (by omega) (by show B ≤ (w.heap.push _).size; simp; omega) (w.heap.size + 1) (by show (w.heap.push _).size = _; simp) ?_; intro g4 cap4 w4 hown4 hg4 hat4 hlt4; have HBlk4 : Hid (∀ k, k < w.heap.size → (∀ q, p = some q → k ≠ q.block) → w4.heap[k]? = w.heap[k]?) := Lib.hid (fun k hk hq => (hg4.block k (by show k < (w.heap.push _).size; simp; omega) (fun e => by cases p with | none => cases e | some q => exact hq q rfl (Option.some.inj e))).trans (HBlk.out k hk)); have HW4 : Hid (WD w4 b c none syn (.slice p U.length cap)) := Lib.hid (HWD.out.same (HBlk4.out b hbl (fun q e => (hne q e).symm))); have hf4 := HW4.out.free 7; have hc4 := HW4.out.c7)
  all_goals
    have HG4 := Lib.hid hg4
    have HO4 := Lib.hid hown4
    have HA4 := Lib.hid hat4
    have hs4 : w.heap.size + 1 ≤ w4.heap.size := by have := hg4.size; rw [← HSz.out]; exact this
    have HW5 : Hid (WD (w4.setCell ⟨b, 7, none⟩ (.slice (some ⟨g4, 0, none⟩) (U.length + 1) cap4)) b c none syn (.slice (some ⟨g4, 0, none⟩) (U.length + 1) cap4)) := Lib.hid (HW4.out.set7 _)
    have hgb : g4 ≠ b := by
      rcases hat4 with h | h
      · cases p with
        | none => cases h
        | some q => exact fun e => (hne q rfl) ((Option.some.inj h).trans e)
      · omega
    have HO5 : Hid ((w4.setCell ⟨b, 7, none⟩ (.slice (some ⟨g4, 0, none⟩) (U.length + 1) cap4)).ownsRow B 85 2 (.slice (some ⟨g4, 0, none⟩) (U.length + 1) cap4) (U.length + 1) (U.flatMap befCells ++ [.string s, .slice a0 n0 c0])) := Lib.hid (by
      obtain ⟨h1, h2⟩ := hown4
      refine ⟨h1, ?_⟩
      rcases h2 with h2 | ⟨g, cap, cur, e, r1, r2, r3⟩
      · exact .inl h2
      · cases e
        exact .inr ⟨g4, cap4, cur, rfl, r1, (heap_setCell_ne _ _ _ _ _ hgb).trans r2, r3⟩)
    have hs5 : (w4.setCell ⟨b, 7, none⟩ (.slice (some ⟨g4, 0, none⟩) (U.length + 1) cap4)).heap.size = w4.heap.size := size_setCell' _ _ _
    have HF5 : Hid (∀ k, k < w.heap.size → k ≠ b → (∀ q, p = some q → k ≠ q.block) → (w4.setCell ⟨b, 7, none⟩ (.slice (some ⟨g4, 0, none⟩) (U.length + 1) cap4)).heap[k]? = w.heap[k]?) := Lib.hid (fun k hk hkb hq => (heap_setCell_ne _ _ _ _ _ hkb).trans (HBlk4.out k hk hq))
    have ho5 : (w4.setCell ⟨b, 7, none⟩ (.slice (some ⟨g4, 0, none⟩) (U.length + 1) cap4)).os = w.os ∧ (w4.setCell ⟨b, 7, none⟩ (.slice (some ⟨g4, 0, none⟩) (U.length + 1) cap4)).tape = w.tape ∧ (w4.setCell ⟨b, 7, none⟩ (.slice (some ⟨g4, 0, none⟩) (U.length + 1) cap4)).output = w.output := ⟨hg4.os, hg4.tape, hg4.output⟩
    clear hg4 hown4 hat4 hf4 hc4
    generalize w4.setCell ⟨b, 7, none⟩ (.slice (some ⟨g4, 0, none⟩) (U.length + 1) cap4) = w5 at *
    have HS5 := Lib.hid hs5
    clear hs5
    have k5' := HW5.out.c5
    have k5a : (w5.alloc (.map #[] 0)).cell? ⟨b, 5, none⟩ = some (.map none) := (HW5.out.same (w' := w5.alloc (.map #[] 0)) (heap_alloc_lt _ _ _ HW5.out.lt)).c5
    have f5a : (w5.alloc (.map #[] 0)).frozen? ⟨b, 5, none⟩ = false := (HW5.out.same (w' := w5.alloc (.map #[] 0)) (heap_alloc_lt _ _ _ HW5.out.lt)).free 5
    have f5' := HW5.out.free 5
    have hl5 : g4 < w5.heap.size := (World.ownsRow.lt HO5.out g4 rfl).2
    have hlb5 := HW5.out.lt
    have hsS : (w5.setCell ⟨b, 5, none⟩ (.map (some w5.heap.size))).heap.size = w5.heap.size := size_setCell' _ _ _
    have hsz6 : ((w5.setCell ⟨b, 5, none⟩ (.map (some w5.heap.size))).alloc (.map #[] 0)).heap.size = w5.heap.size + 1 := by show (Array.push _ _).size = _; rw [Array.size_push, hsS]
    have HOm6 : Hid (((w5.setCell ⟨b, 5, none⟩ (.map (some w5.heap.size))).alloc (.map #[] 0)).ownsMap (H := Value) Try.prog 9 R33 w5.heap.size 0 (.map [])) := Lib.hid (by
      have := World.ownsMap_made (H := Value) (w5.setCell ⟨b, 5, none⟩ (.map (some w5.heap.size))) Try.prog 9 R33
      rw [hsS] at this
      exact this)
    have HW6 : Hid (WD ((w5.setCell ⟨b, 5, none⟩ (.map (some w5.heap.size))).alloc (.map #[] 0)) b c (some w5.heap.size) syn (.slice (some ⟨g4, 0, none⟩) (U.length + 1) cap4)) := Lib.hid ((HW5.out.set5 _).same (heap_alloc_lt _ _ _ (by rw [hsS]; exact hlb5)))
    have HF6 : Hid (∀ k, k < w5.heap.size → k ≠ b → ((w5.setCell ⟨b, 5, none⟩ (.map (some w5.heap.size))).alloc (.map #[] 0)).heap[k]? = w5.heap[k]?) := Lib.hid (fun k hk hkb => (heap_alloc_lt _ _ _ (by rw [hsS]; exact hk)).trans (heap_setCell_ne _ _ _ _ _ hkb))
    have ho6 : ((w5.setCell ⟨b, 5, none⟩ (.map (some w5.heap.size))).alloc (.map #[] 0)).os = w5.os ∧ ((w5.setCell ⟨b, 5, none⟩ (.map (some w5.heap.size))).alloc (.map #[] 0)).tape = w5.tape ∧ ((w5.setCell ⟨b, 5, none⟩ (.map (some w5.heap.size))).alloc (.map #[] 0)).output = w5.output := ⟨rfl, rfl, rfl⟩
    have HS6 := Lib.hid hsz6
    have HO6 : Hid (((w5.setCell ⟨b, 5, none⟩ (.map (some w5.heap.size))).alloc (.map #[] 0)).ownsRow B 85 2 (.slice (some ⟨g4, 0, none⟩) (U.length + 1) cap4) (U.length + 1) (U.flatMap befCells ++ [.string s, .slice a0 n0 c0])) := Lib.hid (by
      obtain ⟨h1, h2⟩ := HO5.out
      refine ⟨h1, ?_⟩
      rcases h2 with h2 | ⟨g, cap, cur, e, r1, r2, r3⟩
      · exact .inl h2
      · cases e
        exact .inr ⟨g4, cap4, cur, rfl, r1, (HF6.out g4 hl5 hgb).trans r2, r3⟩)
    clear hsz6 hsS
    go_upto_region 3 with (fail)
    obtain ⟨mN, hmN⟩ : ∃ q, w5.heap.size = q := ⟨_, rfl⟩
    have hmb : mN ≠ b := by omega
    have hgm : g4 ≠ mN := by omega
    have hmw : w.heap.size ≤ mN := by have := HS5.out; omega
    have hBm : B ≤ mN := by omega
    have HMN := Lib.hid hmN
    rw [hmN] at HOm6 HW6 HO6 HF6 HS6 ho6 ⊢
    clear k5' f5' k5a f5a hlb5 hl5 hmN
    generalize (w5.setCell ⟨b, 5, none⟩ (.map (some mN))).alloc (.map #[] 0) = w6 at *
    have k5' := HW6.out.c5
    go_wp2_with (at_mapUpdate; refine wpList_mapUpdate_own _ rfl _ _ _ 59 rfl 9 33 law9 Try.underlying59 R33 mN 0 (.map []) rfl HOm6.out (by decide) (.string s) (.slice a1 n1 c1) (keyL s) rfl rfl (Go.WideMaps.keyOf_string_mk Try.underlying9 hs) (.held (.slice a1 n1 c1)) [] rfl ?_; intro w7 hom7 hg7)
    go_end0
    refine ⟨rfl, g4, cap4, mN, HW6.out.same (hg7.block b HW6.out.lt (fun e => hmb (Option.some.inj e).symm)), ?_, .inr ⟨mN, 1, rfl, hBm, hom7, by omega⟩, ?_, .inr hmw, hg7.os.trans (ho6.1.trans ho5.1), hg7.tape.trans (ho6.2.1.trans ho5.2.1), hg7.output.trans (ho6.2.2.trans ho5.2.2), by have := hg7.size; have := HS6.out; omega, fun k hk hkb _ hq => (hg7.block k (by have := HS6.out; omega) (fun e => by have := Option.some.inj e; omega)).trans ((HF6.out k (by have := HMN.out; omega) hkb).trans (HF5.out k hk hkb hq))⟩
    · unfold UndoAt
      rw [List.length_append, List.flatMap_append, HV0.out]
      exact HO6.out.kept hg7 (.inr (fun e => hgm (Option.some.inj e)))
    · rcases HA4.out with h | h
      · cases p with
        | none => cases h
        | some q => exact .inl ⟨q, rfl, (Option.some.inj h).symm⟩
      · exact .inr (by omega)
end Go.Proofs.Ytfpgobbkeocokaa
