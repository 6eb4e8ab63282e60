/- Contracts: the registry's Put (no map yet; nothing), Get, Names. -/
import Derived.Test.YtpdkjifalgeodaaSf
import Derived.Test.YtpdkjifalgeodaaShelf
import Derived.Test.YtpdkjifalgeodaaAt
import Derived.Carry
namespace Go.Proofs.Ytpdkjifalgeodaa
open Go.RowKit Go.Extern.Stop Go.Stop Go.Extern Go.Lib Go.Tx
open Go.Maps (Keyed)
open Go.Proofs (encStr)
set_option maxHeartbeats 1000000 in
set_option maxRecDepth 100000 in
theorem put_none (d : DefL) (w : World) (K r : Nat) (D : DataW Value) (h : RegAt w K r none D) (hne : d.label.data.toList ≠ []) (hl : d.label.size ≤ maxLen) :
    Calls Try.prog 20 #[.pointer (some ⟨r, 0, none⟩), srcV d] w fun e w' => e = .returned (.tuple #[]) ∧ ∃ m, w.heap.size ≤ m ∧ RegAt w' (K + 1) r (some m) (D.put (keyS d.label) (.held (srcV d))) ∧ ButL w.heap.size [r] w w' := by
  obtain rfl : D = .map [] := by
    rcases h.map with ⟨_, e⟩ | ⟨m, n, e, _⟩
    · exact e
    · cases e
  have HN := Lib.hid (nameOf_any d w)
  have HR := Lib.hid h
  have HL := Lib.hid hl
  obtain ⟨t, ht⟩ := srcV_iface d
  rw [ht] at HN ⊢
  have q1 := noName hne
  have q2 := mapN
  have hmm := @run_makeMap Try.prog
  clear h hl hne
  generalize d.label = lb at *
  generalize defV d = v at *
  clear ht d
  go_enter Try.func20, Try.ntmps20
  go_upto_region 4 with (first | (go_at_call 38; refine HN.out.mono ?_; rintro e w2 ⟨rfl, hb⟩; have hr2 := HR.out.below hb; have k2 := cell1 hr2.cell; have f2 := freeJ hr2.cell 0; have k3 := cell1 (al_keep (x := .map #[] 0) hr2.cell); have f3 := freeJ (al_keep (x := .map #[] 0) hr2.cell) 0; have HB := Lib.hid hb; have HR2 := Lib.hid hr2; clear hb hr2))
  clear q2 k2 f2 k3 f3 hmm
  obtain ⟨w3, hw3⟩ : ∃ W, (w2.alloc (.map #[] 0)).setCell ⟨r, 0, none⟩ (.map (some w2.heap.size)) = W := ⟨_, rfl⟩
  rw [hw3]
  have hrl : r < w2.heap.size := lt_of HR2.out.cell
  have hne : w2.heap.size ≠ r := by omega
  have hc3 : w3.heap[r]? = some (.cells #[.map (some w2.heap.size)] 98 (0, 0)) := by rw [← hw3]; exact set1 (al_keep HR2.out.cell)
  have k3 := cell1 hc3
  have HO3 : Hid (w3.ownsMap Try.prog 9 R39 w2.heap.size 0 (.map [])) := Lib.hid (by rw [← hw3]; exact (World.ownsMap_made w2 Try.prog 9 R39).setCell (a := ⟨r, 0, none⟩) hne _)
  have HB3 : Hid (ButL w.heap.size [r] w w3) := Lib.hid (by rw [← hw3]; exact ((ButL.of_below HB.out).alloc HB.out.size _).set (.inl (List.mem_singleton.2 rfl)) _ _)
  have HC3 := Lib.hid hc3
  have HS3 : Hid (w3.heap.size = w2.heap.size + 1) := Lib.hid (by rw [← hw3, set_size, al_size])
  have HLe : Hid (w.heap.size ≤ w2.heap.size) := Lib.hid HB.out.size
  generalize w2.heap.size = m at *
  clear hw3 hc3
  have HNe := Lib.hid hne
  clear hne hrl
  go_wp2_with (at_mapUpdate; refine wpList_mapUpdate_own _ rfl _ _ _ 96 rfl 9 39 keyed9 Try.underlying96 R39 m 0 (.map []) rfl HO3.out (by decide) (.string lb) (.iface t v) (keyS lb) rfl rfl (Go.WideMaps.keyOf_string_mk Try.underlying9 HL.out) (.held (.iface t v)) [] rfl ?_; intro w4 hom4 hg4; have HO4 := Lib.hid hom4; have HG4 := Lib.hid hg4; clear hom4 hg4)
  go_end0
  exact ⟨rfl, m, HLe.out, ⟨(HG4.out.block r (lt_of HC3.out) (fun e => HNe.out (by cases e; rfl))).trans HC3.out, .inr ⟨m, 1, rfl, HNe.out, by omega, HO4.out⟩⟩, HB3.out.grown HG4.out (by have := HS3.out; have := HLe.out; omega) (.inr HLe.out)⟩
set_option maxHeartbeats 1000000 in
set_option maxRecDepth 100000 in
theorem put_skip (s : Value) (hs : s = .nilIface ∨ ∃ t x, s = .iface t x) (w : World) (r : Nat) (HN : Calls Try.prog 38 #[s] w fun e w' => e = .returned (.string ⟨#[]⟩) ∧ Below w.heap.size w w') :
    Calls Try.prog 20 #[.pointer (some ⟨r, 0, none⟩), s] w fun e w' => e = .returned (.tuple #[]) ∧ Below w.heap.size w w' := by
  have HN := Lib.hid HN
  rcases hs with rfl | ⟨t, x, rfl⟩
  all_goals
    go_enter Try.func20, Try.ntmps20
    go_wp2_with (go_at_call 38; refine HN.out.mono ?_; rintro e w2 ⟨rfl, hb⟩; have HB := Lib.hid hb; clear hb)
    refine bodyPost_ret (results_none rfl _ _ _) rfl ?_
    exact ⟨rfl, HB.out⟩
end Go.Proofs.Ytpdkjifalgeodaa
