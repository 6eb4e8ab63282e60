/- Contracts: nameOf; the registry's Put, Get, New. -/
import Derived.Test.YtpdkjifalgeodaaSe
import Derived.Maps.OwnSet
import Derived.StringKeys
import Derived.Lib.Strings
import Derived.Laws.Cover3
namespace Go.Proofs.Ytpdkjifalgeodaa
open Go.RowKit Go.Extern.Stop Go.Stop Go.Extern Go.Lib
open Go.Maps (Keyed)
theorem mfn (fn : Fn) (first cap : Array Value) (w : World) : (Instr.makeFunc fn first cap).run Try.prog w = .ok (.func fn first cap) w := rfl
theorem guard_but {B : Nat} {T S : List Nat} {w W w3 : World} (hB : ButL B T w W) (hBW : B ≤ W.heap.size) (h : ButL (W.alloc gbox).heap.size S (W.alloc gbox) w3) (hS : ∀ b ∈ S, b ∈ T ∨ B ≤ b) (v : Value) : ButL B T w (w3.setCell ⟨W.heap.size, 0, none⟩ v) :=
  ((hB.alloc hBW gbox).but h (by rw [al_size]; omega) hS).set (.inr hBW) _ _
theorem ButL.grown {B : Nat} {S : List Nat} {W w w' : World} {g : Nat} (h : ButL B S W w) (hg : w.grownBy w' (some g)) (hB : B ≤ w.heap.size) (hS : g ∈ S ∨ B ≤ g) : ButL B S W w' :=
  ⟨hg.os.trans h.os, hg.tape.trans h.tape, hg.output.trans h.output, Nat.le_trans h.size hg.size, fun k hk hn => (hg.block k (Nat.lt_of_lt_of_le hk hB) (fun e => by cases e; rcases hS with hS | hS; exact hn hS; omega)).trans (h.block k hk hn)⟩
set_option maxHeartbeats 1000000 in
set_option maxRecDepth 100000 in
theorem nameOf_any (d : DefL) (w : World) : Calls Try.prog 38 #[srcV d] w fun e w' => e = .returned (.string d.label) ∧ Below w.heap.size w w' := by
  obtain ⟨W, hW, hA, hN, hs, hB⟩ := two_new w (.cells #[srcV d] 39) (.cells #[.string ⟨#[]⟩] 9)
  have hG := guard_ok 43 #[.pointer (some ⟨w.heap.size, 0, none⟩), .pointer (some ⟨w.heap.size + 1, 0, none⟩)] W ⟨#[]⟩ (fun w' => ButL (W.alloc gbox).heap.size [w.heap.size + 1] (W.alloc gbox) w' ∧ w'.heap[w.heap.size + 1]? = some (.cells #[.string d.label] 9 (0, 0)))
    (fun w => by kernel_rfl) (nameC_any d (W.alloc gbox) _ _ (al_keep hA) (al_keep hN))
    (fun w' ⟨h1, _⟩ => (h1.block _ (by rw [al_size]; omega) (by rw [List.mem_singleton]; omega)).trans (heap_alloc_new W _))
  have HG := Lib.hid hG
  have HB := Lib.hid hB
  have HS := Lib.hid hs
  have hmf := mfn
  obtain ⟨t, ht⟩ := srcV_iface d
  rw [ht] at hW ⊢
  have HW := Lib.hid hW
  clear hG hB hs hA hN hW
  generalize defV d = v at *
  go_enter Try.func38, Try.ntmps38
  go_upto_region 2 with (fail)
  rw [HW.out]
  go_wp2_with (go_at_call 25; refine HG.out.mono ?_; rintro e w2 ⟨rfl, w3, ⟨hb, hc⟩, hw⟩; have hne : w.heap.size + 1 ≠ W.heap.size := (by have := HS.out; omega); have hc2 : w2.heap[w.heap.size + 1]? = some (.cells #[.string d.label] 9 (0, 0)) := (by rw [hw]; exact (setN hne).trans hc); have kc := cell1 hc2; have HB2 : Hid (Below w.heap.size w w2) := Lib.hid (by rw [hw]; exact (guard_but (T := []) (ButL.of_below HB.out) (by have := HS.out; omega) hb (by intro b hm; rw [List.mem_singleton] at hm; omega) _).toBelow); clear hb hc hw hne hc2)
  go_ret
  exact ⟨rfl, HB2.out⟩
set_option maxHeartbeats 1000000 in
set_option maxRecDepth 100000 in
theorem nameOf_nil (w : World) : Calls Try.prog 38 #[.nilIface] w fun e w' => e = .returned (.string ⟨#[]⟩) ∧ Below w.heap.size w w' := by
  obtain ⟨W, hW, hA, hN, hs, hB⟩ := two_new w (.cells #[.nilIface] 39) (.cells #[.string ⟨#[]⟩] 9)
  have hG := guard_bad 43 #[.pointer (some ⟨w.heap.size, 0, none⟩), .pointer (some ⟨w.heap.size + 1, 0, none⟩)] W ⟨#[]⟩ (fun w' => W.alloc gbox = w')
    (fun w => by kernel_rfl) (nameC_nil (W.alloc gbox) _ (w.heap.size + 1) (al_keep hA))
    (fun w' h1 => h1 ▸ heap_alloc_new W _)
  have HG := Lib.hid hG
  have HB := Lib.hid hB
  have hmf := mfn
  have HW := Lib.hid hW
  have HN := Lib.hid hN
  clear hG hB hs hA hN hW
  go_enter Try.func38, Try.ntmps38
  go_upto_region 2 with (fail)
  rw [HW.out]
  go_wp2_with (go_at_call 25; refine HG.out.mono ?_; rintro e w2 ⟨w3, rfl, hw, rfl⟩; have kc : w2.cell? ⟨w.heap.size + 1, 0, none⟩ = some (.string ⟨#[]⟩) := cell1 (by rw [hw]; exact al_keep (al_keep HN.out)); have HB2 : Hid (Below w.heap.size w w2) := Lib.hid (by rw [hw]; exact keepE (keepE HB.out (al_bel _ _)) (al_bel _ _)); clear hw)
  go_ret
  exact ⟨rfl, HB2.out⟩
/-! ### The registry. -/
/-- How a source among a map's elements reads: as itself. -/
def R39 (v : Value) : Option (DataW Value × List MemPlace) := match v with
  | .iface t x => some (.held (.iface t x), [])
  | .nilIface => some (.held .nilIface, [])
  | _ => none
theorem R39_iface (t : TypeId) (x : Value) : R39 (.iface t x) = some (.held (.iface t x), []) := rfl
theorem R39_inv {v : Value} {z : DataW Value × List MemPlace} (h : R39 v = some z) : z = (.held v, []) ∧ (v = .nilIface ∨ ∃ t x, v = .iface t x) := by
  unfold R39 at h
  split at h
  · cases h; exact ⟨rfl, .inr ⟨_, _, rfl⟩⟩
  · cases h; exact ⟨rfl, .inl rfl⟩
  · cases h
def keyS (s : ByteArray) : Lit := .string s.data.toList
theorem keyed9 : Keyed Try.prog 9 := Go.Maps.string_keyed Try.underlying9
theorem zero39 (w : World) : (zeroValue 39).run Try.prog w = .ok .nilIface w := by kernel_rfl
structure RegAt (w : World) (K r : Nat) (mp : Option Nat) (D : DataW Value) : Prop where
  cell : w.heap[r]? = some (.cells #[.map mp] 98 (0, 0))
  map : (mp = none ∧ D = .map []) ∨ ∃ m n, mp = some m ∧ m ≠ r ∧ n ≤ K ∧ w.ownsMap Try.prog 9 R39 m n D
theorem RegAt.but {w w' : World} {K r B : Nat} {S : List Nat} {mp : Option Nat} {D : DataW Value} (h : RegAt w K r mp D) (hb : ButL B S w w') (hB : w.heap.size ≤ B) (hr : r ∉ S) (hm : ∀ m, mp = some m → m ∉ S) : RegAt w' K r mp D := by
  refine ⟨(hb.block r (Nat.lt_of_lt_of_le (lt_of h.cell) hB) hr).trans h.cell, ?_⟩
  rcases h.map with h | ⟨m, n, e, hne, hn, ho⟩
  · exact .inl h
  · obtain ⟨es, clock, ho, rest⟩ := ho
    exact .inr ⟨m, n, e, hne, hn, es, clock, (hb.block m (Nat.lt_of_lt_of_le (lt_of ho) hB) (hm m e)).trans ho, rest⟩
theorem RegAt.below {w w' : World} {K r : Nat} {mp : Option Nat} {D : DataW Value} (h : RegAt w K r mp D) (hb : Below w.heap.size w w') : RegAt w' K r mp D := h.but (S := []) (ButL.of_below hb) (Nat.le_refl _) (by simp) (by simp)
theorem RegAt.got {w : World} {K r m : Nat} {D : DataW Value} (h : RegAt w K r (some m) D) : ∃ n, m ≠ r ∧ n ≤ K ∧ w.ownsMap Try.prog 9 R39 m n D := by
  rcases h.map with ⟨e, _⟩ | ⟨m', n, e, h1, h2, h3⟩
  · cases e
  · cases e; exact ⟨n, h1, h2, h3⟩
theorem new_any (w : World) : Calls Try.prog 19 #[] w fun e w' => e = .returned (.pointer (some ⟨w.heap.size, 0, none⟩)) ∧ w' = w.alloc (.cells #[.map none] 98) := by
  go_enter Try.func19, Try.ntmps19
  go_wp2
  go_ret
  exact ⟨rfl, rfl⟩
theorem RegAt.new (w : World) : RegAt (w.alloc (.cells #[.map none] 98)) 0 w.heap.size none (.map []) := ⟨heap_alloc_new w _, .inl ⟨rfl, rfl⟩⟩
theorem noName {s : ByteArray} (h : s.data.toList ≠ []) : s.toList.isEmpty = false := by
  rw [Go.Lib.toList_data]
  cases hs : s.data.toList with
  | nil => exact absurd hs h
  | cons x l => rfl
theorem mapE (m : Nat) (w : World) : (binOp .eql 96 (.map (some m)) (.map none)).run Try.prog w = .ok (.bool false) w := by kernel_rfl
theorem mapN (w : World) : (binOp .eql 96 (.map none) (.map none)).run Try.prog w = .ok (.bool true) w := by kernel_rfl
set_option maxHeartbeats 1000000 in
set_option maxRecDepth 100000 in
theorem put_some (d : DefL) (w : World) (K r m : Nat) (D : DataW Value) (h : RegAt w K r (some m) D) (hK : K < 1000) (hne : d.label.data.toList ≠ []) (hl : d.label.size ≤ maxLen) :
    Calls Try.prog 20 #[.pointer (some ⟨r, 0, none⟩), srcV d] w fun e w' => e = .returned (.tuple #[]) ∧ RegAt w' (K + 1) r (some m) (D.put (keyS d.label) (.held (srcV d))) ∧ ButL w.heap.size [r, m] w w' := by
  have HN := Lib.hid (nameOf_any d w)
  have HR := Lib.hid h
  have HL := Lib.hid hl
  obtain ⟨t, ht⟩ := srcV_iface d
  rw [ht] at HN ⊢
  have q1 := noName hne
  have q2 := mapE m
  clear h hl hne
  generalize d.label = lb at *
  generalize defV d = v at *
  clear ht d
  go_enter Try.func20, Try.ntmps20
  go_wp2_with (first | (go_at_call 38; refine HN.out.mono ?_; rintro e w2 ⟨rfl, hb⟩; have hr2 := HR.out.below hb; have k2 := cell1 hr2.cell; have f2 := freeJ hr2.cell 0; have HB := Lib.hid hb; have HR2 := Lib.hid hr2; obtain ⟨nm, hnr, hnk, hom⟩ := hr2.got; have HO := Lib.hid hom; clear hb hr2 hom) | (at_mapUpdate; refine wpList_mapUpdate_own _ rfl _ _ _ 96 rfl 9 39 keyed9 Try.underlying96 R39 m nm D rfl HO.out (by unfold maxLen; omega) (.string lb) (.iface t v) (keyS lb) rfl rfl (Go.WideMaps.keyOf_string_mk Try.underlying9 HL.out) (.held (.iface t v)) [] rfl ?_; intro w3 hom3 hg3; have HO3 := Lib.hid hom3; have HG3 := Lib.hid hg3; clear hom3 hg3))
  go_end0
  exact ⟨rfl, ⟨(HG3.out.block r (lt_of HR2.out.cell) (fun e => hnr (by cases e; rfl))).trans HR2.out.cell, .inr ⟨m, nm + 1, rfl, hnr, by omega, HO3.out⟩⟩, (ButL.of_below HB.out).grown HG3.out HB.out.size (by simp)⟩
end Go.Proofs.Ytpdkjifalgeodaa
