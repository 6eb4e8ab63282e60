/- Contracts: Wrap, is, Source, Guard of package outcome. -/
import Derived.Test.YtfpgobbkeocokaaDoorOi
namespace Go.Proofs.YtfpgobbkeocokaaDoor
open Go.RowKit Go.Extern.Stop Go.Stop Go.Extern Go.Lib Go.Extern.Rtype
theorem nilNe (t : TypeId) (x : Value) (w : World) : (binOp .neq 25 (.iface t x) .nilIface).run Tryd.prog w = .ok (.bool true) w := run_neq_iface_nil w _ (by kernel_rfl) _ _
theorem wrap_any (w : World) (L : List Lay) (k : Option Int) (s : ByteArray) (v : Value) (h : ErrAt w L k v) :
    Calls Tryd.prog 8 #[.string s, v] w fun e w' => ∃ b, e = .returned (.iface 32 (.pointer (some ⟨b, 0, none⟩))) ∧ ErrAt w' (.src s :: L) k (.iface 32 (.pointer (some ⟨b, 0, none⟩))) ∧ Below w.heap.size w w' := by
  obtain ⟨t, x, rfl⟩ := h.iface
  have n1 := nilE
  have HE := Lib.hid h
  clear h
  go_enter Tryd.func8, Tryd.ntmps8
  go_wp2
  go_ret
  have hb : Below w.heap.size w (w.alloc (.cells #[.string s, .iface t x] 34)) := (Below.refl _ _).alloc (Nat.le_refl _) _
  exact ⟨w.heap.size, rfl, ⟨_, _, rfl, heap_alloc_new w _, HE.out.below hb⟩, hb⟩
theorem wrap_nil (w : World) (s : ByteArray) : Calls Tryd.prog 8 #[.string s, .nilIface] w fun e w' => e = .returned .nilIface ∧ w = w' := by
  have n2 := nilN
  go_enter Tryd.func8, Tryd.ntmps8
  go_wp2
  go_ret
  exact ⟨rfl, rfl⟩
theorem al_keep {w : World} {b : Nat} {o x : Obj} (h : w.heap[b]? = some o) : (w.alloc x).heap[b]? = some o := (((Below.refl w.heap.size w).alloc (Nat.le_refl _) x).block b (Array.getElem?_eq_some_iff.1 h).1).trans h
theorem al_size (w : World) (x : Obj) : (w.alloc x).heap.size = w.heap.size + 1 := by show (w.heap.push _).size = _; simp
theorem al_bel (w : World) (x : Obj) : Below w.heap.size w (w.alloc x) := (Below.refl _ _).alloc (Nat.le_refl _) x
set_option maxHeartbeats 1000000 in
set_option maxRecDepth 100000 in
theorem ois_any (w : World) (L : List Lay) (k : Option Int) (c : Int) (v : Value) (h : ErrAt w L k v) :
    Calls Tryd.prog 19 #[v, .int .i64 c] w fun e w' => e = .returned (.bool (decide (k = some c))) ∧ Below w.heap.size w w' := by
  obtain ⟨t, x, rfl⟩ := h.iface
  have hmf : ∀ (fn : Fn) (first cap : Array Value) (w : World), (Instr.makeFunc fn first cap).run Tryd.prog w = .ok (.func fn first cap) w := fun _ _ _ _ => rfl
  obtain ⟨w1, hw1⟩ : ∃ W, (((w.alloc (.cells #[.iface t x] 25)).alloc (.cells #[.int .i64 c] 26)).alloc (.cells #[.bool false] 4)) = W := ⟨_, rfl⟩
  have s1 := al_size w (.cells #[.iface t x] 25)
  have s2 := al_size (w.alloc (.cells #[.iface t x] 25)) (.cells #[.int .i64 c] 26)
  have s3 := al_size ((w.alloc (.cells #[.iface t x] 25)).alloc (.cells #[.int .i64 c] 26)) (.cells #[.bool false] 4)
  have hA : w1.heap[w.heap.size]? = some (.cells #[.iface t x] 25 (0, 0)) := hw1 ▸ al_keep (al_keep (heap_alloc_new w _))
  have hC : w1.heap[w.heap.size + 1]? = some (.cells #[.int .i64 c] 26 (0, 0)) := by
    rw [← hw1, ← s1]; exact al_keep (heap_alloc_new _ _)
  have hH : w1.heap[w.heap.size + 1 + 1]? = some (.cells #[.bool false] 4 (0, 0)) := by
    rw [← hw1, show w.heap.size + 1 + 1 = ((w.alloc (.cells #[.iface t x] 25)).alloc (.cells #[.int .i64 c] 26)).heap.size from by omega]; exact heap_alloc_new _ _
  have hbel : Below w.heap.size w w1 := hw1 ▸ (((Below.refl _ _).alloc (Nat.le_refl _) _).alloc (by omega) _).alloc (by omega) _
  have hsz : w1.heap.size = w.heap.size + 3 := by rw [← hw1]; omega
  have hB : (w1.alloc (.cells #[.bool false] 4)).heap[w1.heap.size]? = some (.cells #[.bool false] 4 (0, 0)) := heap_alloc_new _ _
  have hG := guard_back 27 #[.pointer (some ⟨w.heap.size, 0, none⟩), .pointer (some ⟨w.heap.size + 1, 0, none⟩), .pointer (some ⟨w.heap.size + 1 + 1, 0, none⟩)] w1 _ (fun w => by kernel_rfl)
    (isC_any (w1.alloc (.cells #[.bool false] 4)) L k c (.iface t x) (.bool false) ((h.below hbel).below (al_bel _ _)) _ _ _ (al_keep hA) (al_keep hC) (al_keep hH))
    (fun w' ⟨hb, _⟩ => (hb.block _ (by rw [al_size]; omega) (by simp; omega)).trans hB)
  have HG := Lib.hid hG
  have HBel := Lib.hid hbel
  have HSz := Lib.hid hsz
  have HW1 := Lib.hid hw1
  clear h hG hbel hsz hw1 hA hC hH hB s1 s2 s3
  go_enter Tryd.func19, Tryd.ntmps19
  go_upto_region 2 with (fail)
  rw [HW1.out]
  go_wp2_with (go_at_call 16; refine HG.out.mono ?_; rintro e w4 ⟨rfl, w3, ⟨hb, hc⟩, hw⟩; have hs := HSz.out; have hc4 : w4.heap[w.heap.size + 1 + 1]? = some (.cells #[.bool (decide (k = some c))] 4 (0, 0)) := (by rw [hw]; exact (setN (by omega)).trans hc); have k4 := cell1 hc4; have HB4 : Hid (Below w.heap.size w w4) := Lib.hid (by rw [hw]; exact (hb.below (keepE HBel.out (al_bel w1 _)) (by rw [al_size]; omega) (by intro b hm; rw [List.mem_singleton] at hm; omega)).setCell (by show w.heap.size ≤ w1.heap.size; omega) _); clear hb hc hw hs hc4)
  go_ret
  exact ⟨rfl, HB4.out⟩
set_option maxHeartbeats 1000000 in
set_option maxRecDepth 100000 in
theorem osrc_any (w : World) (L : List Lay) (k : Option Int) (v : Value) (h : ErrAt w L k v) (hg : w.cell? ⟨0, 0, none⟩ = some (rT 25)) :
    Calls Tryd.prog 11 #[v] w fun e w' => e = .returned (.string ((firstS L).getD ⟨#[]⟩)) ∧ Below w.heap.size w w' := by
  obtain ⟨t, x, rfl⟩ := h.iface
  have hmf : ∀ (fn : Fn) (first cap : Array Value) (w : World), (Instr.makeFunc fn first cap).run Tryd.prog w = .ok (.func fn first cap) w := fun _ _ _ _ => rfl
  obtain ⟨w1, hw1⟩ : ∃ W, ((w.alloc (.cells #[.iface t x] 25)).alloc (.cells #[.string ⟨#[]⟩] 9)) = W := ⟨_, rfl⟩
  have s1 := al_size w (.cells #[.iface t x] 25)
  have s2 := al_size (w.alloc (.cells #[.iface t x] 25)) (.cells #[.string ⟨#[]⟩] 9)
  have hA : w1.heap[w.heap.size]? = some (.cells #[.iface t x] 25 (0, 0)) := hw1 ▸ al_keep (heap_alloc_new w _)
  have hS : w1.heap[w.heap.size + 1]? = some (.cells #[.string ⟨#[]⟩] 9 (0, 0)) := by
    rw [← hw1, ← s1]; exact heap_alloc_new _ _
  have hbel : Below w.heap.size w w1 := hw1 ▸ ((Below.refl _ _).alloc (Nat.le_refl _) _).alloc (by omega) _
  have hsz : w1.heap.size = w.heap.size + 2 := by rw [← hw1]; omega
  have hB : (w1.alloc (.cells #[.bool false] 4)).heap[w1.heap.size]? = some (.cells #[.bool false] 4 (0, 0)) := heap_alloc_new _ _
  have hl : 0 < w.heap.size := by
    unfold World.cell? at hg
    split at hg
    · rename_i h; exact (Array.getElem?_eq_some_iff.1 h).1
    · cases hg
  have hg1 : (w1.alloc (.cells #[.bool false] 4)).cell? ⟨0, 0, none⟩ = some (rT 25) := ((keepE hbel (al_bel w1 _)).cell (p := ⟨0, 0, none⟩) hl).trans hg
  have hG := guard_back 20 #[.pointer (some ⟨w.heap.size, 0, none⟩), .pointer (some ⟨w.heap.size + 1, 0, none⟩)] w1 _ (fun w => by kernel_rfl)
    (srcC_any (w1.alloc (.cells #[.bool false] 4)) L k (.iface t x) ((h.below hbel).below (al_bel _ _)) _ _ (al_keep hA) (al_keep hS) hg1)
    (fun w' ⟨hb, _⟩ => (hb.block _ (by rw [al_size]; omega) (by simp; omega)).trans hB)
  have HG := Lib.hid hG
  have HBel := Lib.hid hbel
  have HSz := Lib.hid hsz
  have HW1 := Lib.hid hw1
  clear h hG hbel hsz hw1 hA hS hB s1 s2 hl hg hg1
  go_enter Tryd.func11, Tryd.ntmps11
  go_upto_region 2 with (fail)
  rw [HW1.out]
  go_wp2_with (go_at_call 16; refine HG.out.mono ?_; rintro e w4 ⟨rfl, w3, ⟨hb, hc⟩, hw⟩; have hs := HSz.out; have hc4 : w4.heap[w.heap.size + 1]? = some (.cells #[.string ((firstS L).getD ⟨#[]⟩)] 9 (0, 0)) := (by rw [hw]; exact (setN (by omega)).trans hc); have k4 := cell1 hc4; have HB4 : Hid (Below w.heap.size w w4) := Lib.hid (by rw [hw]; exact (hb.below (keepE HBel.out (al_bel w1 _)) (by rw [al_size]; omega) (by intro b hm; rw [List.mem_singleton] at hm; omega)).setCell (by show w.heap.size ≤ w1.heap.size; omega) _); clear hb hc hw hs hc4)
  go_ret
  exact ⟨rfl, HB4.out⟩
set_option maxHeartbeats 1000000 in
set_option maxRecDepth 100000 in
theorem oplc_any (w : World) (L : List Lay) (k : Option Int) (v : Value) (h : ErrAt w L k v) (hg : w.cell? ⟨0, 0, none⟩ = some (rT 25)) :
    Calls Tryd.prog 9 #[v] w fun e w' => e = .returned (.tuple #[.int .i64 (placeV L).1, .int .i64 (placeV L).2.1, .bool (placeV L).2.2]) ∧ Below w.heap.size w w' := by
  obtain ⟨t, x, rfl⟩ := h.iface
  have hmf : ∀ (fn : Fn) (first cap : Array Value) (w : World), (Instr.makeFunc fn first cap).run Tryd.prog w = .ok (.func fn first cap) w := fun _ _ _ _ => rfl
  obtain ⟨w1, hw1⟩ : ∃ W, ((((w.alloc (.cells #[.iface t x] 25)).alloc (.cells #[.int .i64 0] 3)).alloc (.cells #[.int .i64 0] 3)).alloc (.cells #[.bool false] 4)) = W := ⟨_, rfl⟩
  have s1 := al_size w (.cells #[.iface t x] 25)
  have s2 := al_size (w.alloc (.cells #[.iface t x] 25)) (.cells #[.int .i64 0] 3)
  have s3 := al_size ((w.alloc (.cells #[.iface t x] 25)).alloc (.cells #[.int .i64 0] 3)) (.cells #[.int .i64 0] 3)
  have s4 := al_size (((w.alloc (.cells #[.iface t x] 25)).alloc (.cells #[.int .i64 0] 3)).alloc (.cells #[.int .i64 0] 3)) (.cells #[.bool false] 4)
  have hA : w1.heap[w.heap.size]? = some (.cells #[.iface t x] 25 (0, 0)) := hw1 ▸ al_keep (al_keep (al_keep (heap_alloc_new w _)))
  have hP : w1.heap[w.heap.size + 1]? = some (.cells #[.int .i64 0] 3 (0, 0)) := by
    rw [← hw1, ← s1]; exact al_keep (al_keep (heap_alloc_new _ _))
  have hQ : w1.heap[w.heap.size + 1 + 1]? = some (.cells #[.int .i64 0] 3 (0, 0)) := by
    rw [← hw1, show w.heap.size + 1 + 1 = ((w.alloc (.cells #[.iface t x] 25)).alloc (.cells #[.int .i64 0] 3)).heap.size from by omega]; exact al_keep (heap_alloc_new _ _)
  have hR : w1.heap[w.heap.size + 1 + 1 + 1]? = some (.cells #[.bool false] 4 (0, 0)) := by
    rw [← hw1, show w.heap.size + 1 + 1 + 1 = (((w.alloc (.cells #[.iface t x] 25)).alloc (.cells #[.int .i64 0] 3)).alloc (.cells #[.int .i64 0] 3)).heap.size from by omega]; exact heap_alloc_new _ _
  have hbel : Below w.heap.size w w1 := hw1 ▸ ((((Below.refl _ _).alloc (Nat.le_refl _) _).alloc (by omega) _).alloc (by omega) _).alloc (by omega) _
  have hsz : w1.heap.size = w.heap.size + 4 := by rw [← hw1]; omega
  have hB : (w1.alloc (.cells #[.bool false] 4)).heap[w1.heap.size]? = some (.cells #[.bool false] 4 (0, 0)) := heap_alloc_new _ _
  have hl : 0 < w.heap.size := by
    unfold World.cell? at hg
    split at hg
    · rename_i h; exact (Array.getElem?_eq_some_iff.1 h).1
    · cases hg
  have hg1 : (w1.alloc (.cells #[.bool false] 4)).cell? ⟨0, 0, none⟩ = some (rT 25) := ((keepE hbel (al_bel w1 _)).cell (p := ⟨0, 0, none⟩) hl).trans hg
  have hG := guard_back 17 #[.pointer (some ⟨w.heap.size, 0, none⟩), .pointer (some ⟨w.heap.size + 1, 0, none⟩), .pointer (some ⟨w.heap.size + 1 + 1, 0, none⟩), .pointer (some ⟨w.heap.size + 1 + 1 + 1, 0, none⟩)] w1 _ (fun w => by kernel_rfl)
    (plcC_any (w1.alloc (.cells #[.bool false] 4)) L k (.iface t x) ((h.below hbel).below (al_bel _ _)) _ _ _ _ (by omega) (al_keep hA) (al_keep hP) (al_keep hQ) (al_keep hR) hg1)
    (fun w' ⟨hb, _⟩ => (hb.block _ (by rw [al_size]; omega) (by simp; omega)).trans hB)
  have HG := Lib.hid hG
  have HBel := Lib.hid hbel
  have HSz := Lib.hid hsz
  have HW1 := Lib.hid hw1
  clear h hG hbel hsz hw1 hA hP hQ hR hB s1 s2 s3 s4 hl hg hg1
  go_enter Tryd.func9, Tryd.ntmps9
  go_upto_region 2 with (fail)
  rw [HW1.out]
  go_wp2_with (go_at_call 16; refine HG.out.mono ?_; rintro e w4 ⟨rfl, w3, ⟨hb, hc, hd, hee⟩, hw⟩; have hs := HSz.out; have hc4 : w4.heap[w.heap.size + 1]? = some (.cells #[.int .i64 (placeV L).1] 3 (0, 0)) := (by rw [hw]; exact (setN (by omega)).trans hc); have hd4 : w4.heap[w.heap.size + 1 + 1]? = some (.cells #[.int .i64 (placeV L).2.1] 3 (0, 0)) := (by rw [hw]; exact (setN (by omega)).trans hd); have he4 : w4.heap[w.heap.size + 1 + 1 + 1]? = some (.cells #[.bool (placeV L).2.2] 4 (0, 0)) := (by rw [hw]; exact (setN (by omega)).trans hee); have k4 := cell1 hc4; have k5 := cell1 hd4; have k6 := cell1 he4; have HB4 : Hid (Below w.heap.size w w4) := Lib.hid (by rw [hw]; exact (hb.below (keepE HBel.out (al_bel w1 _)) (by rw [al_size]; omega) (by intro b hm; simp only [List.mem_cons, List.not_mem_nil, or_false] at hm; omega)).setCell (by show w.heap.size ≤ w1.heap.size; omega) _); clear hb hc hd hee hw hs hc4 hd4 he4)
  go_region
  go_wp2
  go_ret3
  exact ⟨rfl, HB4.out.drew⟩
end Go.Proofs.YtfpgobbkeocokaaDoor
