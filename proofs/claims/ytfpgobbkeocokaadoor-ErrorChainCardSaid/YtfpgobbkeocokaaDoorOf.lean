/- Contracts: errors.As. -/
import Derived.Test.YtfpgobbkeocokaaDoorOe
import Derived.Deep.Cut
namespace Go.Proofs.YtfpgobbkeocokaaDoor
open Go.RowKit Go.Extern.Stop Go.Stop Go.Extern Go.Lib Go.Extern.Rtype
set_option maxHeartbeats 2000000 in
set_option maxRecDepth 100000 in
theorem As_S (w : World) (L0 : List Lay) (k : Option Int) (v : Value) (h : ErrAt w L0 k v) (q : Nat) (hq : w.heap[q]? = some (.cells #[.pointer none] 32 (0, 0))) (hG : w.cell? ⟨0, 0, none⟩ = some (rT 25)) :
    Calls Tryd.prog 18 #[v, .iface 55 (.pointer (some ⟨q, 0, none⟩))] w (fun e w' => ∃ r, e = .returned (.bool r) ∧ AsS w q L0 r w') := by
  obtain ⟨t, x, rfl⟩ := h.iface
  have n1 := nilE
  have n3 : ∀ (t : TypeId) (x : Value) (w : World), (binOp .eql 20 (.iface t x) .nilIface).run Tryd.prog w = .ok (.bool false) w := fun t x w => run_eql_iface_nil w _ (by kernel_rfl) _ _
  have t3 := voPS
  have hb1 : Below w.heap.size w (w.alloc (.cells #[.pointer (some ⟨q, 0, none⟩)] 55)) := (Below.refl _ _).alloc (Nat.le_refl _) _
  have hs1 : (w.alloc (.cells #[.pointer (some ⟨q, 0, none⟩)] 55)).heap.size = w.heap.size + 1 := by show (w.heap.push _).size = _; simp
  have hb2 : ∀ o, Below w.heap.size w ((w.alloc (.cells #[.pointer (some ⟨q, 0, none⟩)] 55)).alloc o) := fun o => hb1.alloc (by omega) _
  have hb3 : ∀ o, Below (w.alloc (.cells #[.pointer (some ⟨q, 0, none⟩)] 55)).heap.size (w.alloc (.cells #[.pointer (some ⟨q, 0, none⟩)] 55)) ((w.alloc (.cells #[.pointer (some ⟨q, 0, none⟩)] 55)).alloc o) := fun o => (Below.refl _ _).alloc (Nat.le_refl _) _
  have hta0 := heap_alloc_new w (.cells #[.pointer (some ⟨q, 0, none⟩)] 55)
  have HB2 := Lib.hid hb2
  have HB3 := Lib.hid hb3
  have HTa0 := Lib.hid hta0
  have HS1 := Lib.hid hs1
  have HE := Lib.hid h
  have HQ := Lib.hid hq
  have HG := Lib.hid hG
  clear h hq hG hb1 hb2 hb3 hta0 hs1
  go_enter Tryd.func18, Tryd.ntmps18
  go_upto_region 6 with (fail)
  obtain ⟨w2, hw2⟩ : ∃ W, (w.alloc (.cells #[.pointer (some ⟨q, 0, none⟩)] 55)).alloc (.cells #[.pointer (some ⟨1, 55, none⟩), .pointer (some ⟨w.heap.size, 0, none⟩), .int .u64 150] 64) = W := ⟨_, rfl⟩
  have hbel : Below w.heap.size w w2 := hw2 ▸ HB2.out _
  have hx2 : w2.heap[w.heap.size + 1]? = some (.cells #[.pointer (some ⟨1, 55, none⟩), .pointer (some ⟨w.heap.size, 0, none⟩), .int .u64 150] 64 (0, 0)) := by
    rw [← hw2, ← HS1.out]
    exact heap_alloc_new _ _
  have hta2 : w2.heap[w.heap.size]? = some (.cells #[.pointer (some ⟨q, 0, none⟩)] 55 (0, 0)) := by
    rw [← hw2]
    exact ((HB3.out _).block _ (by rw [HS1.out]; omega)).trans HTa0.out
  have hq2 := (hbel.block _ (Array.getElem?_eq_some_iff.1 HQ.out).1).trans HQ.out
  have k0 : w2.cell? ⟨w.heap.size + 1, 0, none⟩ = some (.pointer (some ⟨1, 55, none⟩)) := by simp [World.cell?, hx2]
  have k1 : w2.cell? ⟨w.heap.size + 1, 1, none⟩ = some (.pointer (some ⟨w.heap.size, 0, none⟩)) := by simp [World.cell?, hx2]
  have k2 : w2.cell? ⟨w.heap.size + 1, 2, none⟩ = some (.int .u64 150) := by simp [World.cell?, hx2]
  have g0 : w2.cell? ⟨0, 0, none⟩ = some (rT 25) := (hbel.cell (p := ⟨0, 0, none⟩) (by
    have := HG.out
    unfold World.cell? at this
    split at this
    · rename_i h; exact (Array.getElem?_eq_some_iff.1 h).1
    · cases this)).trans HG.out
  have HA := Lib.hid (as_S w2 L0 k _ (HE.out.below hbel) q w.heap.size hq2 hta2)
  have t4 := viS ⟨w.heap.size, 0, none⟩ ⟨q, 0, none⟩ w2 (cell1 hta2)
  have t5 := vtS
  have t6 := elmS
  have t7 := fun w => kdS 55 w (.inl rfl)
  have t8 := fun w => kdS 32 w (.inr rfl)
  have t9 := impS
  have m1 := metKd
  have m2 := metEl
  have m3 := metIm
  have HBe := Lib.hid hbel
  rw [hw2]
  clear hbel hx2 hta2 hq2 hw2 HB2 HB3 HTa0 HS1 t3
  go_wp2_with (go_at_call 26; refine HA.out.mono ?_; rintro e w3 ⟨r, rfl, h3⟩; have H3 := Lib.hid h3; clear h3)
  go_ret
  exact ⟨_, rfl, H3.out.lift HBe.out⟩
set_option maxHeartbeats 2000000 in
set_option maxRecDepth 100000 in
theorem As_T (w : World) (L0 : List Lay) (k : Option Int) (v : Value) (h : ErrAt w L0 k v) (q : Nat) (hq : w.heap[q]? = some (.cells #[.pointer none] 35 (0, 0))) (hG : w.cell? ⟨0, 0, none⟩ = some (rT 25)) :
    Calls Tryd.prog 18 #[v, .iface 52 (.pointer (some ⟨q, 0, none⟩))] w (fun e w' => ∃ r, e = .returned (.bool r) ∧ AsT w q L0 r w') := by
  obtain ⟨t, x, rfl⟩ := h.iface
  have n1 := nilE
  have n3 : ∀ (t : TypeId) (x : Value) (w : World), (binOp .eql 20 (.iface t x) .nilIface).run Tryd.prog w = .ok (.bool false) w := fun t x w => run_eql_iface_nil w _ (by kernel_rfl) _ _
  have t3 := voPT
  have hb1 : Below w.heap.size w (w.alloc (.cells #[.pointer (some ⟨q, 0, none⟩)] 52)) := (Below.refl _ _).alloc (Nat.le_refl _) _
  have hs1 : (w.alloc (.cells #[.pointer (some ⟨q, 0, none⟩)] 52)).heap.size = w.heap.size + 1 := by show (w.heap.push _).size = _; simp
  have hb2 : ∀ o, Below w.heap.size w ((w.alloc (.cells #[.pointer (some ⟨q, 0, none⟩)] 52)).alloc o) := fun o => hb1.alloc (by omega) _
  have hb3 : ∀ o, Below (w.alloc (.cells #[.pointer (some ⟨q, 0, none⟩)] 52)).heap.size (w.alloc (.cells #[.pointer (some ⟨q, 0, none⟩)] 52)) ((w.alloc (.cells #[.pointer (some ⟨q, 0, none⟩)] 52)).alloc o) := fun o => (Below.refl _ _).alloc (Nat.le_refl _) _
  have hta0 := heap_alloc_new w (.cells #[.pointer (some ⟨q, 0, none⟩)] 52)
  have HB2 := Lib.hid hb2
  have HB3 := Lib.hid hb3
  have HTa0 := Lib.hid hta0
  have HS1 := Lib.hid hs1
  have HE := Lib.hid h
  have HQ := Lib.hid hq
  have HG := Lib.hid hG
  clear h hq hG hb1 hb2 hb3 hta0 hs1
  go_enter Tryd.func18, Tryd.ntmps18
  go_upto_region 6 with (fail)
  obtain ⟨w2, hw2⟩ : ∃ W, (w.alloc (.cells #[.pointer (some ⟨q, 0, none⟩)] 52)).alloc (.cells #[.pointer (some ⟨1, 52, none⟩), .pointer (some ⟨w.heap.size, 0, none⟩), .int .u64 150] 64) = W := ⟨_, rfl⟩
  have hbel : Below w.heap.size w w2 := hw2 ▸ HB2.out _
  have hx2 : w2.heap[w.heap.size + 1]? = some (.cells #[.pointer (some ⟨1, 52, none⟩), .pointer (some ⟨w.heap.size, 0, none⟩), .int .u64 150] 64 (0, 0)) := by
    rw [← hw2, ← HS1.out]
    exact heap_alloc_new _ _
  have hta2 : w2.heap[w.heap.size]? = some (.cells #[.pointer (some ⟨q, 0, none⟩)] 52 (0, 0)) := by
    rw [← hw2]
    exact ((HB3.out _).block _ (by rw [HS1.out]; omega)).trans HTa0.out
  have hq2 := (hbel.block _ (Array.getElem?_eq_some_iff.1 HQ.out).1).trans HQ.out
  have k0 : w2.cell? ⟨w.heap.size + 1, 0, none⟩ = some (.pointer (some ⟨1, 52, none⟩)) := by simp [World.cell?, hx2]
  have k1 : w2.cell? ⟨w.heap.size + 1, 1, none⟩ = some (.pointer (some ⟨w.heap.size, 0, none⟩)) := by simp [World.cell?, hx2]
  have k2 : w2.cell? ⟨w.heap.size + 1, 2, none⟩ = some (.int .u64 150) := by simp [World.cell?, hx2]
  have g0 : w2.cell? ⟨0, 0, none⟩ = some (rT 25) := (hbel.cell (p := ⟨0, 0, none⟩) (by
    have := HG.out
    unfold World.cell? at this
    split at this
    · rename_i h; exact (Array.getElem?_eq_some_iff.1 h).1
    · cases this)).trans HG.out
  have HA := Lib.hid (as_T w2 L0 k _ (HE.out.below hbel) q w.heap.size hq2 hta2)
  have t4 := viT ⟨w.heap.size, 0, none⟩ ⟨q, 0, none⟩ w2 (cell1 hta2)
  have t5 := vtT
  have t6 := elmT
  have t7 := fun w => kdT 52 w (.inl rfl)
  have t8 := fun w => kdT 35 w (.inr rfl)
  have t9 := impT
  have m1 := metKd
  have m2 := metEl
  have m3 := metIm
  have HBe := Lib.hid hbel
  rw [hw2]
  clear hbel hx2 hta2 hq2 hw2 HB2 HB3 HTa0 HS1 t3
  go_wp2_with (go_at_call 26; refine HA.out.mono ?_; rintro e w3 ⟨r, rfl, h3⟩; have H3 := Lib.hid h3; clear h3)
  go_ret
  exact ⟨_, rfl, H3.out.lift HBe.out⟩
end Go.Proofs.YtfpgobbkeocokaaDoor
