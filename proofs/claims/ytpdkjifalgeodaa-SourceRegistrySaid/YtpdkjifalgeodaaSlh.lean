/- Contracts: what the law's own question does when it hears; tell, Hear, Bytes. -/
import Derived.Test.YtpdkjifalgeodaaSk
namespace Go.Proofs.Ytpdkjifalgeodaa
open Go.RowKit Go.Extern.Stop Go.Stop Go.Extern Go.Lib
theorem heC_heard (d : DefL) (n h y : Int) : (heC d n h).setIfInBounds 19 (.int .i64 y) = heC d n y := by unfold heC opC defC; rfl
theorem heC_polls (d : DefL) (n h : Int) : (heC d n h).setIfInBounds 8 (.int .i64 0) = heC { d with polls := 0 } n h := by unfold heC opC defC; rfl
theorem heC_at {d : DefL} {n h : Int} {j : Nat} {v : Value} (e : (heC d n h).toList[j]? = some v) : (heC d n h)[j]? = some v := by rw [← Array.getElem?_toList]; exact e
def heT : TypeId := 158
set_option maxHeartbeats 1000000 in
set_option maxRecDepth 100000 in
theorem lhear_pos (d : DefL) (n h : Int) (b : Nat) (f : ByteArray) (g m : Nat) (x : Int) (w : World) (hb : w.heap[b]? = some (.cells (heC d n h) 158 (0, 0))) (h0 : 0 ≤ h) (h1 : h < 1000) (hm : 0 < m) (hg : w.cell? ⟨g, 0, none⟩ = some (.int .u8 x)) (hne : g ≠ b) :
    Calls Try.prog 92 #[.pointer (some ⟨b, 0, none⟩), .string f, .slice (some ⟨g, 0, none⟩) m m] w fun e w' => e = .returned (.tuple #[]) ∧ w'.heap[b]? = some (.cells (heC { d with polls := 0 } n (h + 1)) 158 (0, 0)) ∧ ButL w.heap.size [b] w w' := by
  have k19 : w.cell? ⟨b, 19, none⟩ = some (.int .i64 h) := cellJ hb (heC_at rfl)
  have f19 := freeJ hb 19
  obtain ⟨w2, hw2⟩ : ∃ W, w.setCell ⟨b, 19, none⟩ (.int .i64 (h + 1)) = W := ⟨_, rfl⟩
  have hb2 : w2.heap[b]? = some (.cells (heC d n (h + 1)) 158 (0, 0)) := by
    rw [← hw2, setJ hb, heC_heard]
  have k8 : w2.cell? ⟨b, 8, none⟩ = some (.int .i64 d.polls) := cellJ hb2 (heC_at rfl)
  have f8 := freeJ hb2 8
  have g0 : w2.cell? ⟨g, 0, none⟩ = some (.int .u8 x) := by
    rw [World.cell?_of_block (w := w) (w' := w2) (by rw [← hw2]; exact setN hne)]; exact hg
  have HFin : Hid ((w2.setCell ⟨b, 8, none⟩ (.int .i64 0)).heap[b]? = some (.cells (heC { d with polls := 0 } n (h + 1)) 158 (0, 0)) ∧ ButL w.heap.size [b] w (w2.setCell ⟨b, 8, none⟩ (.int .i64 0))) := Lib.hid ⟨by rw [setJ hb2, heC_polls], by
    rw [← hw2]
    exact ((ButL.of_below (Below.refl _ _)).set (.inl (List.mem_singleton.2 rfl)) _ _).set (.inl (List.mem_singleton.2 rfl)) _ _⟩
  have hm2 : (0 : Int) < (m : Int) := by omega
  have HW := Lib.hid hw2
  clear hb hb2 hne hg hw2
  generalize d.polls = pl at *
  go_enter Try.func92, Try.ntmps92
  go_upto_region 1 with (fail)
  rw [HW.out]
  go_wp2
  go_end0
  exact ⟨rfl, HFin.out⟩
set_option maxHeartbeats 1000000 in
set_option maxRecDepth 100000 in
theorem lhear_zero (d : DefL) (n h : Int) (b : Nat) (f : ByteArray) (g : Nat) (w : World) (hb : w.heap[b]? = some (.cells (heC d n h) 158 (0, 0))) (h0 : 0 ≤ h) (h1 : h < 1000) :
    Calls Try.prog 92 #[.pointer (some ⟨b, 0, none⟩), .string f, .slice (some ⟨g, 0, none⟩) 0 0] w fun e w' => Boom e ∧ w'.heap[b]? = some (.cells (heC d n (h + 1)) 158 (0, 0)) ∧ ButL w.heap.size [b] w w' := by
  have k19 : w.cell? ⟨b, 19, none⟩ = some (.int .i64 h) := cellJ hb (heC_at rfl)
  have f19 := freeJ hb 19
  obtain ⟨w2, hw2⟩ : ∃ W, w.setCell ⟨b, 19, none⟩ (.int .i64 (h + 1)) = W := ⟨_, rfl⟩
  have hb2 : w2.heap[b]? = some (.cells (heC d n (h + 1)) 158 (0, 0)) := by
    rw [← hw2, setJ hb, heC_heard]
  obtain ⟨u, pv, w3, hrun, hw3⟩ := outB (w := w2) ⟨g, 0, none⟩ 0
  have HFin : Hid (w3.heap[b]? = some (.cells (heC d n (h + 1)) 158 (0, 0)) ∧ ButL w.heap.size [b] w w3) := Lib.hid (by
    have e : ButL w.heap.size [b] w w2 := by rw [← hw2]; exact (ButL.of_below (Below.refl _ _)).set (.inl (List.mem_singleton.2 rfl)) _ _
    rcases hw3 with rfl | rfl
    · exact ⟨hb2, e⟩
    · exact ⟨hb2, e.drew⟩)
  have HW := Lib.hid hw2
  clear hb hb2 hw2 hw3
  go_enter Try.func92, Try.ntmps92
  go_upto_region 1 with (fail)
  rw [HW.out]
  go_wp2
  exact ⟨rfl, ⟨_, _, rfl⟩, HFin.out⟩
set_option maxHeartbeats 1000000 in
set_option maxRecDepth 100000 in
theorem lbytes_any (d : DefL) (n h : Int) (b : Nat) (s : Int) (g m : Nat) (en : Bool) (w : World) (hb : w.heap[b]? = some (.cells (heC d n h) 158 (0, 0))) (h0 : 0 ≤ h) (h1 : h < 1000) :
    Calls Try.prog 91 #[.pointer (some ⟨b, 0, none⟩), .int .i64 s, .slice (some ⟨g, 0, none⟩) m m, .bool en] w fun e w' => e = .returned (.tuple #[]) ∧ w'.heap[b]? = some (.cells (heC (if en then { d with polls := 0 } else d) n (h + 1)) 158 (0, 0)) ∧ ButL w.heap.size [b] w w' := by
  have k19 : w.cell? ⟨b, 19, none⟩ = some (.int .i64 h) := cellJ hb (heC_at rfl)
  have f19 := freeJ hb 19
  obtain ⟨w2, hw2⟩ : ∃ W, w.setCell ⟨b, 19, none⟩ (.int .i64 (h + 1)) = W := ⟨_, rfl⟩
  have hb2 : w2.heap[b]? = some (.cells (heC d n (h + 1)) 158 (0, 0)) := by
    rw [← hw2, setJ hb, heC_heard]
  have k8 : w2.cell? ⟨b, 8, none⟩ = some (.int .i64 d.polls) := cellJ hb2 (heC_at rfl)
  have f8 := freeJ hb2 8
  have e2 : ButL w.heap.size [b] w w2 := by rw [← hw2]; exact (ButL.of_below (Below.refl _ _)).set (.inl (List.mem_singleton.2 rfl)) _ _
  have HFin : Hid ((w2.setCell ⟨b, 8, none⟩ (.int .i64 0)).heap[b]? = some (.cells (heC { d with polls := 0 } n (h + 1)) 158 (0, 0)) ∧ ButL w.heap.size [b] w (w2.setCell ⟨b, 8, none⟩ (.int .i64 0))) := Lib.hid ⟨by rw [setJ hb2, heC_polls], e2.set (.inl (List.mem_singleton.2 rfl)) _ _⟩
  have H2 := Lib.hid hb2
  have HE2 := Lib.hid e2
  have HW := Lib.hid hw2
  clear hb hb2 hw2 e2
  generalize d.polls = pl at *
  cases en
  · go_enter Try.func91, Try.ntmps91
    go_upto_region 1 with (fail)
    rw [HW.out]
    go_wp2
    go_end0
    exact ⟨rfl, H2.out, HE2.out⟩
  · go_enter Try.func91, Try.ntmps91
    go_upto_region 1 with (fail)
    rw [HW.out]
    go_wp2
    go_end0
    exact ⟨rfl, HFin.out⟩
end Go.Proofs.Ytpdkjifalgeodaa
