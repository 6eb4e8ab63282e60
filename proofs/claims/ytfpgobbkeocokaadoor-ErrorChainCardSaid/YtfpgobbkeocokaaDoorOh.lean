/- Contracts: the closures that outcome hands to its guard. -/
import Derived.Test.YtfpgobbkeocokaaDoorOf
import Derived.Test.YtfpgobbkeocokaaDoorOg
namespace Go.Proofs.YtfpgobbkeocokaaDoor
open Go.RowKit Go.Extern.Stop Go.Stop Go.Extern Go.Lib Go.Extern.Rtype
/-- Of what was there, nothing but these blocks has turned. -/
structure ButL (B : Nat) (S : List Nat) (W w : World) : Prop where
  os : w.os = W.os
  tape : w.tape = W.tape
  output : w.output = W.output
  size : W.heap.size ≤ w.heap.size
  block : ∀ k, k < B → k ∉ S → w.heap[k]? = W.heap[k]?
theorem ButL.of_below {B : Nat} {S : List Nat} {W w : World} (h : Below B W w) : ButL B S W w := ⟨h.os, h.tape, h.output, h.size, fun k hk _ => h.block k hk⟩
theorem ButL.set {B : Nat} {S : List Nat} {W w : World} (h : ButL B S W w) {b : Nat} (hb : b ∈ S ∨ B ≤ b) (j : Nat) (v : Value) : ButL B S W (w.setCell ⟨b, j, none⟩ v) where
  os := h.os
  tape := h.tape
  output := h.output
  size := by have := h.size; simpa [World.setCell] using this
  block := fun k hk hn => by
    have : (w.setCell ⟨b, j, none⟩ v).heap[k]? = w.heap[k]? := by
      simp only [World.setCell, Array.getElem?_modify]
      rw [if_neg (fun e => by subst e; rcases hb with hb | hb; exact hn hb; omega)]
    rw [this]
    exact h.block k hk hn
theorem ButL.trans {B : Nat} {S : List Nat} {W w1 w2 : World} (h : ButL B S W w1) (hB : B ≤ w1.heap.size) (h2 : Below w1.heap.size w1 w2) : ButL B S W w2 :=
  ⟨h2.os.trans h.os, h2.tape.trans h.tape, h2.output.trans h.output, Nat.le_trans h.size h2.size, fun k hk hn => (h2.block k (Nat.lt_of_lt_of_le hk hB)).trans (h.block k hk hn)⟩
theorem ButL.below {B B0 : Nat} {S : List Nat} {W0 W w : World} (h : ButL B S W w) (h0 : Below B0 W0 W) (hB : B0 ≤ B) (hS : ∀ b ∈ S, B0 ≤ b) : Below B0 W0 w :=
  ⟨h.os.trans h0.os, h.tape.trans h0.tape, h.output.trans h0.output, Nat.le_trans h0.size h.size, fun k hk => (h.block k (by omega) (fun hm => by have := hS k hm; omega)).trans (h0.block k hk)⟩
theorem set1 {w : World} {b : Nat} {x y : Value} {e : TypeId} {fr : Nat × Nat} (h : w.heap[b]? = some (.cells #[x] e fr)) : (w.setCell ⟨b, 0, none⟩ y).heap[b]? = some (.cells #[y] e fr) := by
  simp [World.setCell, Array.getElem?_modify, h]
theorem setN {w : World} {b c j : Nat} {y : Value} (h : c ≠ b) : (w.setCell ⟨b, j, none⟩ y).heap[c]? = w.heap[c]? := by
  simp only [World.setCell, Array.getElem?_modify]
  rw [if_neg (fun e => h e.symm)]
set_option maxHeartbeats 1000000 in
set_option maxRecDepth 100000 in
theorem isC_any (w : World) (L : List Lay) (k : Option Int) (c : Int) (v x : Value) (h : ErrAt w L k v) (A C H : Nat) (hA : w.heap[A]? = some (.cells #[v] 25 (0, 0))) (hC : w.heap[C]? = some (.cells #[.int .i64 c] 26 (0, 0))) (hH : w.heap[H]? = some (.cells #[x] 4 (0, 0))) :
    Calls Tryd.prog 27 #[.pointer (some ⟨A, 0, none⟩), .pointer (some ⟨C, 0, none⟩), .pointer (some ⟨H, 0, none⟩)] w fun e w' => e = .returned (.tuple #[]) ∧ ButL w.heap.size [H] w w' ∧ w'.heap[H]? = some (.cells #[.bool (decide (k = some c))] 4 (0, 0)) := by
  have HI := Lib.hid (Is_any w L k c v h)
  have kA := cell1 hA
  have kC := cell1 hC
  have HH := Lib.hid hH
  clear h hA hC hH
  go_enter Tryd.func27, Tryd.ntmps27
  go_wp2_with (go_at_call 28; refine HI.out.mono ?_; rintro e w2 ⟨rfl, hb⟩; have h2 := (hb.block _ (Array.getElem?_eq_some_iff.1 HH.out).1).trans HH.out; have k2 := cell1 h2; have f2 := free1 h2 0; have H2 := Lib.hid h2; have HB := Lib.hid hb; clear h2 hb)
  go_end0
  exact ⟨rfl, (ButL.of_below HB.out).set (.inl (List.mem_singleton.2 rfl)) _ _, set1 H2.out⟩
set_option maxHeartbeats 1000000 in
set_option maxRecDepth 100000 in
theorem srcC_any (w : World) (L : List Lay) (k : Option Int) (v : Value) (h : ErrAt w L k v) (A S : Nat) (hA : w.heap[A]? = some (.cells #[v] 25 (0, 0))) (hS : w.heap[S]? = some (.cells #[.string ⟨#[]⟩] 9 (0, 0))) (hG : w.cell? ⟨0, 0, none⟩ = some (rT 25)) :
    Calls Tryd.prog 20 #[.pointer (some ⟨A, 0, none⟩), .pointer (some ⟨S, 0, none⟩)] w fun e w' => e = .returned (.tuple #[]) ∧ ButL w.heap.size [S] w w' ∧ w'.heap[S]? = some (.cells #[.string ((firstS L).getD ⟨#[]⟩)] 9 (0, 0)) := by
  have hb1 : Below w.heap.size w (w.alloc (.cells #[.pointer none] 32)) := (Below.refl _ _).alloc (Nat.le_refl _) _
  have hl : 0 < w.heap.size := by
    unfold World.cell? at hG
    split at hG
    · rename_i h; exact (Array.getElem?_eq_some_iff.1 h).1
    · cases hG
  have hSl := (Array.getElem?_eq_some_iff.1 hS).1
  have HA := Lib.hid (As_S (w.alloc (.cells #[.pointer none] 32)) L k v (h.below hb1) w.heap.size (heap_alloc_new w _) ((hb1.cell (p := ⟨0, 0, none⟩) hl).trans hG))
  have kA : (w.alloc (.cells #[.pointer none] 32)).cell? ⟨A, 0, none⟩ = some v := cell1 ((hb1.block _ (Array.getElem?_eq_some_iff.1 hA).1).trans hA)
  have HS1 := Lib.hid ((hb1.block _ hSl).trans hS)
  have HB1 := Lib.hid hb1
  have HX := Lib.hid (heap_alloc_new w (.cells #[.pointer none] 32))
  have HSl := Lib.hid hSl
  clear h hA hS hG hb1 hl hSl
  cases hf : firstS L with
  | none =>
    have HF := Lib.hid hf
    clear hf
    go_enter Tryd.func20, Tryd.ntmps20
    go_wp2_with (go_at_call 18; refine HA.out.mono ?_; rintro e w2 ⟨r, rfl, h2⟩; have h3 : r = false ∧ Below (w.alloc (.cells #[.pointer none] 32)).heap.size (w.alloc (.cells #[.pointer none] 32)) w2 := (by unfold AsS at h2; rw [HF.out] at h2; exact h2); obtain ⟨rfl, hb⟩ := h3; have HB := Lib.hid hb; clear h2 hb)
    go_end0
    exact ⟨rfl, ButL.of_below (keepE HB1.out HB.out), (HB.out.block _ (Nat.lt_of_lt_of_le HSl.out HB1.out.size)).trans HS1.out⟩
  | some s =>
    have HF := Lib.hid hf
    clear hf
    go_enter Tryd.func20, Tryd.ntmps20
    go_wp2_with (go_at_call 18; refine HA.out.mono ?_; rintro e w2 ⟨r, rfl, h2⟩; have h3 : ∃ b u w3, r = true ∧ Below (w.alloc (.cells #[.pointer none] 32)).heap.size (w.alloc (.cells #[.pointer none] 32)) w3 ∧ w3.heap[b]? = some (.cells #[.string s, u] 34 (0, 0)) ∧ w2 = w3.setCell ⟨w.heap.size, 0, none⟩ (.pointer (some ⟨b, 0, none⟩)) := (by unfold AsS at h2; rw [HF.out] at h2; exact h2); obtain ⟨b, u, w3, rfl, hb, hc, hw⟩ := h3; have hx3 := (hb.block _ (Array.getElem?_eq_some_iff.1 HX.out).1).trans HX.out; have hne : b ≠ w.heap.size := (fun e => by subst e; rw [hx3] at hc; cases hc); have hx2 := set1 (y := .pointer (some ⟨b, 0, none⟩)) hx3; rw [← hw] at hx2; have kx := cell1 hx2; have hc2 : w2.heap[b]? = some (.cells #[.string s, u] 34 (0, 0)) := (by rw [hw]; exact (setN hne).trans hc); have kc : w2.cell? ⟨b, 0, none⟩ = some (.string s) := (by simp [World.cell?, hc2]); have hs2 : w2.heap[S]? = some (.cells #[.string ⟨#[]⟩] 9 (0, 0)) := (by rw [hw]; exact (setN (by have := HSl.out; omega)).trans ((hb.block _ (Nat.lt_of_lt_of_le HSl.out HB1.out.size)).trans HS1.out)); have ks := cell1 hs2; have fs := free1 hs2 0; have HS2 := Lib.hid hs2; have HBu : Hid (ButL w.heap.size [S] w w2) := Lib.hid (by rw [hw]; exact (ButL.of_below (keepE HB1.out hb)).set (.inr (Nat.le_refl _)) _ _); clear h2 hb hc hw hx3 hne hx2 hc2 hs2)
    go_end0
    exact ⟨rfl, HBu.out.set (.inl (List.mem_singleton.2 rfl)) _ _, set1 HS2.out⟩
end Go.Proofs.YtfpgobbkeocokaaDoor
