/- Contract: the closure of outcome.Place. -/
import Derived.Test.YtfpgobbkeocokaaDoorOh
import Derived.BigQuiet
namespace Go.Proofs.YtfpgobbkeocokaaDoor
open Go.RowKit Go.Extern.Stop Go.Stop Go.Extern Go.Lib Go.Extern.Rtype
/-- What Place answers. -/
def placeV (L : List Lay) : Int × Int × Bool := match firstT L with
  | none => (0, 0, false)
  | some (l, c) => (l, c, true)
set_option maxHeartbeats 2000000 in
set_option maxRecDepth 100000 in
theorem plcC_any (w : World) (L : List Lay) (k : Option Int) (v : Value) (h : ErrAt w L k v) (A P Q R : Nat) (hPQ : P ≠ Q ∧ P ≠ R ∧ Q ≠ R) (hA : w.heap[A]? = some (.cells #[v] 25 (0, 0))) (hP : w.heap[P]? = some (.cells #[.int .i64 0] 3 (0, 0))) (hQ : w.heap[Q]? = some (.cells #[.int .i64 0] 3 (0, 0))) (hR : w.heap[R]? = some (.cells #[.bool false] 4 (0, 0))) (hG : w.cell? ⟨0, 0, none⟩ = some (rT 25)) :
    Calls Tryd.prog 17 #[.pointer (some ⟨A, 0, none⟩), .pointer (some ⟨P, 0, none⟩), .pointer (some ⟨Q, 0, none⟩), .pointer (some ⟨R, 0, none⟩)] w fun e w' => e = .returned (.tuple #[]) ∧ ButL w.heap.size [P, Q, R] w w' ∧ w'.heap[P]? = some (.cells #[.int .i64 (placeV L).1] 3 (0, 0)) ∧ w'.heap[Q]? = some (.cells #[.int .i64 (placeV L).2.1] 3 (0, 0)) ∧ w'.heap[R]? = some (.cells #[.bool (placeV L).2.2] 4 (0, 0)) := by
  have hb1 : Below w.heap.size w (w.alloc (.cells #[.pointer none] 35)) := (Below.refl _ _).alloc (Nat.le_refl _) _
  have hl : 0 < w.heap.size := by
    unfold World.cell? at hG
    split at hG
    · rename_i h; exact (Array.getElem?_eq_some_iff.1 h).1
    · cases hG
  have hPl := (Array.getElem?_eq_some_iff.1 hP).1
  have hQl := (Array.getElem?_eq_some_iff.1 hQ).1
  have hRl := (Array.getElem?_eq_some_iff.1 hR).1
  have HA := Lib.hid (As_T (w.alloc (.cells #[.pointer none] 35)) L k v (h.below hb1) w.heap.size (heap_alloc_new w _) ((hb1.cell (p := ⟨0, 0, none⟩) hl).trans hG))
  have kA : (w.alloc (.cells #[.pointer none] 35)).cell? ⟨A, 0, none⟩ = some v := cell1 ((hb1.block _ (Array.getElem?_eq_some_iff.1 hA).1).trans hA)
  have HP1 := Lib.hid ((hb1.block _ hPl).trans hP)
  have HQ1 := Lib.hid ((hb1.block _ hQl).trans hQ)
  have HR1 := Lib.hid ((hb1.block _ hRl).trans hR)
  have HB1 := Lib.hid hb1
  have HX := Lib.hid (heap_alloc_new w (.cells #[.pointer none] 35))
  have HPl := Lib.hid hPl
  have HQl := Lib.hid hQl
  have HRl := Lib.hid hRl
  have HNe := Lib.hid hPQ
  clear h hA hP hQ hR hG hb1 hl hPl hQl hRl hPQ
  cases hf : firstT L with
  | none =>
    have HF := Lib.hid hf
    clear hf
    go_enter Tryd.func17, Tryd.ntmps17
    go_wp2_with (go_at_call 18; refine HA.out.mono ?_; rintro e w2 ⟨r, rfl, h2⟩; have h3 : r = false ∧ Below (w.alloc (.cells #[.pointer none] 35)).heap.size (w.alloc (.cells #[.pointer none] 35)) w2 := (by unfold AsT at h2; rw [HF.out] at h2; exact h2); obtain ⟨rfl, hb⟩ := h3; have HB := Lib.hid hb; clear h2 hb)
    go_end0
    have hv : placeV L = (0, 0, false) := by unfold placeV; rw [HF.out]
    rw [hv]
    exact ⟨rfl, ButL.of_below (keepE HB1.out HB.out), (HB.out.block _ (Nat.lt_of_lt_of_le HPl.out HB1.out.size)).trans HP1.out, (HB.out.block _ (Nat.lt_of_lt_of_le HQl.out HB1.out.size)).trans HQ1.out, (HB.out.block _ (Nat.lt_of_lt_of_le HRl.out HB1.out.size)).trans HR1.out⟩
  | some lc =>
    obtain ⟨l, c⟩ := lc
    have HF := Lib.hid hf
    clear hf
    go_enter Tryd.func17, Tryd.ntmps17
    go_wp2_with (go_at_call 18; refine HA.out.mono ?_; rintro e w2 ⟨r, rfl, h2⟩; have h3 : ∃ b u w3, r = true ∧ Below (w.alloc (.cells #[.pointer none] 35)).heap.size (w.alloc (.cells #[.pointer none] 35)) w3 ∧ w3.heap[b]? = some (.cells #[.int .i64 l, .int .i64 c, u] 37 (0, 0)) ∧ w2 = w3.setCell ⟨w.heap.size, 0, none⟩ (.pointer (some ⟨b, 0, none⟩)) := (by unfold AsT at h2; rw [HF.out] at h2; exact h2); obtain ⟨b, u, w3, rfl, hb, hc, hw⟩ := h3; have hx3 := (hb.block _ (Array.getElem?_eq_some_iff.1 HX.out).1).trans HX.out; have hne : b ≠ w.heap.size := (fun e => by subst e; rw [hx3] at hc; cases hc); have hx2 := set1 (y := .pointer (some ⟨b, 0, none⟩)) hx3; rw [← hw] at hx2; have kx := cell1 hx2; have hc2 : w2.heap[b]? = some (.cells #[.int .i64 l, .int .i64 c, u] 37 (0, 0)) := (by rw [hw]; exact (setN hne).trans hc); have kc : w2.cell? ⟨b, 0, none⟩ = some (.int .i64 l) := (by simp [World.cell?, hc2]); have kc1 : w2.cell? ⟨b, 1, none⟩ = some (.int .i64 c) := (by simp [World.cell?, hc2]); have hs2 : w2.heap[P]? = some (.cells #[.int .i64 0] 3 (0, 0)) := (by rw [hw]; exact (setN (by have := HPl.out; omega)).trans ((hb.block _ (Nat.lt_of_lt_of_le HPl.out HB1.out.size)).trans HP1.out)); have hq2 : w2.heap[Q]? = some (.cells #[.int .i64 0] 3 (0, 0)) := (by rw [hw]; exact (setN (by have := HQl.out; omega)).trans ((hb.block _ (Nat.lt_of_lt_of_le HQl.out HB1.out.size)).trans HQ1.out)); have hr2 : w2.heap[R]? = some (.cells #[.bool false] 4 (0, 0)) := (by rw [hw]; exact (setN (by have := HRl.out; omega)).trans ((hb.block _ (Nat.lt_of_lt_of_le HRl.out HB1.out.size)).trans HR1.out)); have HP2 := Lib.hid hs2; have HQ2 := Lib.hid hq2; have HR2 := Lib.hid hr2; have HBu : Hid (ButL w.heap.size [P, Q, R] w w2) := Lib.hid (by rw [hw]; exact (ButL.of_below (keepE HB1.out hb)).set (.inr (Nat.le_refl _)) _ _); clear h2 hb hc hw hx3 hne hx2 hc2 hs2 hq2 hr2)
    obtain ⟨n1, n2, n3⟩ := HNe.out
    have kp := cell1 HP2.out
    have fp := free1 HP2.out 0
    have kq := cell1 HQ2.out
    have fq := free1 HQ2.out 0
    have kr := cell1 HR2.out
    have fr := free1 HR2.out 0
    have n1' : ¬ Q = P := fun e => n1 e.symm
    have n2' : ¬ R = P := fun e => n2 e.symm
    have n3' : ¬ R = Q := fun e => n3 e.symm
    go_region
    go_end0
    have hv : placeV L = (l, c, true) := by unfold placeV; rw [HF.out]
    rw [hv]
    refine ⟨rfl, ?_, ?_, ?_, ?_⟩
    · have := ((HBu.out.set (b := P) (.inl (by simp)) 0 (.int .i64 l)).set (b := Q) (.inl (by simp)) 0 (.int .i64 c)).set (b := R) (.inl (by simp)) 0 (.bool true)
      exact ⟨this.os, this.tape, this.output, this.size, this.block⟩
    · show (((w2.setCell ⟨P, 0, none⟩ (.int .i64 l)).setCell ⟨Q, 0, none⟩ (.int .i64 c)).setCell ⟨R, 0, none⟩ (.bool true)).heap[P]? = _
      rw [setN n2, setN n1]
      exact set1 HP2.out
    · show (((w2.setCell ⟨P, 0, none⟩ (.int .i64 l)).setCell ⟨Q, 0, none⟩ (.int .i64 c)).setCell ⟨R, 0, none⟩ (.bool true)).heap[Q]? = _
      rw [setN n3]
      exact set1 ((setN n1').trans HQ2.out)
    · show (((w2.setCell ⟨P, 0, none⟩ (.int .i64 l)).setCell ⟨Q, 0, none⟩ (.int .i64 c)).setCell ⟨R, 0, none⟩ (.bool true)).heap[R]? = _
      exact set1 ((setN n3').trans ((setN n2').trans HR2.out))
end Go.Proofs.YtfpgobbkeocokaaDoor
