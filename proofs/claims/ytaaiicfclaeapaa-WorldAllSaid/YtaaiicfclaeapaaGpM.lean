/- Streams: all of them. -/
import Derived.Test.YtaaiicfclaeapaaWaCd
namespace Go.Proofs.Ytaaiicfclaeapaa
open Go.RowKit Go.Mp Go.Rb Go.Lib
theorem stC_len (M : List (StmT × Value)) : (M.flatMap stC).length = M.length * 3 := by
  induction M with
  | nil => rfl
  | cons x M ih => simp [stC, ih]; omega
/-- The copy, as far as number i. -/
def StrmAt (w wr : World) (gm n : Nat) (L : List StmT) (i : Nat) : Prop :=
  ∃ (M : List (StmT × Value)) (zs : List Value), M.map (·.1) = L.take i ∧ M.length = i ∧ wr.ownsRow w.heap.size 72 3 (.slice (some ⟨gm, 0, none⟩) n n) n (M.flatMap stC ++ zs) ∧ zs.length = (n - i) * 3 ∧ (∀ x ∈ M, ∃ (a : Option Addr) (n c : Nat), x.2 = .slice a n c ∧ RB w.heap.size wr (.slice a n c) x.1.2.1)
set_option maxHeartbeats 4000000 in
set_option maxRecDepth 100000 in
theorem streams_x {S : Nat → Prop} {w : World} {b : Nat} {c0 : Value} {st : Int} {mp : Option Nat} {c3 v c5 c6 c7 : Value} {L : List StmT} {M : List (StmT × Value)} (hh : W8 w b c0 st mp c3 v c5 c6 c7) (hs : StmIn S w v L M) (hL : L.length ≤ 1000) (hl : ∀ x ∈ L, x.2.1.length ≤ 1000000) :
    Calls Try.prog 43 #[.pointer (some ⟨b, 0, none⟩)] w fun e w' => ∃ gm, e = .returned (.slice (some ⟨gm, 0, none⟩) L.length L.length) ∧ StrmAt w w' gm L.length L L.length ∧ Below w.heap.size w w' := by
  obtain ⟨p, cap, hv⟩ : ∃ p cap, v = .slice p L.length cap := by
    rcases hs.row.2 with ⟨e, e2⟩ | ⟨g, cap, cur, e, _⟩
    · exact ⟨none, 0, by rw [e, e2]⟩
    · exact ⟨_, _, e⟩
  subst hv
  have hbl := hh.lt
  have HH := Lib.hid hh
  have HS := Lib.hid hs
  obtain ⟨nL, hnL⟩ : ∃ nL, L.length = nL := ⟨_, rfl⟩
  have HnL := Lib.hid hnL
  obtain ⟨ib, hi, hz0, hz1, hz2⟩ := info_parts' infoStm
  have hcell : ∀ W, Below w.heap.size w W → W.cell? ⟨b, 4, none⟩ = some (.slice p nL cap) := fun W hW => by
    have h2 := (hW.block b hbl).trans hh
    rw [← hnL]
    simp [World.cell?, h2]
  have k3 := hcell w (Below.refl _ _)
  obtain ⟨w1, hmk, hown1, hg1⟩ := run_makeSlice_full w w.heap.size 29 72 ib _ 3 Try.underlying29 hi hz0 hz1 .i64 .i64 nL (by omega) (by rw [hz2]; omega) (by unfold maxLen; omega) (Nat.le_refl _)
  have hb1 : Below w.heap.size w w1 := ⟨hg1.os, hg1.tape, hg1.output, hg1.size, fun k hk => hg1.block k hk (by simp)⟩
  have k31 := hcell w1 hb1
  have HB1 := Lib.hid hb1
  have HO1 : Hid (StrmAt w w1 w.heap.size nL L 0) := Lib.hid ⟨[], _, by simp, rfl, hown1, by have := hown1.1; simpa using this, fun x hx => by simp at hx⟩
  clear hh hs hown1 hg1 hb1 hcell
  rw [hnL]
  rw [hnL] at hL
  go_enter Try.func43, Try.ntmps43
  go_wp2
  go_loopw [19] (fun iv wr => ∃ i : Nat, i ≤ nL ∧ iv = .int .i64 i ∧ StrmAt w wr w.heap.size nL L i ∧ Below w.heap.size w wr) (fun iv _ => nL - (intOf iv).toNat)
  case atStart => exact ⟨0, Nat.zero_le _, rfl, HO1.out, HB1.out⟩
  case round =>
    obtain ⟨i, hin, rfl, hA, hB⟩ := hrel
    have HA := Lib.hid hA
    have HB := Lib.hid hB
    by_cases hlt : i < nL
    · obtain ⟨Mi, zs, hm1, hm2, hrow, hzl, hat⟩ := hA
      have hSo := HS.out
      obtain ⟨x, hx⟩ : ∃ x, M[i]? = some x := ⟨_, List.getElem?_eq_getElem (by have := congrArg List.length hSo.map; simp at this; have := HnL.out; omega)⟩
      have hLx : L[i]? = some x.1 := by rw [← hSo.map, List.getElem?_map, hx]; rfl
      obtain ⟨a0, n0, cp0, hxv, hr0, _⟩ := hSo.at_ x (List.mem_iff_getElem?.2 ⟨i, hx⟩)
      obtain ⟨g, rfl⟩ : ∃ g, p = some ⟨g, 0, none⟩ := by
        rcases hSo.row.2 with ⟨e, e2⟩ | ⟨g, cap, cur, e, _⟩
        · have := HnL.out; omega
        · exact ⟨g, by injection e⟩
      have hgl : g < w.heap.size := (hSo.row.lt g rfl).2
      have src : ∀ j, j < 3 → w.cell? ⟨g, i * 3 + j, none⟩ = (stC x)[j]? := fun j hj => by
        rw [hSo.row.cellAt (i * 3 + j) (by rw [HnL.out]; omega), stC_at M i j x hx hj]
      have s0 : wr.cell? ⟨g, i * 3, none⟩ = some (.string x.1.1) := (hB.cell (p := ⟨g, i * 3, none⟩) hgl).trans (src 0 (by decide))
      have s1 : wr.cell? ⟨g, i * 3 + 1, none⟩ = some (.slice a0 n0 cp0) := (hB.cell (p := ⟨g, i * 3 + 1, none⟩) hgl).trans ((src 1 (by decide)).trans (by rw [← hxv]; rfl))
      have s2 : wr.cell? ⟨g, i * 3 + 2, none⟩ = some (.bool x.1.2.2) := (hB.cell (p := ⟨g, i * 3 + 2, none⟩) hgl).trans (src 2 (by decide))
      obtain ⟨z0, z1, z2, zs', rfl⟩ : ∃ z0 z1 z2 zs', zs = z0 :: z1 :: z2 :: zs' := by
        match zs, (show 3 ≤ zs.length by omega) with
        | z0 :: z1 :: z2 :: zs', _ => exact ⟨z0, z1, z2, zs', rfl⟩
      have hMl : (Mi.flatMap stC).length = i * 3 := by rw [stC_len, hm2]
      have hgm : w.heap.size < wr.heap.size := (hrow.lt w.heap.size rfl).2
      have hD : Below wr.heap.size wr (wr.alloc (.cells #[.string x.1.1, .slice a0 n0 cp0, .bool x.1.2.2] 72)) := (Below.refl _ _).alloc (Nat.le_refl _) _
      have HCp := Lib.hid (clone_rb (w := wr.alloc (.cells #[.string x.1.1, .slice a0 n0 cp0, .bool x.1.2.2] 72)) ((hr0.below hB).below hD) (hl x.1 (List.mem_iff_getElem?.2 ⟨i, hLx⟩)))
      have hDn : (wr.alloc (.cells #[.string x.1.1, .slice a0 n0 cp0, .bool x.1.2.2] 72)).heap[wr.heap.size]? = some (.cells #[.string x.1.1, .slice a0 n0 cp0, .bool x.1.2.2] 72 (0, 0)) := heap_alloc_new _ _
      have d1 : (wr.alloc (.cells #[.string x.1.1, .slice a0 n0 cp0, .bool x.1.2.2] 72)).cell? ⟨wr.heap.size, 1, none⟩ = some (.slice a0 n0 cp0) := by rw [World.cell?_alloc_new]; rfl
      have HW3 : Hid (∀ w3 u, Below (wr.alloc (.cells #[.string x.1.1, .slice a0 n0 cp0, .bool x.1.2.2] 72)).heap.size (wr.alloc (.cells #[.string x.1.1, .slice a0 n0 cp0, .bool x.1.2.2] 72)) w3 → Hid (Below wr.heap.size wr (w3.setCell ⟨wr.heap.size, 1, none⟩ u)) ∧ Hid ((w3.setCell ⟨wr.heap.size, 1, none⟩ u).ownsRow w.heap.size 72 3 (.slice (some ⟨w.heap.size, 0, none⟩) nL nL) nL (Mi.flatMap stC ++ z0 :: z1 :: z2 :: zs')) ∧ (w3.cell? ⟨wr.heap.size, 1, none⟩ = some (.slice a0 n0 cp0) ∧ w3.frozen? ⟨wr.heap.size, 1, none⟩ = false) ∧ ((w3.setCell ⟨wr.heap.size, 1, none⟩ u).cell? ⟨wr.heap.size, 0, none⟩ = some (.string x.1.1) ∧ (w3.setCell ⟨wr.heap.size, 1, none⟩ u).cell? ⟨wr.heap.size, 1, none⟩ = some u ∧ (w3.setCell ⟨wr.heap.size, 1, none⟩ u).cell? ⟨wr.heap.size, 2, none⟩ = some (.bool x.1.2.2)) ∧ (w3.setCell ⟨wr.heap.size, 1, none⟩ u).cell? ⟨w.heap.size, i * 3, none⟩ = some z0 ∧ (w3.setCell ⟨wr.heap.size, 1, none⟩ u).cell? ⟨w.heap.size, i * 3 + 1, none⟩ = some z1 ∧ (w3.setCell ⟨wr.heap.size, 1, none⟩ u).cell? ⟨w.heap.size, i * 3 + 2, none⟩ = some z2 ∧ (w3.setCell ⟨wr.heap.size, 1, none⟩ u).frozen? ⟨w.heap.size, i * 3, none⟩ = false ∧ (w3.setCell ⟨wr.heap.size, 1, none⟩ u).frozen? ⟨w.heap.size, i * 3 + 1, none⟩ = false ∧ (w3.setCell ⟨wr.heap.size, 1, none⟩ u).frozen? ⟨w.heap.size, i * 3 + 2, none⟩ = false) := Lib.hid (fun w3 u h3 => by
        have x3 := (h3.block wr.heap.size (by rw [size_alloc1]; omega)).trans hDn
        have x4 : (w3.setCell ⟨wr.heap.size, 1, none⟩ u).heap[wr.heap.size]? = some (.cells #[.string x.1.1, u, .bool x.1.2.2] 72 (0, 0)) := heap_setCell_eq _ _ _ _ _ _ _ x3
        have hb3 := (hD.trans (h3.mono hD.size)).setCell (p := ⟨wr.heap.size, 1, none⟩) (Nat.le_refl _) u
        have hr3 : (w3.setCell ⟨wr.heap.size, 1, none⟩ u).ownsRow w.heap.size 72 3 (.slice (some ⟨w.heap.size, 0, none⟩) nL nL) nL (Mi.flatMap stC ++ z0 :: z1 :: z2 :: zs') := ⟨hrow.1, hrow.2.imp id (fun ⟨g, cp, cur, e, r1, r2, r3⟩ => ⟨g, cp, cur, e, r1, (hb3.block g (Array.getElem?_eq_some_iff.1 r2).1).trans r2, r3⟩)⟩
        refine ⟨Lib.hid hb3, Lib.hid hr3, ⟨by simp [World.cell?, x3], by simp [World.frozen?, x3]⟩, ⟨by simp [World.cell?, x4], by simp [World.cell?, x4], by simp [World.cell?, x4]⟩, ?_, ?_, ?_, hr3.frozenAt _, hr3.frozenAt _, hr3.frozenAt _⟩
        · rw [hr3.cellAt _ (by omega), List.getElem?_append_right (by omega), hMl]; simp
        · rw [hr3.cellAt _ (by omega), List.getElem?_append_right (by omega), hMl]; simp
        · rw [hr3.cellAt _ (by omega), List.getElem?_append_right (by omega), hMl]; simp)
      have e1 : (i : Int) < (nL : Int) := by omega
      have e2 : (0 : Int) ≤ (i : Int) := by omega
      have HAt := Lib.hid hat
      have HM := Lib.hid (show Mi.map (·.1) = L.take i ∧ Mi.length = i ∧ (Mi.flatMap stC).length = i * 3 ∧ (z0 :: z1 :: z2 :: zs').length = (nL - i) * 3 ∧ L[i]? = some x.1 from ⟨hm1, hm2, hMl, hzl, hLx⟩)
      clear hm1 hm2 hrow hzl hat hSo hx hLx hxv hr0 src hMl hD hDn hB hl
      go_wp2_with (go_at_call 31; refine HCp.out.mono ?_; rintro e w3 ⟨p1, c1, rfl, hr3, hb3⟩; obtain ⟨HB3, HR3, ⟨q1, q2⟩, ⟨r0, r1, r2⟩, y0, y1, y2, f0, f1, f2⟩ := HW3.out w3 (.slice p1 x.1.2.1.length c1) hb3; have HRb := Lib.hid hr3; have HB33 := Lib.hid hb3; clear hr3 hb3)
      go_roundw
      case rel =>
        have st3 := (((HR3.out.stored (i * 3) (.string x.1.1)).1.stored (i * 3 + 1) (.slice p1 x.1.2.1.length c1)).1.stored (i * 3 + 2) (.bool x.1.2.2)).1
        rw [set3 _ _ HM.out.2.2.1] at st3
        have hgm3 : ∀ (a : Addr) n c l, RB w.heap.size (w3.setCell ⟨wr.heap.size, 1, none⟩ (.slice p1 x.1.2.1.length c1)) (.slice (some a) n c) l → a.block ≠ w.heap.size := fun a n c l hr e => by
          obtain ⟨_, _, _, _, _, cur, fr, hcur⟩ := RB.obj hr
          rcases HR3.out.2 with ⟨e5, _⟩ | ⟨g', cp, cur2, e5, _, hg, _⟩
          · cases e5
          · have : w.heap.size = g' := by injection e5 with e6; injection e6 with e6; injection e6
            rw [← this, ← e, hcur] at hg
            injection hg with hg
            injection hg with _ hg
            exact absurd hg (by decide)
        have keep : ∀ (a : Option Addr) n c l, RB w.heap.size (w3.setCell ⟨wr.heap.size, 1, none⟩ (.slice p1 x.1.2.1.length c1)) (.slice a n c) l → RB w.heap.size ((((w3.setCell ⟨wr.heap.size, 1, none⟩ (.slice p1 x.1.2.1.length c1)).setCell ⟨w.heap.size, i * 3, none⟩ (.string x.1.1)).setCell ⟨w.heap.size, i * 3 + 1, none⟩ (.slice p1 x.1.2.1.length c1)).setCell ⟨w.heap.size, i * 3 + 2, none⟩ (.bool x.1.2.2)) (.slice a n c) l := fun a n c l hr => RB.same hr (fun q n' c' e => by
          injection e with e1
          subst e1
          have hq := hgm3 q _ _ _ hr
          exact (heap_setCell_ne _ _ _ _ _ hq).trans ((heap_setCell_ne _ _ _ _ _ hq).trans (heap_setCell_ne _ _ _ _ _ hq)))
        refine ⟨i + 1, hlt, by go_num, ⟨Mi ++ [(x.1, (.slice p1 x.1.2.1.length c1))], zs', ?_, ?_, ?_, ?_, fun y hy => ?_⟩, ?_⟩
        · rw [List.map_append, HM.out.1, List.take_add_one, HM.out.2.2.2.2]; rfl
        · rw [List.length_append, HM.out.2.1]; rfl
        · rw [List.flatMap_append]; exact st3
        · have := HM.out.2.2.2.1; simp at this; omega
        · rcases List.mem_append.1 hy with hy | hy
          · obtain ⟨a, n, c, e, hr⟩ := HAt.out y hy
            exact ⟨a, n, c, e, keep _ _ _ _ (hr.below HB3.out)⟩
          · rw [List.mem_singleton.1 hy]
            refine ⟨p1, _, c1, rfl, keep _ _ _ _ (RB.base (RB.same HRb.out (fun q n' c' e => ?_)) (by rw [size_alloc1]; omega))⟩
            injection e with e1
            have := (RB.blk HRb.out e1).1
            rw [size_alloc1] at this
            exact heap_setCell_ne _ _ _ _ _ (by omega)
        · exact (((HB.out.trans (HB3.out.mono HB.out.size)).setCell (p := ⟨w.heap.size, i * 3, none⟩) (Nat.le_refl _) _).setCell (p := ⟨w.heap.size, i * 3 + 1, none⟩) (Nat.le_refl _) _).setCell (p := ⟨w.heap.size, i * 3 + 2, none⟩) (Nat.le_refl _) _
      case measure => simp [intOf]; omega
    · obtain rfl : i = nL := by omega
      clear hA hB
      go_wp2
      go_ret
      exact ⟨_, rfl, HA.out, HB.out⟩
end Go.Proofs.Ytaaiicfclaeapaa
