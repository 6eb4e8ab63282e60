/- The document's world: Cut, the walk. -/
import Derived.Test.YtaaiicfclaeapaaWaCd
namespace Go.Proofs.Ytaaiicfclaeapaa
open Go.RowKit Go.Mp Go.Rb Go.Lib
theorem rawC_one (x : RawD) (a : Option Addr) (n ca : Nat) : ∀ u ∈ rawC x (.slice a n ca), u.oneCell' = true := by
  intro u hu
  simp [rawC] at hu
  rcases hu with rfl | rfl | rfl <;> rfl
theorem filC_one (x : FilD) (a : Option Addr) (n ca : Nat) : ∀ u ∈ filC x (.slice a n ca), u.oneCell' = true := by
  intro u hu
  simp [filC] at hu
  rcases hu with rfl | rfl | rfl | rfl <;> rfl
section
variable {R : Nat → Prop} {r : Nat} {now cnt : Int} {vF vS vT vR : Value} {F : List FilD} {L : List RawD}
def CutD (R : Nat → Prop) (w : World) (now cnt : Int) (F : List FilD) (L : List RawD) (N : Nat) (e : Ending) (w' : World) : Prop :=
  ∃ (r2 : Nat) (vF2 vR2 : Value), e = .returned (.pointer (some ⟨r2, 0, none⟩)) ∧ w.heap.size ≤ r2 ∧ W7 w' r2 now cnt vF2 (.slice none 0 0) (.slice none 0 0) vR2 (N : Int) ∧ FRow (nw R w w') w' vF2 F ∧ RRow (nw R w w') w' vR2 (L.take N) ∧ Below w.heap.size w w' ∧ (∀ g, vF2.ownBlock = some g → w.heap.size ≤ g) ∧ (∀ g, vR2.ownBlock = some g → w.heap.size ≤ g)
theorem cut_fin {w w4 w6 : World} {p4 pF : Option Addr} {N m c4 cF : Nat} {LN : List RawD} (h4 : Below w.heap.size w w4) (hR4 : RRow (nw R w w4) w4 (.slice p4 N c4) LN)
    (h6 : Below (w4.alloc (.cells #[.int .i64 now, .int .i64 cnt, .slice none 0 0, .slice none 0 0, .slice none 0 0, .slice p4 N c4, .int .i64 (N : Int)] 32)).heap.size (w4.alloc (.cells #[.int .i64 now, .int .i64 cnt, .slice none 0 0, .slice none 0 0, .slice none 0 0, .slice p4 N c4, .int .i64 (N : Int)] 32)) w6) (hF6 : FRow (nw R w w6) w6 (.slice pF m cF) F) :
    W7 (w6.setCell ⟨w4.heap.size, 2, none⟩ (.slice pF m cF)) w4.heap.size now cnt (.slice pF m cF) (.slice none 0 0) (.slice none 0 0) (.slice p4 N c4) (N : Int) ∧ FRow (nw R w (w6.setCell ⟨w4.heap.size, 2, none⟩ (.slice pF m cF))) (w6.setCell ⟨w4.heap.size, 2, none⟩ (.slice pF m cF)) (.slice pF m cF) F ∧ RRow (nw R w (w6.setCell ⟨w4.heap.size, 2, none⟩ (.slice pF m cF))) (w6.setCell ⟨w4.heap.size, 2, none⟩ (.slice pF m cF)) (.slice p4 N c4) LN ∧ Below w.heap.size w (w6.setCell ⟨w4.heap.size, 2, none⟩ (.slice pF m cF)) := by
  have hz4 := h4.size
  have hs5 : (w4.alloc (.cells #[.int .i64 now, .int .i64 cnt, .slice none 0 0, .slice none 0 0, .slice none 0 0, .slice p4 N c4, .int .i64 (N : Int)] 32)).heap.size = w4.heap.size + 1 := size_alloc1 _ _
  have h5 : Below w4.heap.size w4 (w4.alloc (.cells #[.int .i64 now, .int .i64 cnt, .slice none 0 0, .slice none 0 0, .slice none 0 0, .slice p4 N c4, .int .i64 (N : Int)] 32)) := (Below.refl _ _).alloc (Nat.le_refl _) _
  have hw5 : W7 (w4.alloc (.cells #[.int .i64 now, .int .i64 cnt, .slice none 0 0, .slice none 0 0, .slice none 0 0, .slice p4 N c4, .int .i64 (N : Int)] 32)) w4.heap.size now cnt (.slice none 0 0) (.slice none 0 0) (.slice none 0 0) (.slice p4 N c4) (N : Int) := heap_alloc_new _ _
  have hw6 : W7 w6 w4.heap.size now cnt (.slice none 0 0) (.slice none 0 0) (.slice none 0 0) (.slice p4 N c4) (N : Int) := (h6.block _ hw5.lt).trans hw5
  generalize (w4.alloc (.cells #[.int .i64 now, .int .i64 cnt, .slice none 0 0, .slice none 0 0, .slice none 0 0, .slice p4 N c4, .int .i64 (N : Int)] 32)) = w5 at *
  have h46 : Below w4.heap.size w4 w6 := h5.trans (h6.mono h5.size)
  have hz6 := h6.size
  have hs7 : (w6.setCell ⟨w4.heap.size, 2, none⟩ (.slice pF m cF)).heap.size = w6.heap.size := size_setCell' _ _ _
  have hch : Chg (nw R w w6) WTy w6 (w6.setCell ⟨w4.heap.size, 2, none⟩ (.slice pF m cF)) := Chg.set (R := nw R w w6) (Ty := WTy) hw6 (Or.inr ⟨by omega, by omega⟩) (show WTy _ from rfl) 2 _
  have hnw : ∀ k, nw R w w6 k → nw R w (w6.setCell ⟨w4.heap.size, 2, none⟩ (.slice pF m cF)) k := fun k hk => hk.imp id (fun h => ⟨h.1, by rw [hs7]; exact h.2⟩)
  have hR6 : RRow (nw R w w6) w6 (.slice p4 N c4) LN := hR4.chg (Ty := fun _ => False) (Q := nw R w w4) (Chg.of h46) (fun h => h) (fun h => h) (fun k hk => hk.imp id (fun h => ⟨h.1, Nat.lt_of_lt_of_le h.2 h46.size⟩))
  refine ⟨heap_setCell_eq _ _ _ _ _ _ _ hw6, hF6.chg hch (by unfold WTy; decide) (by unfold WTy; decide) hnw, hR6.chg hch (by unfold WTy; decide) (by unfold WTy; decide) hnw, ?_⟩
  have h7 := h4.trans (h46.mono hz4)
  exact ⟨h7.os, h7.tape, h7.output, by rw [hs7]; exact h7.size, fun k hk => (heap_setCell_ne _ _ _ _ _ (by omega)).trans (h7.block k hk)⟩
set_option maxHeartbeats 2000000 in
set_option maxRecDepth 100000 in
theorem cut_d {w : World} {syn N : Nat} (hW : W7 w r now cnt vF vS vT vR (syn : Int)) (hF : FRow R w vF F) (hT : RRow R w vR L) (hFl : F.length ≤ 1000) (hL : L.length ≤ 1000) (hsyn : syn ≤ L.length) (n : Int) (hn : -9223372036854775808 ≤ n ∧ n ≤ 9223372036854775807)
    (hN : (n < syn ∧ N = syn) ∨ (¬ n < syn ∧ (L.length : Int) < n ∧ N = L.length) ∨ (¬ n < syn ∧ ¬ (L.length : Int) < n ∧ n = N)) :
    Calls Try.prog 24 #[.pointer (some ⟨r, 0, none⟩), .int .i64 n] w (CutD R w now cnt F L N) := by
  obtain ⟨qF, capF, rfl⟩ := hF.shape
  obtain ⟨qR, capR, rfl⟩ := hT.shape
  obtain ⟨ib, hib, hz0, hz1, hz2⟩ := info_parts' infoRaw
  obtain ⟨jb, hjb, hy0, hy1, hy2⟩ := info_parts' infoFil
  have hNl : N ≤ L.length := by rcases hN with ⟨_, rfl⟩ | ⟨_, _, rfl⟩ | ⟨h1, h2, h3⟩ <;> omega
  obtain ⟨newR, r1, r2, r3, r4, r5⟩ := hT.front rawC_len rawC_one N hNl
  obtain ⟨newF, f1, f2, f3, f4, f5⟩ := hF.front filC_len filC_one F.length (Nat.le_refl _)
  rw [List.take_length] at f5
  have hcap : L.length ≤ capR ∧ capR ≤ 9223372036854775807 := by
    obtain ⟨M, _, h2, _⟩ := hT
    rcases h2.2 with ⟨hv, hb⟩ | ⟨g, cp, cur, hv, _, _, h5, h6, _⟩
    · injection hv with e1 e2 e3; omega
    · injection hv with e1 e2 e3; exact ⟨by omega, by unfold maxLen at h6; omega⟩
  have hqR : (qR = none ∧ L.length = 0 ∧ capR = 0) ∨ ∃ g, qR = some ⟨g, 0, none⟩ := by
    obtain ⟨M, _, h2, _⟩ := hT
    rcases h2.2 with ⟨hv, hb⟩ | ⟨g, cp, cur, hv, _⟩
    · injection hv with e1 e2 e3; exact .inl ⟨e1, hb, e3⟩
    · injection hv with e1 e2 e3; exact .inr ⟨g, e1⟩
  have HS : Hid (∀ W, Below w.heap.size w W → W.cell? ⟨r, 0, none⟩ = some (.int .i64 now) ∧ W.cell? ⟨r, 1, none⟩ = some (.int .i64 cnt) ∧ W.cell? ⟨r, 5, none⟩ = some (.slice qR L.length capR)) := Lib.hid (fun W hW2 => by
    have h7 : W7 W r now cnt (.slice qF F.length capF) vS vT (.slice qR L.length capR) syn := (hW2.block r hW.lt).trans hW
    unfold W7 at h7
    exact ⟨by simp [World.cell?, h7], by simp [World.cell?, h7], by simp [World.cell?, h7]⟩)
  have HF2 : Hid (∀ W, Below w.heap.size w W → W.cell? ⟨r, 2, none⟩ = some (.slice qF F.length capF)) := Lib.hid (fun W hW2 => by
    have h7 : W7 W r now cnt (.slice qF F.length capF) vS vT (.slice qR L.length capR) syn := (hW2.block r hW.lt).trans hW
    unfold W7 at h7
    simp [World.cell?, h7])
  have k5 := (HS.out w (Below.refl _ _)).2.2
  have k6 : w.cell? ⟨r, 6, none⟩ = some (.int .i64 syn) := by unfold W7 at hW; simp [World.cell?, hW]
  have HR := Lib.hid (show newR.length = N * 3 ∧ (qR = none → N = 0) ∧ (∀ u ∈ newR, u.oneCell' = true) ∧ (∀ W, Below w.heap.size w W → ∀ ad, qR = some ad → ∀ j u, newR[j]? = some u → W.cell? (ad.add j) = some u) from ⟨r1, r2, r3, r4⟩)
  have HNF := Lib.hid (show newF.length = F.length * 4 ∧ (qF = none → F.length = 0) ∧ (∀ u ∈ newF, u.oneCell' = true) ∧ (∀ W, Below w.heap.size w W → ∀ ad, qF = some ad → ∀ j u, newF[j]? = some u → W.cell? (ad.add j) = some u) from ⟨f1, f2, f3, f4⟩)
  have H5R := Lib.hid r5
  have H5F := Lib.hid f5
  have hrl := hW.lt
  have hN0 : (0 : Int) ≤ (N : Int) := by omega
  have hNc : (N : Int) ≤ (capR : Int) := by omega
  clear hW hF hT r1 r2 r3 r4 r5 f1 f2 f3 f4 f5
  rcases hqR with ⟨rfl, hL0, rfl⟩ | ⟨gR, rfl⟩
  · obtain rfl : L = [] := List.length_eq_zero_iff.1 hL0
    obtain rfl : N = 0 := by simpa using hNl
    obtain rfl : syn = 0 := by simpa using hsyn
    clear hL0 hN hNl hsyn hN0 hNc hcap
    rcases Int.lt_trichotomy n 0 with c1 | rfl | c1
    all_goals (
      go_enter Try.func24, Try.ntmps24
      go_upto_region 5 with (fail)
      clear k5 k6
      go_region_held3 (fun W => W.cell? ⟨r, 0, none⟩ = some (.int .i64 now) ∧ W.cell? ⟨r, 1, none⟩ = some (.int .i64 cnt) ∧ W.cell? ⟨r, 5, none⟩ = some (.slice none 0 0)) (first | exact HS.out _ (Below.refl _ _) | exact HS.out _ (Below.refl _ _).drew | exact HS.out _ HB4.out | exact HS.out _ (HB4.out.alloc HB4.out.size _)) (((refine step_append_rows rfl _ _ 30 rfl 47 ib (.agg #[.string ⟨#[]⟩, .slice none 0 0, .bool false]) 3 48 Try.underlying30 hib hz0 hz1 hz2 rfl (by decide) (none) (0) (0) newR rfl rfl HR.out.1 (HR.out.2.2.2 _ (by first | exact (Below.refl _ _).drew | exact Below.refl _ _)) HR.out.2.1 HR.out.2.2.1 (by unfold maxLen; omega) (by omega) ?_; intro p4 c4 w4 ho4 hb4; have HO4 := Lib.hid ho4; have HB4 : Hid (Below w.heap.size w w4) := Lib.hid (by first | exact (Below.refl _ w).drew.trans hb4 | exact hb4); have HB4' := Lib.hid hb4; clear ho4 hb4))))
    all_goals (
      have hR4 : RRow (nw R w w4) w4 (.slice p4 0 c4) (([] : List RawD).take 0) ∧ (∀ g, (Value.slice p4 0 c4).ownBlock = some g → w.heap.size ≤ g) := by first | exact H5R.out w.drew w4 _ (Below.refl _ _).drew HB4'.out HO4.out | exact H5R.out w w4 _ (Below.refl _ _) HB4'.out HO4.out
      have HR4 := Lib.hid hR4.1
      have HR4o := Lib.hid hR4.2
      obtain ⟨W5, hW5⟩ : ∃ W5, w4.alloc (.cells #[.int .i64 now, .int .i64 cnt, .slice none 0 0, .slice none 0 0, .slice none 0 0, .slice p4 0 c4, .int .i64 0] 32) = W5 := ⟨_, rfl⟩
      have hb45 : Below w.heap.size w W5 := by rw [← hW5]; exact HB4.out.alloc HB4.out.size _
      have hw5 : W7 W5 w4.heap.size now cnt (.slice none 0 0) (.slice none 0 0) (.slice none 0 0) (.slice p4 0 c4) 0 := by rw [← hW5]; exact heap_alloc_new _ _
      have k52 : W5.cell? ⟨w4.heap.size, 2, none⟩ = some (.slice none 0 0) := by have h := hw5; unfold W7 at h; simp [World.cell?, h]
      have kr2 := HF2.out W5 hb45
      have HX5 : Hid (∀ W, Below W5.heap.size W5 W → W.cell? ⟨w4.heap.size, 2, none⟩ = some (.slice none 0 0) ∧ W.frozen? ⟨w4.heap.size, 2, none⟩ = false) := Lib.hid (fun W hW => by
        have h := (hW.block _ hw5.lt).trans hw5
        exact ⟨by simp [World.cell?, h], by simp [World.frozen?, h]⟩)
      have HB45 := Lib.hid hb45
      have HW5 := Lib.hid hW5
      clear hR4 hb45 hw5
      rw [hW5]
      clear hW5
      go_upto_region 6 with (fail)
      go_region_law (refine step_append_rows rfl _ _ 27 rfl 69 jb (.agg #[.string ⟨#[]⟩, .slice none 0 0, .int .i64 0, .bool false]) 4 56 Try.underlying27 hjb hy0 hy1 hy2 rfl (by decide) qF F.length capF newF rfl rfl HNF.out.1 (HNF.out.2.2.2 _ (by first | exact HB45.out.drew | exact HB45.out)) HNF.out.2.1 HNF.out.2.2.1 (by unfold maxLen; omega) (by omega) ?_; intro p6 c6 w6 ho6 hb6; have HO6 := Lib.hid ho6; have HB6 : Hid (Below W5.heap.size W5 w6) := Lib.hid (by first | exact (Below.refl _ W5).drew.trans hb6 | exact hb6); have HB6' := Lib.hid hb6; obtain ⟨k6a, k6b⟩ := HX5.out w6 HB6.out; clear ho6 hb6)
      all_goals (
        go_wp2
        go_ret
        have hF6 : FRow (nw R w w6) w6 (.slice p6 F.length c6) F ∧ (∀ g, (Value.slice p6 F.length c6).ownBlock = some g → w.heap.size ≤ g) := by first | exact H5F.out W5.drew w6 _ HB45.out.drew HB6'.out HO6.out | exact H5F.out W5 w6 _ HB45.out HB6'.out HO6.out
        obtain ⟨t1, t2, t3, t4⟩ := cut_fin (now := now) (cnt := cnt) (N := 0) HB4.out HR4.out (by show Below (w4.alloc (.cells #[.int .i64 now, .int .i64 cnt, .slice none 0 0, .slice none 0 0, .slice none 0 0, .slice p4 0 c4, .int .i64 0] 32)).heap.size (w4.alloc (.cells #[.int .i64 now, .int .i64 cnt, .slice none 0 0, .slice none 0 0, .slice none 0 0, .slice p4 0 c4, .int .i64 0] 32)) w6; rw [HW5.out]; exact HB6.out) hF6.1
        exact ⟨w4.heap.size, _, _, rfl, HB4.out.size, t1, t2, t3, t4, hF6.2, HR4o.out⟩))
  · rcases hN with ⟨c1, rfl⟩ | ⟨c1, c2, rfl⟩ | ⟨c1, c2, rfl⟩
    · go_enter Try.func24, Try.ntmps24
      go_upto_region 5 with (fail)
      clear k5 k6
      go_region_held3 (fun W => W.cell? ⟨r, 0, none⟩ = some (.int .i64 now) ∧ W.cell? ⟨r, 1, none⟩ = some (.int .i64 cnt) ∧ W.cell? ⟨r, 5, none⟩ = some (.slice (some ⟨gR, 0, none⟩) L.length capR)) (first | exact HS.out _ (Below.refl _ _) | exact HS.out _ (Below.refl _ _).drew | exact HS.out _ HB4.out | exact HS.out _ (HB4.out.alloc HB4.out.size _)) (((refine step_append_rows rfl _ _ 30 rfl 47 ib (.agg #[.string ⟨#[]⟩, .slice none 0 0, .bool false]) 3 48 Try.underlying30 hib hz0 hz1 hz2 rfl (by decide) (some ⟨gR, 0, none⟩) (N) (capR) newR rfl rfl HR.out.1 (HR.out.2.2.2 _ (by first | exact (Below.refl _ _).drew | exact Below.refl _ _)) HR.out.2.1 HR.out.2.2.1 (by unfold maxLen; omega) (by omega) ?_; intro p4 c4 w4 ho4 hb4; have HO4 := Lib.hid ho4; have HB4 : Hid (Below w.heap.size w w4) := Lib.hid (by first | exact (Below.refl _ w).drew.trans hb4 | exact hb4); have HB4' := Lib.hid hb4; clear ho4 hb4)))
      have hR4 : RRow (nw R w w4) w4 (.slice p4 N c4) (L.take N) ∧ (∀ g, (Value.slice p4 N c4).ownBlock = some g → w.heap.size ≤ g) := by first | exact H5R.out w.drew w4 _ (Below.refl _ _).drew HB4'.out HO4.out | exact H5R.out w w4 _ (Below.refl _ _) HB4'.out HO4.out
      have HR4 := Lib.hid hR4.1
      have HR4o := Lib.hid hR4.2
      obtain ⟨W5, hW5⟩ : ∃ W5, w4.alloc (.cells #[.int .i64 now, .int .i64 cnt, .slice none 0 0, .slice none 0 0, .slice none 0 0, .slice p4 N c4, .int .i64 (N : Int)] 32) = W5 := ⟨_, rfl⟩
      have hb45 : Below w.heap.size w W5 := by rw [← hW5]; exact HB4.out.alloc HB4.out.size _
      have hw5 : W7 W5 w4.heap.size now cnt (.slice none 0 0) (.slice none 0 0) (.slice none 0 0) (.slice p4 N c4) (N : Int) := by rw [← hW5]; exact heap_alloc_new _ _
      have k52 : W5.cell? ⟨w4.heap.size, 2, none⟩ = some (.slice none 0 0) := by have h := hw5; unfold W7 at h; simp [World.cell?, h]
      have kr2 := HF2.out W5 hb45
      have HX5 : Hid (∀ W, Below W5.heap.size W5 W → W.cell? ⟨w4.heap.size, 2, none⟩ = some (.slice none 0 0) ∧ W.frozen? ⟨w4.heap.size, 2, none⟩ = false) := Lib.hid (fun W hW => by
        have h := (hW.block _ hw5.lt).trans hw5
        exact ⟨by simp [World.cell?, h], by simp [World.frozen?, h]⟩)
      have HB45 := Lib.hid hb45
      have HW5 := Lib.hid hW5
      clear hR4 hb45 hw5
      rw [hW5]
      clear hW5
      go_upto_region 6 with (fail)
      go_region_law (refine step_append_rows rfl _ _ 27 rfl 69 jb (.agg #[.string ⟨#[]⟩, .slice none 0 0, .int .i64 0, .bool false]) 4 56 Try.underlying27 hjb hy0 hy1 hy2 rfl (by decide) qF F.length capF newF rfl rfl HNF.out.1 (HNF.out.2.2.2 _ (by first | exact HB45.out.drew | exact HB45.out)) HNF.out.2.1 HNF.out.2.2.1 (by unfold maxLen; omega) (by omega) ?_; intro p6 c6 w6 ho6 hb6; have HO6 := Lib.hid ho6; have HB6 : Hid (Below W5.heap.size W5 w6) := Lib.hid (by first | exact (Below.refl _ W5).drew.trans hb6 | exact hb6); have HB6' := Lib.hid hb6; obtain ⟨k6a, k6b⟩ := HX5.out w6 HB6.out; clear ho6 hb6)
      all_goals (
        go_wp2
        go_ret
        have hF6 : FRow (nw R w w6) w6 (.slice p6 F.length c6) F ∧ (∀ g, (Value.slice p6 F.length c6).ownBlock = some g → w.heap.size ≤ g) := by first | exact H5F.out W5.drew w6 _ HB45.out.drew HB6'.out HO6.out | exact H5F.out W5 w6 _ HB45.out HB6'.out HO6.out
        obtain ⟨t1, t2, t3, t4⟩ := cut_fin HB4.out HR4.out (by rw [HW5.out]; exact HB6.out) hF6.1
        exact ⟨w4.heap.size, _, _, rfl, HB4.out.size, t1, t2, t3, t4, hF6.2, HR4o.out⟩)
    · go_enter Try.func24, Try.ntmps24
      go_upto_region 5 with (fail)
      clear k5 k6
      go_region_held3 (fun W => W.cell? ⟨r, 0, none⟩ = some (.int .i64 now) ∧ W.cell? ⟨r, 1, none⟩ = some (.int .i64 cnt) ∧ W.cell? ⟨r, 5, none⟩ = some (.slice (some ⟨gR, 0, none⟩) L.length capR)) (first | exact HS.out _ (Below.refl _ _) | exact HS.out _ (Below.refl _ _).drew | exact HS.out _ HB4.out | exact HS.out _ (HB4.out.alloc HB4.out.size _)) (((refine step_append_rows rfl _ _ 30 rfl 47 ib (.agg #[.string ⟨#[]⟩, .slice none 0 0, .bool false]) 3 48 Try.underlying30 hib hz0 hz1 hz2 rfl (by decide) (some ⟨gR, 0, none⟩) (L.length) (capR) newR rfl rfl HR.out.1 (HR.out.2.2.2 _ (by first | exact (Below.refl _ _).drew | exact Below.refl _ _)) HR.out.2.1 HR.out.2.2.1 (by unfold maxLen; omega) (by omega) ?_; intro p4 c4 w4 ho4 hb4; have HO4 := Lib.hid ho4; have HB4 : Hid (Below w.heap.size w w4) := Lib.hid (by first | exact (Below.refl _ w).drew.trans hb4 | exact hb4); have HB4' := Lib.hid hb4; clear ho4 hb4)))
      have hR4 : RRow (nw R w w4) w4 (.slice p4 L.length c4) (L.take L.length) ∧ (∀ g, (Value.slice p4 L.length c4).ownBlock = some g → w.heap.size ≤ g) := by first | exact H5R.out w.drew w4 _ (Below.refl _ _).drew HB4'.out HO4.out | exact H5R.out w w4 _ (Below.refl _ _) HB4'.out HO4.out
      have HR4 := Lib.hid hR4.1
      have HR4o := Lib.hid hR4.2
      obtain ⟨W5, hW5⟩ : ∃ W5, w4.alloc (.cells #[.int .i64 now, .int .i64 cnt, .slice none 0 0, .slice none 0 0, .slice none 0 0, .slice p4 L.length c4, .int .i64 (L.length : Int)] 32) = W5 := ⟨_, rfl⟩
      have hb45 : Below w.heap.size w W5 := by rw [← hW5]; exact HB4.out.alloc HB4.out.size _
      have hw5 : W7 W5 w4.heap.size now cnt (.slice none 0 0) (.slice none 0 0) (.slice none 0 0) (.slice p4 L.length c4) (L.length : Int) := by rw [← hW5]; exact heap_alloc_new _ _
      have k52 : W5.cell? ⟨w4.heap.size, 2, none⟩ = some (.slice none 0 0) := by have h := hw5; unfold W7 at h; simp [World.cell?, h]
      have kr2 := HF2.out W5 hb45
      have HX5 : Hid (∀ W, Below W5.heap.size W5 W → W.cell? ⟨w4.heap.size, 2, none⟩ = some (.slice none 0 0) ∧ W.frozen? ⟨w4.heap.size, 2, none⟩ = false) := Lib.hid (fun W hW => by
        have h := (hW.block _ hw5.lt).trans hw5
        exact ⟨by simp [World.cell?, h], by simp [World.frozen?, h]⟩)
      have HB45 := Lib.hid hb45
      have HW5 := Lib.hid hW5
      clear hR4 hb45 hw5
      rw [hW5]
      clear hW5
      go_upto_region 6 with (fail)
      go_region_law (refine step_append_rows rfl _ _ 27 rfl 69 jb (.agg #[.string ⟨#[]⟩, .slice none 0 0, .int .i64 0, .bool false]) 4 56 Try.underlying27 hjb hy0 hy1 hy2 rfl (by decide) qF F.length capF newF rfl rfl HNF.out.1 (HNF.out.2.2.2 _ (by first | exact HB45.out.drew | exact HB45.out)) HNF.out.2.1 HNF.out.2.2.1 (by unfold maxLen; omega) (by omega) ?_; intro p6 c6 w6 ho6 hb6; have HO6 := Lib.hid ho6; have HB6 : Hid (Below W5.heap.size W5 w6) := Lib.hid (by first | exact (Below.refl _ W5).drew.trans hb6 | exact hb6); have HB6' := Lib.hid hb6; obtain ⟨k6a, k6b⟩ := HX5.out w6 HB6.out; clear ho6 hb6)
      all_goals (
        go_wp2
        go_ret
        have hF6 : FRow (nw R w w6) w6 (.slice p6 F.length c6) F ∧ (∀ g, (Value.slice p6 F.length c6).ownBlock = some g → w.heap.size ≤ g) := by first | exact H5F.out W5.drew w6 _ HB45.out.drew HB6'.out HO6.out | exact H5F.out W5 w6 _ HB45.out HB6'.out HO6.out
        obtain ⟨t1, t2, t3, t4⟩ := cut_fin HB4.out HR4.out (by rw [HW5.out]; exact HB6.out) hF6.1
        exact ⟨w4.heap.size, _, _, rfl, HB4.out.size, t1, t2, t3, t4, hF6.2, HR4o.out⟩)
    · go_enter Try.func24, Try.ntmps24
      go_upto_region 5 with (fail)
      clear k5 k6
      go_region_held3 (fun W => W.cell? ⟨r, 0, none⟩ = some (.int .i64 now) ∧ W.cell? ⟨r, 1, none⟩ = some (.int .i64 cnt) ∧ W.cell? ⟨r, 5, none⟩ = some (.slice (some ⟨gR, 0, none⟩) L.length capR)) (first | exact HS.out _ (Below.refl _ _) | exact HS.out _ (Below.refl _ _).drew | exact HS.out _ HB4.out | exact HS.out _ (HB4.out.alloc HB4.out.size _)) (((refine step_append_rows rfl _ _ 30 rfl 47 ib (.agg #[.string ⟨#[]⟩, .slice none 0 0, .bool false]) 3 48 Try.underlying30 hib hz0 hz1 hz2 rfl (by decide) (some ⟨gR, 0, none⟩) (N) (capR) newR rfl rfl HR.out.1 (HR.out.2.2.2 _ (by first | exact (Below.refl _ _).drew | exact Below.refl _ _)) HR.out.2.1 HR.out.2.2.1 (by unfold maxLen; omega) (by omega) ?_; intro p4 c4 w4 ho4 hb4; have HO4 := Lib.hid ho4; have HB4 : Hid (Below w.heap.size w w4) := Lib.hid (by first | exact (Below.refl _ w).drew.trans hb4 | exact hb4); have HB4' := Lib.hid hb4; clear ho4 hb4)))
      have hR4 : RRow (nw R w w4) w4 (.slice p4 N c4) (L.take N) ∧ (∀ g, (Value.slice p4 N c4).ownBlock = some g → w.heap.size ≤ g) := by first | exact H5R.out w.drew w4 _ (Below.refl _ _).drew HB4'.out HO4.out | exact H5R.out w w4 _ (Below.refl _ _) HB4'.out HO4.out
      have HR4 := Lib.hid hR4.1
      have HR4o := Lib.hid hR4.2
      obtain ⟨W5, hW5⟩ : ∃ W5, w4.alloc (.cells #[.int .i64 now, .int .i64 cnt, .slice none 0 0, .slice none 0 0, .slice none 0 0, .slice p4 N c4, .int .i64 (N : Int)] 32) = W5 := ⟨_, rfl⟩
      have hb45 : Below w.heap.size w W5 := by rw [← hW5]; exact HB4.out.alloc HB4.out.size _
      have hw5 : W7 W5 w4.heap.size now cnt (.slice none 0 0) (.slice none 0 0) (.slice none 0 0) (.slice p4 N c4) (N : Int) := by rw [← hW5]; exact heap_alloc_new _ _
      have k52 : W5.cell? ⟨w4.heap.size, 2, none⟩ = some (.slice none 0 0) := by have h := hw5; unfold W7 at h; simp [World.cell?, h]
      have kr2 := HF2.out W5 hb45
      have HX5 : Hid (∀ W, Below W5.heap.size W5 W → W.cell? ⟨w4.heap.size, 2, none⟩ = some (.slice none 0 0) ∧ W.frozen? ⟨w4.heap.size, 2, none⟩ = false) := Lib.hid (fun W hW => by
        have h := (hW.block _ hw5.lt).trans hw5
        exact ⟨by simp [World.cell?, h], by simp [World.frozen?, h]⟩)
      have HB45 := Lib.hid hb45
      have HW5 := Lib.hid hW5
      clear hR4 hb45 hw5
      rw [hW5]
      clear hW5
      go_upto_region 6 with (fail)
      go_region_law (refine step_append_rows rfl _ _ 27 rfl 69 jb (.agg #[.string ⟨#[]⟩, .slice none 0 0, .int .i64 0, .bool false]) 4 56 Try.underlying27 hjb hy0 hy1 hy2 rfl (by decide) qF F.length capF newF rfl rfl HNF.out.1 (HNF.out.2.2.2 _ (by first | exact HB45.out.drew | exact HB45.out)) HNF.out.2.1 HNF.out.2.2.1 (by unfold maxLen; omega) (by omega) ?_; intro p6 c6 w6 ho6 hb6; have HO6 := Lib.hid ho6; have HB6 : Hid (Below W5.heap.size W5 w6) := Lib.hid (by first | exact (Below.refl _ W5).drew.trans hb6 | exact hb6); have HB6' := Lib.hid hb6; obtain ⟨k6a, k6b⟩ := HX5.out w6 HB6.out; clear ho6 hb6)
      all_goals (
        go_wp2
        go_ret
        have hF6 : FRow (nw R w w6) w6 (.slice p6 F.length c6) F ∧ (∀ g, (Value.slice p6 F.length c6).ownBlock = some g → w.heap.size ≤ g) := by first | exact H5F.out W5.drew w6 _ HB45.out.drew HB6'.out HO6.out | exact H5F.out W5 w6 _ HB45.out HB6'.out HO6.out
        obtain ⟨t1, t2, t3, t4⟩ := cut_fin HB4.out HR4.out (by rw [HW5.out]; exact HB6.out) hF6.1
        exact ⟨w4.heap.size, _, _, rfl, HB4.out.size, t1, t2, t3, t4, hF6.2, HR4o.out⟩)
end
end Go.Proofs.Ytaaiicfclaeapaa
