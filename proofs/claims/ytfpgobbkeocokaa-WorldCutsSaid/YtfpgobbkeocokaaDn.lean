/- Contract of the disk's cut where nothing was written. -/
import Derived.Test.YtfpgobbkeocokaaDj
namespace Go.Proofs.Ytfpgobbkeocokaa
open Go.RowKit Go.Mp Go.Rb Go.Lib
section
variable {b B K : Nat} {c : Value × Value × Value × Value × Value} {mp : Option Nat} {D : DataW Value} {syn : Nat} {V : List (ByteArray × Value)} {p : Option Addr} {cap : Nat} {F : ByteArray → List UInt8} {UL : List (ByteArray × List UInt8)}
set_option maxHeartbeats 4000000 in
set_option maxRecDepth 100000 in
theorem cut_none {w : World} (h : DI w b B K c none D syn V p cap F UL) (n : Int) (hn : -9223372036854775808 ≤ n ∧ n ≤ 9223372036854775807) (hsyn : syn ≤ 100000) (hV : V.length ≤ 100000) (hK : K ≤ 1000000) (G : ByteArray → List UInt8) (N : Nat) (hG : ∀ t, t.size ≤ maxLen → Go.Maps.has D (keyL t) = true → RB B w ((fstV (V.drop (N - syn)) t).getD (valOf D t)) (G t) ∧ (G t).length ≤ 1000000) (hN : min (max n (syn : Int)) ((syn : Int) + (V.length : Int)) = (N : Int)) :
    Calls Try.prog 40 #[.pointer (some ⟨b, 5, none⟩), .int .i64 n] w fun e w' => ∃ mf, ∃ D' : DataW Value, e = .returned (.agg #[.map (some mf), .int .i64 (N : Int), .slice none 0 0]) ∧ MapD w' w.heap.size K (some mf) D' ∧ (∃ left, OutD w' w.heap.size D' D G left ∧ ∀ kl, left kl = false) ∧ Below w.heap.size w w' := by
  have hmm := @run_makeMap Try.prog
  have HD := Lib.hid h
  have HG := Lib.hid hG
  clear h hG
  go_enter Try.func40, Try.ntmps40
  go_upto_region 1 with (fail)
  have HB1 : Hid (Below w.heap.size w (w.alloc (.cells #[.map none, .int .i64 0, .slice none 0 0] 62))) := Lib.hid ((Below.refl _ w).alloc (Nat.le_refl _) _)
  have HZ1 : Hid ((w.alloc (.cells #[.map none, .int .i64 0, .slice none 0 0] 62)).heap[w.heap.size]? = some (.cells #[.map none, .int .i64 0, .slice none 0 0] 62 (0, 0))) := Lib.hid (heap_alloc_new w _)
  have HD1 := Lib.hid (HD.out.below HB1.out)
  have hs1 : (w.alloc (.cells #[.map none, .int .i64 0, .slice none 0 0] 62)).heap.size = w.heap.size + 1 := by show (w.heap.push _).size = _; simp
  have HS1 := Lib.hid hs1
  obtain ⟨bz, hbz⟩ : ∃ q, w.heap.size = q := ⟨_, rfl⟩
  have HBz := Lib.hid hbz
  clear hs1
  rw [hbz] at HZ1 ⊢
  clear hbz
  generalize w.alloc (.cells #[.map none, .int .i64 0, .slice none 0 0] 62) = W1 at *
  have HWr : Hid (Calls Try.prog 46 #[.pointer (some ⟨b, 5, none⟩)] W1.drew fun e w' => e = .returned (.int .i64 ((syn : Int) + (V.length : Int))) ∧ ∃ k, w' = W1.drew.drewN k) := Lib.hid (writes_any b c none syn p V.length cap W1.drew (HD1.out.below ((Below.refl _ W1).drew)).wd (by omega) (by omega))
  have k6 : ∀ q, (W1.drew.drewN q).cell? ⟨b, 6, none⟩ = some (.int .i64 (syn : Int)) := fun q => HD1.out.wd.c6
  have HK : Hid (W1.drew.cell? ⟨b, 6, none⟩ = some (.int .i64 (syn : Int))) := Lib.hid HD1.out.wd.c6
  obtain ⟨M, hM⟩ : ∃ M, max n (syn : Int) = M := ⟨_, rfl⟩
  have hmx : ∀ ats ty W, (Builtin.max_ ats ty #[.int .i64 n, .int .i64 (syn : Int)]).run Try.prog W = .ok (.int .i64 M) W := fun ats ty W => by
    rw [← hM]
    simp [Builtin.max_, Builtin.max2]
    omega
  have hmn : ∀ ats ty W, (Builtin.min_ ats ty #[.int .i64 M, .int .i64 ((syn : Int) + (V.length : Int))]).run Try.prog W = .ok (.int .i64 (N : Int)) W := fun ats ty W => by
    rw [← hN, hM]
    simp [Builtin.min_, Builtin.min2]
    omega
  have hNs : syn ≤ N := by omega
  have hNle0 : (N : Int) ≤ (syn : Int) + (V.length : Int) := by omega
  clear hM hN
  go_region_held3 (fun w' => w'.cell? ⟨b, 6, none⟩ = some (.int .i64 (syn : Int))) (first | exact HK.out) (first | (go_at_call 46; refine HWr.out.mono ?_; rintro e w2 ⟨rfl, hq⟩; have HK : Hid (w2.cell? ⟨b, 6, none⟩ = some (.int .i64 (syn : Int))) := Lib.hid (by obtain ⟨q, rfl⟩ := hq; exact k6 q); have HQ := Lib.hid hq; clear hq))
  all_goals
    have HB2 : Hid (Below w.heap.size w w2) := Lib.hid (by obtain ⟨q, hq⟩ := HQ.out; rw [hq]; exact bel_drewN ((HB1.out.trans ((Below.refl _ W1).drew.mono HB1.out.size))) q)
    have HD2 := Lib.hid (HD.out.below HB2.out)
    have HZ2 : Hid (w2.heap[bz]? = some (.cells #[.map none, .int .i64 0, .slice none 0 0] 62 (0, 0))) := Lib.hid (by obtain ⟨q, hq⟩ := HQ.out; rw [hq]; exact HZ1.out)
    have k7 := HD2.out.wd.c7
    have k7a : (w2.alloc (.map #[] 0)).cell? ⟨b, 7, none⟩ = some (.slice p V.length cap) := (HD2.out.below ((Below.refl _ w2).alloc (Nat.le_refl _) _)).wd.c7
    have hNle : N ≤ syn + V.length := by omega
    clear hmx hmn
    go_wp2
    go_loopw [6] (fun iv wr => ∃ (k : Nat) (D1 : DataW Value), k ≤ V.length ∧ N ≤ syn + k ∧ iv = .int .i64 ((k : Int) - 1) ∧ wr.ownsMap Try.prog 9 R33 w2.heap.size (V.length - k) D1 ∧ HeldD D1 (V.drop k) ∧ Below w2.heap.size w2 wr) (fun iv _ => (intOf iv + 1).toNat)
    case atStart => exact ⟨V.length, .map [], Nat.le_refl _, hNle, rfl, (World.ownsMap_made w2 _ _ _).mono (Nat.zero_le _), by rw [List.drop_length]; exact HeldD.nil, (Below.refl _ w2).alloc (Nat.le_refl _) _⟩
    case round =>
      obtain ⟨k, D1, hk, hNk, rfl, hom, hheld, hbr⟩ := hrel
      have HOm := Lib.hid hom
      have HHe := Lib.hid hheld
      have HBr := Lib.hid hbr
      have HDr := Lib.hid (HD2.out.below hbr)
      have k6r := HDr.out.wd.c6
      have k7r := HDr.out.wd.c7
      have k5r := HDr.out.wd.c5
      clear hom hheld hbr
      by_cases hgo : N < syn + k
      · obtain ⟨j, rfl⟩ : ∃ j, k = j + 1 := ⟨k - 1, by omega⟩
        have hge : (N : Int) - (syn : Int) ≤ ((j + 1 : Nat) : Int) - 1 := by omega
        obtain ⟨x, hx⟩ : ∃ x, V[j]? = some x := ⟨_, List.getElem?_eq_getElem (by omega)⟩
        obtain ⟨g, hp, q0, q1, hcap1, hcap2⟩ := HDr.out.undo.at hx
        obtain ⟨hxs, _, ax, nx, cx, hx2⟩ := HDr.out.named j x hx
        obtain ⟨xs, xv⟩ := x
        simp only at hx2 hxs q0 q1
        subst hx2
        subst hp
        go_upto_region 6 with (fail)
        have hj0 : (0 : Int) ≤ (j : Int) := by omega
        have hj1 : (j : Int) < (V.length : Int) := by omega
        refine region_tail 17 (by kernel_rfl) (by kernel_rfl) ?_
        simp only [List.take_succ_cons, List.take_zero, List.drop_succ_cons, List.drop_zero]
        repeat still_step
        refine wpStill_nil ?_
        refine wpList_mapUpdate_own _ rfl _ _ _ 59 rfl 9 33 law9 Try.underlying59 R33 w2.heap.size (V.length - (j + 1)) D1 rfl (World.ownsMap.drew HOm.out) (by unfold maxLen; omega) (.string xs) (.slice ax nx cx) (keyL xs) rfl rfl (Go.WideMaps.keyOf_string_mk Try.underlying9 hxs) (.held (.slice ax nx cx)) [] rfl ?_
        intro w6 hom6 hg6
        have HB6 : Hid (Below w2.heap.size w2 w6) := Lib.hid (HBr.out.drew.grown hg6 HBr.out.size (fun k e => by cases e; exact Nat.le_refl _))
        have HOm6 := Lib.hid hom6
        clear hom6 hg6
        go_wp2
        go_roundw
        case rel =>
          refine ⟨j, D1.put (keyL xs) (.held (.slice ax nx cx)), by omega, by omega, by go_num, HOm6.out.mono (by omega), ?_, HB6.out⟩
          have hdrop : V.drop j = (xs, .slice ax nx cx) :: V.drop (j + 1) := by
            rw [List.drop_eq_getElem_cons (by omega)]
            congr 1
            have := (List.getElem?_eq_some_iff.1 hx).2
            exact this
          rw [hdrop]
          exact HHe.out.put xs ax nx cx
        case measure => first | (simp [intOf]; done) | (simp [intOf]; omega)
      · have HNk : Hid (N = syn + k) := Lib.hid (by omega)
        have hlt : ¬ ((N : Int) - (syn : Int) ≤ (k : Int) - 1) := by omega
        go_upto_region 8 with (fail)
        have HBm : Hid (Below wr.heap.size wr (wr.alloc (.map #[] 0))) := Lib.hid ((Below.refl _ wr).alloc (Nat.le_refl _) _)
        have HDm := Lib.hid (HDr.out.below HBm.out)
        have HOh : Hid ((wr.alloc (.map #[] 0)).ownsMap Try.prog 9 R33 w2.heap.size (V.length - k) D1) := Lib.hid (HOm.out.alloc _)
        have HOf : Hid ((wr.alloc (.map #[] 0)).ownsMap (H := Value) Try.prog 9 R33 wr.heap.size 0 (.map [])) := Lib.hid (World.ownsMap_made wr _ _ _)
        have HZm : Hid ((wr.alloc (.map #[] 0)).heap[bz]? = some (.cells #[.map none, .int .i64 0, .slice none 0 0] 62 (0, 0))) := Lib.hid (by
          have h1 := (Array.getElem?_eq_some_iff.1 HZ2.out).1
          have h2 := (HBr.out.block bz h1).trans HZ2.out
          exact (HBm.out.block bz (Array.getElem?_eq_some_iff.1 h2).1).trans h2)
        have hbzh : bz < w2.heap.size := (Array.getElem?_eq_some_iff.1 HZ2.out).1
        have hsm : (wr.alloc (.map #[] 0)).heap.size = wr.heap.size + 1 := by show (wr.heap.push _).size = _; simp
        have hmh : w2.heap.size < wr.heap.size := HOm.out.lt
        have hbw : Below w.heap.size w (wr.alloc (.map #[] 0)) := (HB2.out.trans (HBr.out.mono HB2.out.size)).alloc (by have := HBr.out.size; have := HB2.out.size; omega) _
        have HBw := Lib.hid hbw
        have HSm := Lib.hid hsm
        obtain ⟨mf, hmf⟩ : ∃ q, wr.heap.size = q := ⟨_, rfl⟩
        obtain ⟨mh, hmhq⟩ : ∃ q, w2.heap.size = q := ⟨_, rfl⟩
        have k5m := HDm.out.wd.c5
        have hww : w.heap.size ≤ mh := by rw [← hmhq]; exact HB2.out.size
        rw [hmf] at HOf hsm hmh ⊢
        rw [hmhq] at HOh hmh hbzh ⊢
        clear hbw k6r k7r k5r hmf hmhq hlt HOm HBm
        generalize wr.alloc (.map #[] 0) = wm at *
        have HG2 : Hid (∀ t, t.size ≤ maxLen → Go.Maps.has D (keyL t) = true → RB B w ((fstV (V.drop k) t).getD (valOf D t)) (G t) ∧ (G t).length ≤ 1000000) := Lib.hid ((show N - syn = k by have := HNk.out; omega) ▸ HG.out)
        have hD0 : D = .map [] := by
          rcases HDm.out.map with ⟨_, e⟩ | ⟨m', N0, e, _⟩
          · exact e
          · cases e
        have hrg0 := run_range_nilMap (P := Try.prog) wm 59 9 33 Try.underlying59
        have hnx : ∀ ty, (Instr.next (.pointer (some ⟨wm.heap.size, 0, none⟩)) false ty).run Try.prog (wm.alloc (.mapIter none 0 #[] 0)) = _ := fun ty => run_next_nilMap wm ty 0 0 #[]
        have HZr : (wm.alloc (.mapIter none 0 #[] 0)).heap[bz]? = some (.cells #[.map none, .int .i64 0, .slice none 0 0] 62 (0, 0)) := (heap_alloc_lt _ _ _ (Array.getElem?_eq_some_iff.1 HZm.out).1).trans HZm.out
        have HBi := Lib.hid (HBw.out.alloc HBw.out.size (.mapIter none 0 #[] 0))
        have HOi := Lib.hid (HOf.out.alloc (.mapIter none 0 #[] 0))
        obtain ⟨wr2, hwr2⟩ : ∃ q, wm.alloc (.mapIter none 0 #[] 0) = q := ⟨_, rfl⟩
        have hsr : wr2.heap.size = mf + 2 := by rw [← hwr2]; show (wm.heap.push _).size = _; simp [hsm]
        rw [hwr2] at hrg0 hnx HZr HBi HOi
        rw [hsm] at hrg0 hnx
        have HSr := Lib.hid hsr
        clear hwr2
        have z0 := cell_of' HZr (j := 0) rfl
        have z1 := cell_of' HZr (j := 1) rfl
        have z2 := cell_of' HZr (j := 2) rfl
        have y0 := free_of' HZr 0
        have y1 := free_of' HZr 1
        have y2 := free_of' HZr 2
        have HZr2 := Lib.hid HZr
        clear HZr
        go_wp2
        refine wp_loop_rounds 1 ?_
        rw [rounds_succ]
        go_wp2
        have hrow : (((wr2.setCell ⟨bz, 0, none⟩ (.map (some mf))).setCell ⟨bz, 1, none⟩ (.int .i64 (N : Int))).setCell ⟨bz, 2, none⟩ (.slice none 0 0)).heap[bz]? = some (.cells #[.map (some mf), .int .i64 (N : Int), .slice none 0 0] 62 (0, 0)) := heap_setCell_eq _ _ _ _ _ _ _ (heap_setCell_eq _ _ _ _ _ _ _ (heap_setCell_eq _ _ _ _ _ _ _ HZr2.out))
        have hoth : ∀ j, j ≠ bz → (((wr2.setCell ⟨bz, 0, none⟩ (.map (some mf))).setCell ⟨bz, 1, none⟩ (.int .i64 (N : Int))).setCell ⟨bz, 2, none⟩ (.slice none 0 0)).heap[j]? = wr2.heap[j]? := fun j hj => (heap_setCell_ne _ _ _ _ _ hj).trans ((heap_setCell_ne _ _ _ _ _ hj).trans (heap_setCell_ne _ _ _ _ _ hj))
        have hsze : (((wr2.setCell ⟨bz, 0, none⟩ (.map (some mf))).setCell ⟨bz, 1, none⟩ (.int .i64 (N : Int))).setCell ⟨bz, 2, none⟩ (.slice none 0 0)).heap.size = wr2.heap.size := by rw [size_setCell', size_setCell', size_setCell']
        refine bodyPost_ret (results_cell_row rfl _ _ _ _ _ _ _ rfl hrow Try.underlying62 rfl (by kernel_rfl)) rfl ?_
        have hbzw := HBz.out
        have r3 := HBi.out
        subst hD0
        refine ⟨mf, .map [], rfl, .inr ⟨mf, 0, rfl, by omega, ?_, by omega⟩, ⟨_, (OutD.start wr2 (mf + 2) (.map []) G).mono (by omega) (fun j hj => hoth j (by omega)) hsze, fun kl => rfl⟩, ⟨r3.os, r3.tape, r3.output, by rw [hsze]; exact r3.size, fun j hj => (hoth j (by omega)).trans (r3.block j hj)⟩⟩
        obtain ⟨es, cl, x1, x2⟩ := HOi.out
        exact ⟨es, cl, (hoth mf (by omega)).trans x1, x2⟩
end
end Go.Proofs.Ytfpgobbkeocokaa
