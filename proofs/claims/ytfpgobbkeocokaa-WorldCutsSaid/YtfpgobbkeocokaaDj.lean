/- Contract of the disk's cut. -/
import Derived.Test.YtfpgobbkeocokaaDo
namespace Go.Proofs.Ytfpgobbkeocokaa
open Go.RowKit Go.Mp Go.Rb Go.Lib
/-- What a file held ahead of the first of these writes to it. -/
def fstV (L : List (ByteArray × Value)) (t : ByteArray) : Option Value := (L.find? fun e => decide (e.1 = t)).map (·.2)
theorem fstV_cons (nm t : ByteArray) (v : Value) (L : List (ByteArray × Value)) : fstV ((nm, v) :: L) t = if t = nm then some v else fstV L t := by
  unfold fstV
  rw [List.find?_cons]
  by_cases h : t = nm
  · subst h; simp
  · have h2 : ¬ nm = t := fun e => h e.symm
    simp [h, h2]
/-- A map of what some writes overwrote. -/
def HeldD (D1 : DataW Value) (L : List (ByteArray × Value)) : Prop := Go.Maps.IsMap D1 ∧ ∀ t : ByteArray, Go.Maps.has D1 (keyL t) = (fstV L t).isSome ∧ ∀ v, fstV L t = some v → valOf D1 t = v
theorem HeldD.nil : HeldD (.map []) [] := ⟨Go.Maps.isMap_empty, fun t => ⟨rfl, fun v h => by cases h⟩⟩
theorem HeldD.put {D1 : DataW Value} {L : List (ByteArray × Value)} (h : HeldD D1 L) (nm : ByteArray) (a : Option Addr) (n c : Nat) : HeldD (D1.put (keyL nm) (.held (.slice a n c))) ((nm, .slice a n c) :: L) := by
  refine ⟨h.1.put _ _, fun t => ?_⟩
  rw [fstV_cons]
  by_cases ht : t = nm
  · subst ht
    rw [if_pos rfl, Go.Maps.has_put_same h.1 (show Go.WideAt.IsKeyLit (keyL t) from trivial)]
    exact ⟨rfl, fun v e => by cases e; exact valOf_put_same h.1 t a n c⟩
  · rw [if_neg ht, Go.Maps.has_put_other (fun e => ht (keyL_inj e))]
    exact ⟨(h.2 t).1, fun v e => by rw [valOf_put_other ht]; exact (h.2 t).2 v e⟩
theorem befCells_get : ∀ (V : List (ByteArray × Value)) (i : Nat) (e : ByteArray × Value) (j : Nat), V[i]? = some e → j < 2 → (V.flatMap befCells)[i * 2 + j]? = (befCells e)[j]?
  | [], i, r, j, h, _ => by simp at h
  | x :: rs, 0, r, j, h, hj => by
    simp at h
    subst h
    rw [List.flatMap_cons, Nat.zero_mul, Nat.zero_add, List.getElem?_append_left (by simp [befCells]; exact hj)]
  | x :: rs, i + 1, r, j, h, hj => by
    rw [List.getElem?_cons_succ] at h
    have ih := befCells_get rs i r j h hj
    rw [List.flatMap_cons, List.getElem?_append_right (by simp [befCells]; omega), ← ih]
    congr 1
    simp [befCells]; omega
theorem UndoAt.at {w : World} {B cap : Nat} {p : Option Addr} {V : List (ByteArray × Value)} (h : UndoAt w B p cap V) {i : Nat} {e : ByteArray × Value} (hi : V[i]? = some e) : ∃ g, p = some ⟨g, 0, none⟩ ∧ w.cell? ⟨g, i * 2, none⟩ = some (.string e.1) ∧ w.cell? ⟨g, i * 2 + 1, none⟩ = some e.2 ∧ V.length ≤ cap ∧ cap ≤ 9223372036854775807 := by
  rcases h.2 with ⟨_, b⟩ | ⟨g, cp, cur, a, hb, hg, hn, hc, hs, ht⟩
  · have := (List.getElem?_eq_some_iff.1 hi).1
    omega
  · injection a with a1 a2 a3
    have cl : ∀ j y, j < 2 → (befCells e)[j]? = some y → w.cell? ⟨g, i * 2 + j, none⟩ = some y := fun j y hj hy => by
      have ha : ({ block := g, off := 0 } : Addr).add (i * 2 + j) = ⟨g, i * 2 + j, none⟩ := by unfold Addr.add; split <;> simp_all
      rw [← ha]
      exact World.ownsRow.cells h (g := g) (by rw [a1]; rfl) (i * 2 + j) y (by rw [befCells_get V i e j hi hj]; exact hy)
    exact ⟨g, a1, cl 0 _ (by omega) rfl, cl 1 _ (by omega) rfl, by omega, by unfold maxLen at hc; omega⟩
theorem cell_of' {W : World} {b : Nat} {arr : Array Value} {e : TypeId} {fr : Nat × Nat} (h : W.heap[b]? = some (.cells arr e fr)) {j : Nat} {v : Value} (hj : arr[j]? = some v) : W.cell? ⟨b, j, none⟩ = some v := by simp [World.cell?, h, hj]
theorem free_of' {W : World} {b : Nat} {arr : Array Value} {e : TypeId} (h : W.heap[b]? = some (.cells arr e (0, 0))) (j : Nat) : W.frozen? ⟨b, j, none⟩ = false := by simp [World.frozen?, h]
theorem grown_of {w w' : World} (h : Below w.heap.size w w') (row : Option Nat) : w.grownBy w' row := ⟨h.os, h.tape, h.output, h.size, fun k hk _ => h.block k hk⟩
theorem string_key {x : ByteArray} {kl : Lit} (h : keyOf Try.prog 9 (.string x) = some kl) : kl = keyL x ∧ x.size ≤ maxLen := by
  obtain ⟨s, e1, e2, e3⟩ := Go.WideMaps.string_of_keyOf Try.underlying9 h
  cases e1
  exact ⟨e2, e3⟩
section
variable {b B K : Nat} {c : Value × Value × Value × Value × Value} {mp : Option Nat} {D : DataW Value} {syn : Nat} {V : List (ByteArray × Value)} {p : Option Addr} {cap : Nat} {F : ByteArray → List UInt8} {UL : List (ByteArray × List UInt8)}
set_option maxHeartbeats 4000000 in
set_option maxRecDepth 100000 in
theorem cut_any {w : World} (h : DI w b B K c mp D syn V p cap F UL) (hmp : mp ≠ none) (n : Int) (hn : -9223372036854775808 ≤ n ∧ n ≤ 9223372036854775807) (hsyn : syn ≤ 100000) (hV : V.length ≤ 100000) (hK : K ≤ 1000000) (G : ByteArray → List UInt8) (N : Nat) (hG : ∀ t, t.size ≤ maxLen → Go.Maps.has D (keyL t) = true → RB B w ((fstV (V.drop (N - syn)) t).getD (valOf D t)) (G t) ∧ (G t).length ≤ 1000000) (hN : min (max n (syn : Int)) ((syn : Int) + (V.length : Int)) = (N : Int)) :
    Calls Try.prog 40 #[.pointer (some ⟨b, 5, none⟩), .int .i64 n] w fun e w' => ∃ mf, ∃ D' : DataW Value, e = .returned (.agg #[.map (some mf), .int .i64 (N : Int), .slice none 0 0]) ∧ MapD w' w.heap.size K (some mf) D' ∧ (∃ left, OutD w' w.heap.size D' D G left ∧ ∀ kl, left kl = false) ∧ Below w.heap.size w w' := by
  have hmm := @run_makeMap Try.prog
  have HD := Lib.hid h
  have HG := Lib.hid hG
  clear h hG
  go_enter Try.func40, Try.ntmps40
  go_upto_region 1 with (fail)
  have HB1 : Hid (Below w.heap.size w (w.alloc (.cells #[.map none, .int .i64 0, .slice none 0 0] 62))) := Lib.hid ((Below.refl _ w).alloc (Nat.le_refl _) _)
  have HZ1 : Hid ((w.alloc (.cells #[.map none, .int .i64 0, .slice none 0 0] 62)).heap[w.heap.size]? = some (.cells #[.map none, .int .i64 0, .slice none 0 0] 62 (0, 0))) := Lib.hid (heap_alloc_new w _)
  have HD1 := Lib.hid (HD.out.below HB1.out)
  have hs1 : (w.alloc (.cells #[.map none, .int .i64 0, .slice none 0 0] 62)).heap.size = w.heap.size + 1 := by show (w.heap.push _).size = _; simp
  have HS1 := Lib.hid hs1
  obtain ⟨bz, hbz⟩ : ∃ q, w.heap.size = q := ⟨_, rfl⟩
  have HBz := Lib.hid hbz
  clear hs1
  rw [hbz] at HZ1 ⊢
  clear hbz
  generalize w.alloc (.cells #[.map none, .int .i64 0, .slice none 0 0] 62) = W1 at *
  have HWr : Hid (Calls Try.prog 46 #[.pointer (some ⟨b, 5, none⟩)] W1.drew fun e w' => e = .returned (.int .i64 ((syn : Int) + (V.length : Int))) ∧ ∃ k, w' = W1.drew.drewN k) := Lib.hid (writes_any b c mp syn p V.length cap W1.drew (HD1.out.below ((Below.refl _ W1).drew)).wd (by omega) (by omega))
  have k6 : ∀ q, (W1.drew.drewN q).cell? ⟨b, 6, none⟩ = some (.int .i64 (syn : Int)) := fun q => HD1.out.wd.c6
  have HK : Hid (W1.drew.cell? ⟨b, 6, none⟩ = some (.int .i64 (syn : Int))) := Lib.hid HD1.out.wd.c6
  obtain ⟨M, hM⟩ : ∃ M, max n (syn : Int) = M := ⟨_, rfl⟩
  have hmx : ∀ ats ty W, (Builtin.max_ ats ty #[.int .i64 n, .int .i64 (syn : Int)]).run Try.prog W = .ok (.int .i64 M) W := fun ats ty W => by
    rw [← hM]
    simp [Builtin.max_, Builtin.max2]
    omega
  have hmn : ∀ ats ty W, (Builtin.min_ ats ty #[.int .i64 M, .int .i64 ((syn : Int) + (V.length : Int))]).run Try.prog W = .ok (.int .i64 (N : Int)) W := fun ats ty W => by
    rw [← hN, hM]
    simp [Builtin.min_, Builtin.min2]
    omega
  have hNs : syn ≤ N := by omega
  have hNle0 : (N : Int) ≤ (syn : Int) + (V.length : Int) := by omega
  clear hM hN
  go_region_held3 (fun w' => w'.cell? ⟨b, 6, none⟩ = some (.int .i64 (syn : Int))) (first | exact HK.out) (first | (go_at_call 46; refine HWr.out.mono ?_; rintro e w2 ⟨rfl, hq⟩; have HK : Hid (w2.cell? ⟨b, 6, none⟩ = some (.int .i64 (syn : Int))) := Lib.hid (by obtain ⟨q, rfl⟩ := hq; exact k6 q); have HQ := Lib.hid hq; clear hq))
  all_goals
    have HB2 : Hid (Below w.heap.size w w2) := Lib.hid (by obtain ⟨q, hq⟩ := HQ.out; rw [hq]; exact bel_drewN ((HB1.out.trans ((Below.refl _ W1).drew.mono HB1.out.size))) q)
    have HD2 := Lib.hid (HD.out.below HB2.out)
    have HZ2 : Hid (w2.heap[bz]? = some (.cells #[.map none, .int .i64 0, .slice none 0 0] 62 (0, 0))) := Lib.hid (by obtain ⟨q, hq⟩ := HQ.out; rw [hq]; exact HZ1.out)
    have k7 := HD2.out.wd.c7
    have k7a : (w2.alloc (.map #[] 0)).cell? ⟨b, 7, none⟩ = some (.slice p V.length cap) := (HD2.out.below ((Below.refl _ w2).alloc (Nat.le_refl _) _)).wd.c7
    have hNle : N ≤ syn + V.length := by omega
    clear hmx hmn
    go_wp2
    go_loopw [6] (fun iv wr => ∃ (k : Nat) (D1 : DataW Value), k ≤ V.length ∧ N ≤ syn + k ∧ iv = .int .i64 ((k : Int) - 1) ∧ wr.ownsMap Try.prog 9 R33 w2.heap.size (V.length - k) D1 ∧ HeldD D1 (V.drop k) ∧ Below w2.heap.size w2 wr) (fun iv _ => (intOf iv + 1).toNat)
    case atStart => exact ⟨V.length, .map [], Nat.le_refl _, hNle, rfl, (World.ownsMap_made w2 _ _ _).mono (Nat.zero_le _), by rw [List.drop_length]; exact HeldD.nil, (Below.refl _ w2).alloc (Nat.le_refl _) _⟩
    case round =>
      obtain ⟨k, D1, hk, hNk, rfl, hom, hheld, hbr⟩ := hrel
      have HOm := Lib.hid hom
      have HHe := Lib.hid hheld
      have HBr := Lib.hid hbr
      have HDr := Lib.hid (HD2.out.below hbr)
      have k6r := HDr.out.wd.c6
      have k7r := HDr.out.wd.c7
      have k5r := HDr.out.wd.c5
      clear hom hheld hbr
      by_cases hgo : N < syn + k
      · obtain ⟨j, rfl⟩ : ∃ j, k = j + 1 := ⟨k - 1, by omega⟩
        have hge : (N : Int) - (syn : Int) ≤ ((j + 1 : Nat) : Int) - 1 := by omega
        obtain ⟨x, hx⟩ : ∃ x, V[j]? = some x := ⟨_, List.getElem?_eq_getElem (by omega)⟩
        obtain ⟨g, hp, q0, q1, hcap1, hcap2⟩ := HDr.out.undo.at hx
        obtain ⟨hxs, _, ax, nx, cx, hx2⟩ := HDr.out.named j x hx
        obtain ⟨xs, xv⟩ := x
        simp only at hx2 hxs q0 q1
        subst hx2
        subst hp
        go_upto_region 6 with (fail)
        have hj0 : (0 : Int) ≤ (j : Int) := by omega
        have hj1 : (j : Int) < (V.length : Int) := by omega
        refine region_tail 17 (by kernel_rfl) (by kernel_rfl) ?_
        simp only [List.take_succ_cons, List.take_zero, List.drop_succ_cons, List.drop_zero]
        repeat still_step
        refine wpStill_nil ?_
        refine wpList_mapUpdate_own _ rfl _ _ _ 59 rfl 9 33 law9 Try.underlying59 R33 w2.heap.size (V.length - (j + 1)) D1 rfl (World.ownsMap.drew HOm.out) (by unfold maxLen; omega) (.string xs) (.slice ax nx cx) (keyL xs) rfl rfl (Go.WideMaps.keyOf_string_mk Try.underlying9 hxs) (.held (.slice ax nx cx)) [] rfl ?_
        intro w6 hom6 hg6
        have HB6 : Hid (Below w2.heap.size w2 w6) := Lib.hid (HBr.out.drew.grown hg6 HBr.out.size (fun k e => by cases e; exact Nat.le_refl _))
        have HOm6 := Lib.hid hom6
        clear hom6 hg6
        go_wp2
        go_roundw
        case rel =>
          refine ⟨j, D1.put (keyL xs) (.held (.slice ax nx cx)), by omega, by omega, by go_num, HOm6.out.mono (by omega), ?_, HB6.out⟩
          have hdrop : V.drop j = (xs, .slice ax nx cx) :: V.drop (j + 1) := by
            rw [List.drop_eq_getElem_cons (by omega)]
            congr 1
            have := (List.getElem?_eq_some_iff.1 hx).2
            exact this
          rw [hdrop]
          exact HHe.out.put xs ax nx cx
        case measure => first | (simp [intOf]; done) | (simp [intOf]; omega)
      · have HNk : Hid (N = syn + k) := Lib.hid (by omega)
        have hlt : ¬ ((N : Int) - (syn : Int) ≤ (k : Int) - 1) := by omega
        go_upto_region 8 with (fail)
        have HBm : Hid (Below wr.heap.size wr (wr.alloc (.map #[] 0))) := Lib.hid ((Below.refl _ wr).alloc (Nat.le_refl _) _)
        have HDm := Lib.hid (HDr.out.below HBm.out)
        have HOh : Hid ((wr.alloc (.map #[] 0)).ownsMap Try.prog 9 R33 w2.heap.size (V.length - k) D1) := Lib.hid (HOm.out.alloc _)
        have HOf : Hid ((wr.alloc (.map #[] 0)).ownsMap (H := Value) Try.prog 9 R33 wr.heap.size 0 (.map [])) := Lib.hid (World.ownsMap_made wr _ _ _)
        have HZm : Hid ((wr.alloc (.map #[] 0)).heap[bz]? = some (.cells #[.map none, .int .i64 0, .slice none 0 0] 62 (0, 0))) := Lib.hid (by
          have h1 := (Array.getElem?_eq_some_iff.1 HZ2.out).1
          have h2 := (HBr.out.block bz h1).trans HZ2.out
          exact (HBm.out.block bz (Array.getElem?_eq_some_iff.1 h2).1).trans h2)
        have hbzh : bz < w2.heap.size := (Array.getElem?_eq_some_iff.1 HZ2.out).1
        have hsm : (wr.alloc (.map #[] 0)).heap.size = wr.heap.size + 1 := by show (wr.heap.push _).size = _; simp
        have hmh : w2.heap.size < wr.heap.size := HOm.out.lt
        have hbw : Below w.heap.size w (wr.alloc (.map #[] 0)) := (HB2.out.trans (HBr.out.mono HB2.out.size)).alloc (by have := HBr.out.size; have := HB2.out.size; omega) _
        have HBw := Lib.hid hbw
        have HSm := Lib.hid hsm
        obtain ⟨mf, hmf⟩ : ∃ q, wr.heap.size = q := ⟨_, rfl⟩
        obtain ⟨mh, hmhq⟩ : ∃ q, w2.heap.size = q := ⟨_, rfl⟩
        have k5m := HDm.out.wd.c5
        have hww : w.heap.size ≤ mh := by rw [← hmhq]; exact HB2.out.size
        rw [hmf] at HOf hsm hmh ⊢
        rw [hmhq] at HOh hmh hbzh ⊢
        clear hbw k6r k7r k5r hmf hmhq hlt HOm HBm
        generalize wr.alloc (.map #[] 0) = wm at *
        have HG2 : Hid (∀ t, t.size ≤ maxLen → Go.Maps.has D (keyL t) = true → RB B w ((fstV (V.drop k) t).getD (valOf D t)) (G t) ∧ (G t).length ≤ 1000000) := Lib.hid ((show N - syn = k by have := HNk.out; omega) ▸ HG.out)
        cases mp with
        | none => exact absurd rfl hmp
        | some m =>
          obtain ⟨N0, hBm, hom, hN0⟩ : ∃ N0, B ≤ m ∧ wm.ownsMap Try.prog 9 R33 m N0 D ∧ N0 ≤ K := by
            rcases HDm.out.map with ⟨e, _⟩ | ⟨m', N0, e, h1, h2, h3⟩
            · cases e
            · cases e; exact ⟨N0, h1, h2, h3⟩
          have hml := HD.out.map.lt
          have HOD := Lib.hid hom
          clear hom
          go_wp2_with (first | (at_range; refine wpList_range_own _ rfl _ 59 rfl 9 33 law9 Try.underlying59 R33 m N0 D rfl HOD.out ?_; intro w0 hrg0 hg0 hs0) | go_in)
          go_frame
          rw [hsm] at hrg0 hs0 ⊢
          have HG0 := Lib.hid hg0
          go_loopw [8] (fun _ wr => ∃ (left : Lit → Bool) (cnt : Nat) (Dout : DataW Value), wr.ranges Try.prog 9 R33 m (mf + 1) N0 D left cnt ∧ cnt ≤ N0 ∧ wr.ownsMap Try.prog 9 R33 mf (N0 - cnt) Dout ∧ wr.ownsMap Try.prog 9 R33 mh (V.length - k) D1 ∧ OutD wr (mf + 2) Dout D G left ∧ (∀ j, j < mf → wr.heap[j]? = wm.heap[j]?) ∧ Below w.heap.size w wr ∧ mf + 2 ≤ wr.heap.size) (fun _ wr => wr.rangeLeft m (mf + 1))
          case atStart =>
            exact ⟨_, _, .map [], hrg0, HOD.out.size_le, (HOf.out.kept hg0 (by simp)).mono (Nat.zero_le _), HOh.out.kept hg0 (by simp), OutD.start _ _ _ _, fun j hj => hg0.block j (by omega) (by simp), HBw.out.grown hg0 HBw.out.size (fun j hj => by cases hj), by omega⟩
          case round =>
            obtain ⟨left, cnt, Dout, hrg, hcs, hout, hhe, hO, hkeep, hbw, hsz⟩ := hrel
            go_wp2_with (first
              | (at_next; refine wpList_next_ranges _ rfl _ rfl 9 law9 R33 Value.string (fun (q : Option Addr × Nat × Nat) => Value.slice q.1 q.2.1 q.2.2) (fun key kl hkey => by obtain ⟨s, e, _⟩ := Go.WideMaps.string_of_keyOf Try.underlying9 hkey; exact ⟨s, e⟩) (fun v y hv => by obtain ⟨a, n, c, e, _⟩ := R33_inv hv; exact ⟨(a, n, c), e⟩) m (mf + 1) N0 D left cnt rfl hrg ?_ ?_)
              | go_in)
            · intro hc0 hl0
              have HZr : wr.heap[bz]? = some (.cells #[.map none, .int .i64 0, .slice none 0 0] 62 (0, 0)) := (hkeep bz (by omega)).trans HZm.out
              have z0 := cell_of' HZr (j := 0) rfl
              have z1 := cell_of' HZr (j := 1) rfl
              have z2 := cell_of' HZr (j := 2) rfl
              have y0 := free_of' HZr 0
              have y1 := free_of' HZr 1
              have y2 := free_of' HZr 2
              have HR := Lib.hid (show wr.ownsMap Try.prog 9 R33 mf (N0 - cnt) Dout ∧ OutD wr (mf + 2) Dout D G left ∧ Below w.heap.size w wr ∧ (∀ kl, left kl = false) from ⟨hout, hO, hbw, hl0⟩)
              have HZr2 := Lib.hid HZr
              clear hout hO hbw hl0 hhe hrg hkeep HZr
              go_wp2
              have hrow : (((wr.setCell ⟨bz, 0, none⟩ (.map (some mf))).setCell ⟨bz, 1, none⟩ (.int .i64 (N : Int))).setCell ⟨bz, 2, none⟩ (.slice none 0 0)).heap[bz]? = some (.cells #[.map (some mf), .int .i64 (N : Int), .slice none 0 0] 62 (0, 0)) := heap_setCell_eq _ _ _ _ _ _ _ (heap_setCell_eq _ _ _ _ _ _ _ (heap_setCell_eq _ _ _ _ _ _ _ HZr2.out))
              have hoth : ∀ j, j ≠ bz → (((wr.setCell ⟨bz, 0, none⟩ (.map (some mf))).setCell ⟨bz, 1, none⟩ (.int .i64 (N : Int))).setCell ⟨bz, 2, none⟩ (.slice none 0 0)).heap[j]? = wr.heap[j]? := fun j hj => (heap_setCell_ne _ _ _ _ _ hj).trans ((heap_setCell_ne _ _ _ _ _ hj).trans (heap_setCell_ne _ _ _ _ _ hj))
              have hsze : (((wr.setCell ⟨bz, 0, none⟩ (.map (some mf))).setCell ⟨bz, 1, none⟩ (.int .i64 (N : Int))).setCell ⟨bz, 2, none⟩ (.slice none 0 0)).heap.size = wr.heap.size := by rw [size_setCell', size_setCell', size_setCell']
              obtain ⟨r1, r2, r3, r4⟩ := HR.out
              refine bodyPost_ret (results_cell_row rfl _ _ _ _ _ _ _ rfl hrow Try.underlying62 rfl (by kernel_rfl)) rfl ?_
              have hbzw := HBz.out
              refine ⟨mf, Dout, rfl, .inr ⟨mf, N0 - cnt, rfl, by omega, ?_, by omega⟩, ⟨left, r2.mono (by omega) (fun j hj => hoth j (by omega)) hsze, r4⟩, ⟨r3.os, r3.tape, r3.output, by rw [hsze]; exact r3.size, fun j hj => (hoth j (by omega)).trans (r3.block j hj)⟩⟩
              obtain ⟨es, cl, x1, x2⟩ := r1
              exact ⟨es, cl, (hoth mf (by omega)).trans x1, x2⟩
            · intro x qa qn qc kl y1 y2 w1 cnt1 hkey hlx hv hat hrg1 hlt hg1 hs1 hen
              obtain ⟨rfl, hxs⟩ := string_key hkey
              cases hv
              have hxv : valOf D x = .slice qa qn qc := by unfold valOf; rw [hat]
              have hxD : Go.Maps.has D (keyL x) = true := Go.Maps.has_true_of_atKey hat
              have hh1 := hhe.kept hg1 (fun e => by have := Option.some.inj e; omega)
              have ho1 := hout.kept hg1 (fun e => by have := Option.some.inj e; omega)
              obtain ⟨vh, ps, hlk2, hvh⟩ := hh1.look_ok law9 Try.underlying59 (zero33 w1) (zd := .held nilS) (zp := []) rfl (key := .string x) (kl := keyL x) (Go.WideMaps.keyOf_string_mk Try.underlying9 hxs)
              obtain ⟨ha, hn2, hc2, rfl, hvh2⟩ := R33_inv hvh
              have hvD1 : valOf D1 x = .slice ha hn2 hc2 := by
                unfold valOf
                rw [(Prod.mk.inj hvh2).1]
              have hiter : ∀ cur e fr, wr.heap[mf + 1]? ≠ some (.cells cur e fr) := by
                obtain ⟨_, _, _, _, _, _, _, _, _, hr, _⟩ := hrg
                intro cur e fr hc
                rw [hr] at hc
                cases hc
              have hO1 := hO.same hg1 hiter
              have hb1 : Below w.heap.size w w1 := hbw.grown hg1 hbw.size (fun j e => by cases e; omega)
              have hkeep1 : ∀ j, j < mf → w1.heap[j]? = wm.heap[j]? := fun j hj => (hg1.block j (by omega) (fun e => by have := Option.some.inj e; omega)).trans (hkeep j hj)
              have hs1' : mf + 2 ≤ w1.heap.size := by omega
              obtain ⟨hbody0, hGl⟩ := HG2.out x hxs hxD
              have hhas := (HHe.out.2 x).1
              have hval := (HHe.out.2 x).2
              cases hf : fstV (V.drop k) x with
              | none =>
                rw [hf] at hbody0 hhas
                simp only [Option.getD_none, Option.isSome_none] at hbody0 hhas
                rw [hxv] at hbody0
                rw [hhas] at hlk2
                have hbody := hbody0.below hb1
                clear hbody0 hval hf hhas
                have HCl := Lib.hid (clone_rb hbody hGl)
                have HX := Lib.hid (show OutD w1 (mf + 2) Dout D G left ∧ w1.ranges Try.prog 9 R33 m (mf + 1) N0 D (fun z => left z && !z.sameKey (keyL x)) cnt1 ∧ w1.ownsMap Try.prog 9 R33 mh (V.length - k) D1 ∧ Below w.heap.size w w1 from ⟨hO1, hrg1, hh1, hb1⟩)
                have HOo := Lib.hid ho1
                have HKp := Lib.hid hkeep1
                clear hO1 hrg1 hh1 hb1 ho1 hkeep1 hbody hhe hout hO hkeep hbw hat hkey hvh hvh2
                go_wp2_with (first
                  | (go_at_call 32; refine HCl.out.mono ?_; rintro e w3 ⟨p3, c3, rfl, hr3, hb3⟩; have HR3 := Lib.hid hr3; have HB3 := Lib.hid hb3; have HOo3 := Lib.hid (HOo.out.kept (grown_of hb3 none) (by simp)); clear hr3 hb3)
                  | (at_mapUpdate; refine wpList_mapUpdate_own _ rfl _ _ _ 59 rfl 9 33 law9 Try.underlying59 R33 mf (N0 - cnt) Dout rfl HOo3.out (by unfold maxLen; omega) (.string x) (.slice p3 (G x).length c3) (keyL x) rfl rfl (Go.WideMaps.keyOf_string_mk Try.underlying9 hxs) (.held (.slice p3 (G x).length c3)) [] rfl ?_; intro w5 hom5 hg5; go_frame)
                  | go_in)
                have hb3 := HB3.out
                have hrg5 := (HX.out.2.1.kept (grown_of hb3 none) (by simp) (by simp)).kept hg5 (fun e => by have := Option.some.inj e; omega) (fun e => by have := Option.some.inj e; omega)
                go_roundw
                case rel =>
                  obtain ⟨hO1, hrg1, hh1, hb1⟩ := HX.out
                  have hmfw : mf < w3.heap.size := HOo3.out.lt
                  refine ⟨_, cnt1, _, hrg5, by omega, hom5.mono (by omega), (hh1.kept (grown_of hb3 none) (by simp)).kept hg5 (fun e => by have := Option.some.inj e; omega), ?_, fun j hj => (hg5.block j (by omega) (fun e => by have := Option.some.inj e; omega)).trans ((hb3.block j (by omega)).trans (HKp.out j hj)), (hb1.trans (hb3.mono hb1.size)).grown hg5 (by have := hb1.size; have := hb3.size; omega) (fun j e => by cases e; omega), by have := hb3.size; have := hg5.size; omega⟩
                  refine ((hO1.below hb3).put hxD (RB.base HR3.out (by omega)) (fun q e => ?_)).same hg5 (fun cur e fr hc => ?_)
                  · subst e
                    obtain ⟨_, _, hBq, _, _, cur, fr, hcq⟩ := RB.obj HR3.out
                    exact ⟨(Array.getElem?_eq_some_iff.1 hcq).1, fun t a m' d e2 e3 => by have := hO1.low t a m' d e2; omega⟩
                  · obtain ⟨es, cl, x1, _⟩ := HOo3.out
                    rw [x1] at hc
                    cases hc
                case measure => rw [hrg5.left_eq, hrg.left_eq]; exact hlt
              | some v =>
                rw [hf] at hbody0 hhas
                have hv1 := hval v hf
                rw [hvD1] at hv1
                subst hv1
                simp only [Option.getD_some, Option.isSome_some] at hbody0 hhas
                rw [hhas] at hlk2
                have hbody := hbody0.below hb1
                clear hbody0 hval hf hhas
                have HCl := Lib.hid (clone_rb hbody hGl)
                have HX := Lib.hid (show OutD w1 (mf + 2) Dout D G left ∧ w1.ranges Try.prog 9 R33 m (mf + 1) N0 D (fun z => left z && !z.sameKey (keyL x)) cnt1 ∧ w1.ownsMap Try.prog 9 R33 mh (V.length - k) D1 ∧ Below w.heap.size w w1 from ⟨hO1, hrg1, hh1, hb1⟩)
                have HOo := Lib.hid ho1
                have HKp := Lib.hid hkeep1
                clear hO1 hrg1 hh1 hb1 ho1 hkeep1 hbody hhe hout hO hkeep hbw hat hkey hvh hvh2
                go_wp2_with (first
                  | (go_at_call 32; refine HCl.out.mono ?_; rintro e w3 ⟨p3, c3, rfl, hr3, hb3⟩; have HR3 := Lib.hid hr3; have HB3 := Lib.hid hb3; have HOo3 := Lib.hid (HOo.out.kept (grown_of hb3 none) (by simp)); clear hr3 hb3)
                  | (at_mapUpdate; refine wpList_mapUpdate_own _ rfl _ _ _ 59 rfl 9 33 law9 Try.underlying59 R33 mf (N0 - cnt) Dout rfl HOo3.out (by unfold maxLen; omega) (.string x) (.slice p3 (G x).length c3) (keyL x) rfl rfl (Go.WideMaps.keyOf_string_mk Try.underlying9 hxs) (.held (.slice p3 (G x).length c3)) [] rfl ?_; intro w5 hom5 hg5; go_frame)
                  | go_in)
                have hb3 := HB3.out
                have hrg5 := (HX.out.2.1.kept (grown_of hb3 none) (by simp) (by simp)).kept hg5 (fun e => by have := Option.some.inj e; omega) (fun e => by have := Option.some.inj e; omega)
                go_roundw
                case rel =>
                  obtain ⟨hO1, hrg1, hh1, hb1⟩ := HX.out
                  have hmfw : mf < w3.heap.size := HOo3.out.lt
                  refine ⟨_, cnt1, _, hrg5, by omega, hom5.mono (by omega), (hh1.kept (grown_of hb3 none) (by simp)).kept hg5 (fun e => by have := Option.some.inj e; omega), ?_, fun j hj => (hg5.block j (by omega) (fun e => by have := Option.some.inj e; omega)).trans ((hb3.block j (by omega)).trans (HKp.out j hj)), (hb1.trans (hb3.mono hb1.size)).grown hg5 (by have := hb1.size; have := hb3.size; omega) (fun j e => by cases e; omega), by have := hb3.size; have := hg5.size; omega⟩
                  refine ((hO1.below hb3).put hxD (RB.base HR3.out (by omega)) (fun q e => ?_)).same hg5 (fun cur e fr hc => ?_)
                  · subst e
                    obtain ⟨_, _, hBq, _, _, cur, fr, hcq⟩ := RB.obj HR3.out
                    exact ⟨(Array.getElem?_eq_some_iff.1 hcq).1, fun t a m' d e2 e3 => by have := hO1.low t a m' d e2; omega⟩
                  · obtain ⟨es, cl, x1, _⟩ := HOo3.out
                    rw [x1] at hc
                    cases hc
                case measure => rw [hrg5.left_eq, hrg.left_eq]; exact hlt
end
end Go.Proofs.Ytfpgobbkeocokaa
