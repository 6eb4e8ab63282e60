/- Contracts and plain facts that the law leans on. -/
import Derived.Test.YtepfeekfglpjoaaDoorWsCa
import Derived.Deep.CutRange
import Derived.RegionTactic
import Derived.Deep.RegionHeld3
import Derived.Lib.AppendStr
import Derived.Deep.AppendLies
import Derived.Deep.RegionLaw
import Derived.Test.YtepfeekfglpjoaaDoorChecked
import Derived.WalkKit
import Derived.LoopTactic
import Derived.OwnWalk
import Derived.BigQuiet
namespace Go.Wi
open Go.RowKit
theorem recCells_get : ∀ (rs : List Rec) (i : Nat) (r : Rec) (j : Nat), rs[i]? = some r → j < 4 → (rs.flatMap recCells)[4 * i + j]? = (recCells r)[j]?
  | [], i, r, j, h, _ => by simp at h
  | x :: rs, 0, r, j, h, hj => by
    simp at h
    subst h
    rw [List.flatMap_cons, Nat.mul_zero, Nat.zero_add, List.getElem?_append_left (by simp [recCells]; exact hj)]
  | x :: rs, i + 1, r, j, h, hj => by
    rw [List.getElem?_cons_succ] at h
    have ih := recCells_get rs i r j h hj
    rw [List.flatMap_cons, List.getElem?_append_right (by simp [recCells]; omega), ← ih]
    congr 1
    simp [recCells]; omega
end Go.Wi
namespace Go.Proofs.YtepfeekfglpjoaaDoor
open Go.RowKit Go.Lib Go.Wi Go.Tx
/-- Block b holds these cells, with no mark. -/
def AtE (w : World) (b : Nat) (arr : Array Value) : Prop := ∃ e, w.heap[b]? = some (.cells arr e (0, 0))
theorem AtE.lt {w : World} {b : Nat} {arr : Array Value} (h : AtE w b arr) : b < w.heap.size := by obtain ⟨e, h⟩ := h; exact (Array.getElem?_eq_some_iff.1 h).1
theorem AtE.cell {w : World} {b : Nat} {arr : Array Value} (h : AtE w b arr) {j : Nat} {v : Value} (hj : arr[j]? = some v) : w.cell? ⟨b, j, none⟩ = some v := by obtain ⟨e, h⟩ := h; simp [World.cell?, h, hj]
theorem AtE.below {w w' : World} {b : Nat} {arr : Array Value} (h : AtE w b arr) (hb : Below w.heap.size w w') : AtE w' b arr := by
  have hl := h.lt
  obtain ⟨e, h⟩ := h
  exact ⟨e, by rw [hb.block b hl]; exact h⟩
theorem AtE.new (w : World) (arr : Array Value) (e : TypeId) : AtE (w.alloc (.cells arr e)) w.heap.size arr := ⟨e, heap_alloc_new w _⟩
theorem AtE.next (w : World) (o : Obj) (arr : Array Value) (e : TypeId) : AtE ((w.alloc o).alloc (.cells arr e)) (w.heap.size + 1) arr := by
  have := AtE.new (w.alloc o) arr e
  have hs : (w.alloc o).heap.size = w.heap.size + 1 := by show (w.heap.push o).size = _; simp
  rw [hs] at this
  exact this
theorem recs_read {B : Nat} {w : World} {v : Value} {rs : List Rec} (h : RecC B w v rs) : ∃ p c, v = .slice p rs.length c ∧ rs.length ≤ c ∧ c ≤ 9223372036854775807 ∧ ∀ (i : Nat) (r : Rec), rs[i]? = some r → ∃ g, p = some ⟨g, 0, none⟩ ∧ g < w.heap.size ∧
    w.cell? ⟨g, i * 4, none⟩ = some (.string ⟨r.name.toArray⟩) ∧ w.cell? ⟨g, i * 4 + 1, none⟩ = some (.int .i64 (r.kind : Int)) ∧ w.cell? ⟨g, i * 4 + 2, none⟩ = some (.int .i64 (r.ttl : Int)) ∧ w.cell? ⟨g, i * 4 + 3, none⟩ = some (.string ⟨r.data.toArray⟩) := by
  rcases h.2 with ⟨a, b⟩ | ⟨g, cap, cur, a, a2, a3, a4, a5, _⟩
  · refine ⟨none, 0, by rw [a, b], by omega, by omega, fun i r hi => ?_⟩
    have := (List.getElem?_eq_some_iff.1 hi).1
    omega
  · subst a
    refine ⟨_, cap, rfl, a4, a5, fun i r hi => ⟨g, rfl, (World.ownsRow.lt h g rfl).2, ?_⟩⟩
    have hlt := (List.getElem?_eq_some_iff.1 hi).1
    have key : ∀ j, j < 4 → w.cell? ⟨g, i * 4 + j, none⟩ = (recCells r)[j]? := fun j hj => by
      rw [World.ownsRow.cellAt h (i * 4 + j) (by omega), Nat.mul_comm i 4, recCells_get rs i r j hi hj]
    exact ⟨key 0 (by omega), key 1 (by omega), key 2 (by omega), key 3 (by omega)⟩
theorem cell_kept {w : World} {b j : Nat} {v : Value} (h : w.cell? ⟨b, j, none⟩ = some v) (o : Obj) : (w.alloc o).cell? ⟨b, j, none⟩ = some v := by
  have hl : b < w.heap.size := by
    unfold World.cell? at h
    split at h
    · rename_i hh; exact (Array.getElem?_eq_some_iff.1 hh).1
    · cases h
  rw [((Below.refl w.heap.size w).alloc (Nat.le_refl _) o).cell (p := ⟨b, j, none⟩) hl]; exact h
set_option maxHeartbeats 4000000 in
set_option maxRecDepth 100000 in
theorem eq_any (M : Msg) (v1 v2 : Value) (B1 B2 : Nat) (w : World) (h1 : RecC B1 w v1 M.recs) (h2 : RecC B2 w v2 M.recs) (hr : M.recs.length ≤ 100000) :
    Calls Tryd.prog 14 #[M.val v1, M.val v2] w fun e w' => e = .returned (.bool true) ∧ Below w.heap.size w w' := by
  obtain ⟨p1, c1, rfl, hc1, hm1, hr1⟩ := recs_read h1
  obtain ⟨p2, c2, rfl, hc2, hm2, hr2⟩ := recs_read h2
  obtain ⟨mi, mr, mc, mw, mo, mn, mk, rs⟩ := M
  simp only at hr hc1 hc2 hr1 hr2
  unfold Msg.val
  simp only
  obtain ⟨zi, hzi⟩ : ∃ z : Int, (mi : Int) = z := ⟨_, rfl⟩
  obtain ⟨zo, hzo⟩ : ∃ z : Int, (mo : Int) = z := ⟨_, rfl⟩
  obtain ⟨zk, hzk⟩ : ∃ z : Int, (mk : Int) = z := ⟨_, rfl⟩
  obtain ⟨zn, hzn⟩ : ∃ z : ByteArray, (⟨mn.toArray⟩ : ByteArray) = z := ⟨_, rfl⟩
  rw [hzi, hzo, hzk, hzn]
  obtain ⟨n, hn⟩ : ∃ n, rs.length = n := ⟨_, rfl⟩
  rw [hn] at hr hc1 hc2 ⊢
  have HN := Lib.hid hn
  have HR1 := Lib.hid hr1
  have HR2 := Lib.hid hr2
  have ei : (zi != zi) = false := by simp
  have eo : (zo != zo) = false := by simp
  have ek : (zk != zk) = false := by simp
  have er : (mr != mr) = false := by simp
  have ec : (mc != mc) = false := by simp
  have ew : (mw != mw) = false := by simp
  have en : (((n : Nat) : Int) != ((n : Nat) : Int)) = false := by simp
  clear hzi hzo hzk hzn hn hr1 hr2 h1 h2
  go_enter Tryd.func14, Tryd.ntmps14
  go_upto_region 1 with (fail)
  have HA := Lib.hid ((AtE.new w #[.int .i64 zi, .bool mr, .bool mc, .bool mw, .int .i64 zo, .string zn, .int .i64 zk, .slice p1 n c1] 26).below ((Below.refl _ _).alloc (Nat.le_refl _) (.cells #[.int .i64 zi, .bool mr, .bool mc, .bool mw, .int .i64 zo, .string zn, .int .i64 zk, .slice p2 n c2] 26)))
  have HB := Lib.hid (AtE.next w (.cells #[.int .i64 zi, .bool mr, .bool mc, .bool mw, .int .i64 zo, .string zn, .int .i64 zk, .slice p1 n c1] 26) #[.int .i64 zi, .bool mr, .bool mc, .bool mw, .int .i64 zo, .string zn, .int .i64 zk, .slice p2 n c2] 26)
  have hb1 := (Below.refl w.heap.size w).alloc (Nat.le_refl _) (.cells #[.int .i64 zi, .bool mr, .bool mc, .bool mw, .int .i64 zo, .string zn, .int .i64 zk, .slice p1 n c1] 26)
  have HW := Lib.hid (hb1.alloc hb1.size (.cells #[.int .i64 zi, .bool mr, .bool mc, .bool mw, .int .i64 zo, .string zn, .int .i64 zk, .slice p2 n c2] 26))
  clear hb1
  generalize ((w.alloc (.cells #[.int .i64 zi, .bool mr, .bool mc, .bool mw, .int .i64 zo, .string zn, .int .i64 zk, .slice p1 n c1] 26)).alloc (.cells #[.int .i64 zi, .bool mr, .bool mc, .bool mw, .int .i64 zo, .string zn, .int .i64 zk, .slice p2 n c2] 26)) = W1 at *
  have a0 := HA.out.cell (j := 0) rfl
  have a1 := HA.out.cell (j := 1) rfl
  have a2 := HA.out.cell (j := 2) rfl
  have a3 := HA.out.cell (j := 3) rfl
  have a4 := HA.out.cell (j := 4) rfl
  have a5 := HA.out.cell (j := 5) rfl
  have a6 := HA.out.cell (j := 6) rfl
  have a7 := HA.out.cell (j := 7) rfl
  have b0 := HB.out.cell (j := 0) rfl
  have b1 := HB.out.cell (j := 1) rfl
  have b2 := HB.out.cell (j := 2) rfl
  have b3 := HB.out.cell (j := 3) rfl
  have b4 := HB.out.cell (j := 4) rfl
  have b5 := HB.out.cell (j := 5) rfl
  have b6 := HB.out.cell (j := 6) rfl
  have b7 := HB.out.cell (j := 7) rfl
  go_wp2
  clear a0 a1 a2 a3 a4 a5 a6 a7 b0 b1 b2 b3 b4 b5 b6 b7
  go_loopw [5] (fun iv wr => ∃ k : Nat, k ≤ n ∧ iv = .int .i64 k ∧ Below W1.heap.size W1 wr) (fun iv _ => n - (intOf iv).toNat)
  case atStart => exact ⟨0, Nat.zero_le _, rfl, Below.refl _ _⟩
  case round =>
    obtain ⟨k, hk, rfl, hbr⟩ := hrel
    have a7 := (HA.out.below hbr).cell (j := 7) rfl
    have b7 := (HB.out.below hbr).cell (j := 7) rfl
    have HBr := Lib.hid hbr
    by_cases hlt : k < n
    · obtain ⟨r, hx⟩ : ∃ x, rs[k]? = some x := ⟨_, List.getElem?_eq_getElem (by rw [HN.out]; exact hlt)⟩
      obtain ⟨g1, rfl, hg1, x0, x1, x2, x3⟩ := HR1.out k r hx
      obtain ⟨g2, rfl, hg2, y0, y1, y2, y3⟩ := HR2.out k r hx
      have hall := HW.out.trans (hbr.mono HW.out.size)
      have cl : ∀ (g j : Nat) (u : Value), g < w.heap.size → w.cell? ⟨g, j, none⟩ = some u → wr.cell? ⟨g, j, none⟩ = some u := fun g j u h e => by rw [hall.cell (p := ⟨g, j, none⟩) h]; exact e
      have x0 := cl _ _ _ hg1 x0
      have x1 := cl _ _ _ hg1 x1
      have x2 := cl _ _ _ hg1 x2
      have x3 := cl _ _ _ hg1 x3
      have y0 := cl _ _ _ hg2 y0
      have y1 := cl _ _ _ hg2 y1
      have y2 := cl _ _ _ hg2 y2
      have y3 := cl _ _ _ hg2 y3
      obtain ⟨rn, hrn⟩ : ∃ z : ByteArray, (⟨r.name.toArray⟩ : ByteArray) = z := ⟨_, rfl⟩
      obtain ⟨rd, hrd⟩ : ∃ z : ByteArray, (⟨r.data.toArray⟩ : ByteArray) = z := ⟨_, rfl⟩
      obtain ⟨rk, hrk⟩ : ∃ z : Int, (r.kind : Int) = z := ⟨_, rfl⟩
      obtain ⟨rt, hrt⟩ : ∃ z : Int, (r.ttl : Int) = z := ⟨_, rfl⟩
      rw [hrn] at x0 y0
      rw [hrk] at x1 y1
      rw [hrt] at x2 y2
      rw [hrd] at x3 y3
      have e1 : (rk != rk) = false := by simp
      have e2 : (rt != rt) = false := by simp
      have hki : (0 : Int) ≤ (k : Int) := by omega
      have hkn : (k : Int) < (n : Int) := by omega
      clear cl hall hx hrn hrd hrk hrt hbr
      go_upto_region 6 with (fail)
      go_cut [6, 7] from 68 to 110 (fun xv yv wx => ∃ h1 h2, xv = .pointer (some ⟨h1, 0, none⟩) ∧ yv = .pointer (some ⟨h2, 0, none⟩) ∧ AtE wx h1 #[.string rn, .int .i64 rk, .int .i64 rt, .string rd] ∧ AtE wx h2 #[.string rn, .int .i64 rk, .int .i64 rt, .string rd] ∧ Below W1.heap.size W1 wx)
      case first =>
        have HK : Hid (wr.drew.cell? ⟨w.heap.size, 7, none⟩ = some (.slice (some ⟨g1, 0, none⟩) n c1) ∧ wr.drew.cell? ⟨(w.heap.size + 1), 7, none⟩ = some (.slice (some ⟨g2, 0, none⟩) n c2) ∧ wr.drew.cell? ⟨g1, k * 4, none⟩ = some (.string rn) ∧ wr.drew.cell? ⟨g1, k * 4 + 1, none⟩ = some (.int .i64 rk) ∧ wr.drew.cell? ⟨g1, k * 4 + 2, none⟩ = some (.int .i64 rt) ∧ wr.drew.cell? ⟨g1, k * 4 + 3, none⟩ = some (.string rd) ∧ wr.drew.cell? ⟨g2, k * 4, none⟩ = some (.string rn) ∧ wr.drew.cell? ⟨g2, k * 4 + 1, none⟩ = some (.int .i64 rk) ∧ wr.drew.cell? ⟨g2, k * 4 + 2, none⟩ = some (.int .i64 rt) ∧ wr.drew.cell? ⟨g2, k * 4 + 3, none⟩ = some (.string rd)) := Lib.hid ⟨a7, b7, x0, x1, x2, x3, y0, y1, y2, y3⟩
        have keepA : Hid (∀ W o, (W.cell? ⟨w.heap.size, 7, none⟩ = some (.slice (some ⟨g1, 0, none⟩) n c1) ∧ W.cell? ⟨(w.heap.size + 1), 7, none⟩ = some (.slice (some ⟨g2, 0, none⟩) n c2) ∧ W.cell? ⟨g1, k * 4, none⟩ = some (.string rn) ∧ W.cell? ⟨g1, k * 4 + 1, none⟩ = some (.int .i64 rk) ∧ W.cell? ⟨g1, k * 4 + 2, none⟩ = some (.int .i64 rt) ∧ W.cell? ⟨g1, k * 4 + 3, none⟩ = some (.string rd) ∧ W.cell? ⟨g2, k * 4, none⟩ = some (.string rn) ∧ W.cell? ⟨g2, k * 4 + 1, none⟩ = some (.int .i64 rk) ∧ W.cell? ⟨g2, k * 4 + 2, none⟩ = some (.int .i64 rt) ∧ W.cell? ⟨g2, k * 4 + 3, none⟩ = some (.string rd)) → ((World.alloc W o).cell? ⟨w.heap.size, 7, none⟩ = some (.slice (some ⟨g1, 0, none⟩) n c1) ∧ (World.alloc W o).cell? ⟨(w.heap.size + 1), 7, none⟩ = some (.slice (some ⟨g2, 0, none⟩) n c2) ∧ (World.alloc W o).cell? ⟨g1, k * 4, none⟩ = some (.string rn) ∧ (World.alloc W o).cell? ⟨g1, k * 4 + 1, none⟩ = some (.int .i64 rk) ∧ (World.alloc W o).cell? ⟨g1, k * 4 + 2, none⟩ = some (.int .i64 rt) ∧ (World.alloc W o).cell? ⟨g1, k * 4 + 3, none⟩ = some (.string rd) ∧ (World.alloc W o).cell? ⟨g2, k * 4, none⟩ = some (.string rn) ∧ (World.alloc W o).cell? ⟨g2, k * 4 + 1, none⟩ = some (.int .i64 rk) ∧ (World.alloc W o).cell? ⟨g2, k * 4 + 2, none⟩ = some (.int .i64 rt) ∧ (World.alloc W o).cell? ⟨g2, k * 4 + 3, none⟩ = some (.string rd))) := Lib.hid (fun W o h => by
          obtain ⟨h0, h1, h2, h3, h4, h5, h6, h7, h8, h9⟩ := h
          exact ⟨cell_kept h0 o, cell_kept h1 o, cell_kept h2 o, cell_kept h3 o, cell_kept h4 o, cell_kept h5 o, cell_kept h6 o, cell_kept h7 o, cell_kept h8 o, cell_kept h9 o⟩)
        clear x0 x1 x2 x3 y0 y1 y2 y3 a7 b7
        go_region_held3 (fun w' => w'.cell? ⟨w.heap.size, 7, none⟩ = some (.slice (some ⟨g1, 0, none⟩) n c1) ∧ w'.cell? ⟨(w.heap.size + 1), 7, none⟩ = some (.slice (some ⟨g2, 0, none⟩) n c2) ∧ w'.cell? ⟨g1, k * 4, none⟩ = some (.string rn) ∧ w'.cell? ⟨g1, k * 4 + 1, none⟩ = some (.int .i64 rk) ∧ w'.cell? ⟨g1, k * 4 + 2, none⟩ = some (.int .i64 rt) ∧ w'.cell? ⟨g1, k * 4 + 3, none⟩ = some (.string rd) ∧ w'.cell? ⟨g2, k * 4, none⟩ = some (.string rn) ∧ w'.cell? ⟨g2, k * 4 + 1, none⟩ = some (.int .i64 rk) ∧ w'.cell? ⟨g2, k * 4 + 2, none⟩ = some (.int .i64 rt) ∧ w'.cell? ⟨g2, k * 4 + 3, none⟩ = some (.string rd)) (first | with_reducible exact HK.out | exact keepA.out _ _ HK.out | exact keepA.out _ _ (keepA.out _ _ HK.out) | go_keep) (fail)
        have q1 : AtE ((wr.alloc (.cells #[.string rn, .int .i64 rk, .int .i64 rt, .string rd] 48)).alloc (.cells #[.string rn, .int .i64 rk, .int .i64 rt, .string rd] 48)).drew wr.heap.size #[.string rn, .int .i64 rk, .int .i64 rt, .string rd] := (AtE.new wr _ _).below (((Below.refl _ _).alloc (Nat.le_refl _) _).drew)
        have q2 : AtE ((wr.alloc (.cells #[.string rn, .int .i64 rk, .int .i64 rt, .string rd] 48)).alloc (.cells #[.string rn, .int .i64 rk, .int .i64 rt, .string rd] 48)).drew (wr.heap.size + 1) #[.string rn, .int .i64 rk, .int .i64 rt, .string rd] := (AtE.next wr _ _ _).below (Below.refl _ _).drew
        have hb1 := HBr.out.alloc HBr.out.size (.cells #[.string rn, .int .i64 rk, .int .i64 rt, .string rd] 48)
        have q3 : Below W1.heap.size W1 ((wr.alloc (.cells #[.string rn, .int .i64 rk, .int .i64 rt, .string rd] 48)).alloc (.cells #[.string rn, .int .i64 rk, .int .i64 rt, .string rd] 48)).drew := (hb1.alloc hb1.size (.cells #[.string rn, .int .i64 rk, .int .i64 rt, .string rd] 48)).drew
        · go_wp2
          go_meet
          exact ⟨_, _, rfl, rfl, q1, q2, q3⟩
        · have q1 : AtE ((wr.alloc (.cells #[.string rn, .int .i64 rk, .int .i64 rt, .string rd] 48)).alloc (.cells #[.string rn, .int .i64 rk, .int .i64 rt, .string rd] 48)).drew wr.heap.size #[.string rn, .int .i64 rk, .int .i64 rt, .string rd] := (AtE.new wr _ _).below (((Below.refl _ _).alloc (Nat.le_refl _) _).drew)
          have q2 : AtE ((wr.alloc (.cells #[.string rn, .int .i64 rk, .int .i64 rt, .string rd] 48)).alloc (.cells #[.string rn, .int .i64 rk, .int .i64 rt, .string rd] 48)).drew (wr.heap.size + 1) #[.string rn, .int .i64 rk, .int .i64 rt, .string rd] := (AtE.next wr _ _ _).below (Below.refl _ _).drew
          have hb1 := HBr.out.alloc HBr.out.size (.cells #[.string rn, .int .i64 rk, .int .i64 rt, .string rd] 48)
          have q3 : Below W1.heap.size W1 ((wr.alloc (.cells #[.string rn, .int .i64 rk, .int .i64 rt, .string rd] 48)).alloc (.cells #[.string rn, .int .i64 rk, .int .i64 rt, .string rd] 48)).drew := (hb1.alloc hb1.size (.cells #[.string rn, .int .i64 rk, .int .i64 rt, .string rd] 48)).drew
          go_wp2
          go_meet
          exact ⟨_, _, rfl, rfl, q2, q1, q3⟩
      case rest =>
        obtain ⟨h1, h2, rfl, rfl, he1, he2, hbc⟩ := hcut
        have z0 := he1.cell (j := 0) rfl
        have z1 := he1.cell (j := 1) rfl
        have z2 := he1.cell (j := 2) rfl
        have z3 := he1.cell (j := 3) rfl
        have t0 := he2.cell (j := 0) rfl
        have t1 := he2.cell (j := 1) rfl
        have t2 := he2.cell (j := 2) rfl
        have t3 := he2.cell (j := 3) rfl
        have HBc := Lib.hid hbc
        clear a7 b7 he1 he2 hbc
        go_wp2
        go_roundw
        case rel => exact ⟨k + 1, hlt, by go_num, HBc.out⟩
        case measure => simp [intOf]; omega
    · obtain rfl : k = n := by omega
      go_wp2
      go_ret
      exact ⟨rfl, HW.out.trans (hbr.mono HW.out.size)⟩
end Go.Proofs.YtepfeekfglpjoaaDoor

namespace Go.Wi
open Go.RowKit
def u8V (c : UInt8) : Value := .int .u8 (c.toNat : Int)
theorem u8_of (z : Int) (h0 : 0 ≤ z) (h1 : z < 256) : ∃ x : UInt8, (x.toNat : Int) = z := ⟨UInt8.ofNat z.toNat, by rw [UInt8.toNat_ofNat_of_lt' (by show z.toNat < 256; omega)]; omega⟩
theorem wrap8 (z : Int) : 0 ≤ IntKind.u8.wrap z ∧ IntKind.u8.wrap z < 256 := by
  simp [IntKind.wrap, IntKind.bits, IntKind.signed]
  omega
/-- What a call does: block p and the row of v may have turned, nothing else that was there. -/
structure WStep (p : Nat) (w w' : World) (v v' : Value) : Prop where
  os : w'.os = w.os
  tape : w'.tape = w.tape
  output : w'.output = w.output
  size : w.heap.size ≤ w'.heap.size
  same : ∀ j, j < w.heap.size → j ≠ p → v.ownBlock ≠ some j → w'.heap[j]? = w.heap[j]?
  row : ∀ g, v'.ownBlock = some g → v.ownBlock = some g ∨ w.heap.size ≤ g
theorem WStep.refl (p : Nat) (w : World) (v : Value) : WStep p w w v v := ⟨rfl, rfl, rfl, Nat.le_refl _, fun _ _ _ _ => rfl, fun _ h => .inl h⟩
theorem WStep.trans {p : Nat} {w w' w'' : World} {v v' v'' : Value} (h : WStep p w w' v v') (k : WStep p w' w'' v' v'') : WStep p w w'' v v'' :=
  ⟨k.os.trans h.os, k.tape.trans h.tape, k.output.trans h.output, Nat.le_trans h.size k.size, fun j a b c => (k.same j (Nat.lt_of_lt_of_le a h.size) b (fun e => by
    rcases h.row j e with q | q
    · exact c q
    · omega)).trans (h.same j a b c), fun g e => by
    rcases k.row g e with q | q
    · exact h.row g q
    · exact .inr (Nat.le_trans h.size q)⟩
theorem WStep.below {p : Nat} {w w' w'' : World} {v v' : Value} (h : WStep p w w' v v') (k : Below w'.heap.size w' w'') : WStep p w w'' v v' :=
  ⟨k.os.trans h.os, k.tape.trans h.tape, k.output.trans h.output, Nat.le_trans h.size k.size, fun j a b c => (k.block j (Nat.lt_of_lt_of_le a h.size)).trans (h.same j a b c), h.row⟩
theorem WStep.set {p : Nat} {w w' : World} {v v' : Value} (h : WStep p w w' v v') (k : Nat) (x : Value) : WStep p w (w'.setCell ⟨p, k, none⟩ x) v v' :=
  ⟨h.os, h.tape, h.output, by show w.heap.size ≤ (w'.heap.modify _ _).size; simpa using h.size, fun j a b c => by
    show (w'.heap.modify p _)[j]? = _
    rw [Array.getElem?_modify, if_neg (fun e => b e.symm)]; exact h.same j a b c, h.row⟩
end Go.Wi
namespace Go.Proofs.YtepfeekfglpjoaaDoor
open Go.RowKit Go.Lib Go.Wi Go.Tx
def OwnB (B : Nat) (w : World) (v : Value) (l : List UInt8) : Prop := w.ownsRow B 5 1 v l.length (l.map u8V)
/-- The writer lies in block p: its bytes l in the value v, bad or not. -/
structure WR (B : Nat) (w : World) (p : Nat) (v : Value) (l : List UInt8) (bad : Bool) : Prop where
  blk : ∃ e, w.heap[p]? = some (.cells #[v, .bool bad] e (0, 0))
  own : OwnB B w v l
  apart : v.ownBlock ≠ some p
section
variable {B p : Nat} {w w' : World} {v : Value} {l : List UInt8} {bad : Bool}
theorem WR.lt (h : WR B w p v l bad) : p < w.heap.size := by obtain ⟨e, h⟩ := h.blk; exact (Array.getElem?_eq_some_iff.1 h).1
theorem WR.c0 (h : WR B w p v l bad) : w.cell? ⟨p, 0, none⟩ = some v := by obtain ⟨e, h⟩ := h.blk; simp [World.cell?, h]
theorem WR.c1 (h : WR B w p v l bad) : w.cell? ⟨p, 1, none⟩ = some (.bool bad) := by obtain ⟨e, h⟩ := h.blk; simp [World.cell?, h]
theorem WR.free (h : WR B w p v l bad) (j : Nat) : w.frozen? ⟨p, j, none⟩ = false := by obtain ⟨e, h⟩ := h.blk; simp [World.frozen?, h]
theorem WR.shape (h : WR B w p v l bad) : ∃ a c, v = .slice a l.length c := by
  rcases h.own.2 with ⟨a, b⟩ | ⟨g, cap, cur, a, _⟩
  · exact ⟨none, 0, by rw [a, b]⟩
  · exact ⟨_, _, a⟩
theorem WR.below (h : WR B w p v l bad) (hb : Below w.heap.size w w') : WR B w' p v l bad := by
  have hl := h.lt
  refine ⟨?_, own_below h.own hb, h.apart⟩
  obtain ⟨e, h⟩ := h.blk
  exact ⟨e, by rw [hb.block p hl]; exact h⟩
theorem WR.setbad (h : WR B w p v l bad) (b : Bool) : WR B (w.setCell ⟨p, 1, none⟩ (.bool b)) p v l b := by
  refine ⟨?_, ?_, h.apart⟩
  · obtain ⟨e, h⟩ := h.blk
    refine ⟨e, ?_⟩
    show (w.heap.modify p _)[p]? = _
    rw [Array.getElem?_modify]
    simp [h]
  · refine ⟨h.own.1, ?_⟩
    rcases h.own.2 with q | ⟨g, cap, cur, q1, q2, q3, q4⟩
    · exact .inl q
    · refine .inr ⟨g, cap, cur, q1, q2, ?_, q4⟩
      show (w.heap.modify p _)[g]? = _
      rw [Array.getElem?_modify, if_neg (fun e => h.apart (by rw [q1, e]; rfl))]
      exact q3
/-- Behind an append to the bytes and the store of what it gave. -/
theorem WR.put (h : WR B w p v l bad) {w5 : World} {v' : Value} {m : List UInt8} (ho : w5.ownsRow B 5 1 v' (l.length + m.length) (l.map u8V ++ m.map u8V)) (hg : w.grownBy w5 v.ownBlock) (hr : ∀ g, v'.ownBlock = some g → v.ownBlock = some g ∨ w.heap.size ≤ g) :
    WR B (w5.setCell ⟨p, 0, none⟩ v') p v' (l ++ m) bad ∧ WStep p w (w5.setCell ⟨p, 0, none⟩ v') v v' := by
  have hp := h.lt
  have hap : v'.ownBlock ≠ some p := fun e => by
    rcases hr p e with q | q
    · exact h.apart q
    · omega
  refine ⟨⟨?_, ?_, hap⟩, ⟨hg.os, hg.tape, hg.output, by show w.heap.size ≤ (w5.heap.modify _ _).size; simpa using hg.size, fun j a b c => ?_, hr⟩⟩
  · obtain ⟨e, hb⟩ := h.blk
    refine ⟨e, ?_⟩
    have h5 : w5.heap[p]? = some (.cells #[v, .bool bad] e (0, 0)) := by rw [hg.block p hp (fun e => h.apart e.symm)]; exact hb
    show (w5.heap.modify p _)[p]? = _
    rw [Array.getElem?_modify]
    simp [h5]
  · unfold OwnB
    rw [List.length_append, List.map_append]
    refine ⟨ho.1, ?_⟩
    rcases ho.2 with q | ⟨g, cap, cur, q1, q2, q3, q4⟩
    · exact .inl q
    · refine .inr ⟨g, cap, cur, q1, q2, ?_, q4⟩
      show (w5.heap.modify p _)[g]? = _
      rw [Array.getElem?_modify, if_neg (fun e => hap (by rw [q1, e]; rfl))]
      exact q3
  · show (w5.heap.modify p _)[j]? = _
    rw [Array.getElem?_modify, if_neg (fun e => b e.symm)]
    exact hg.block j a (fun e => c e.symm)
end
theorem infoU8 : (Tryd.prog.info? 5).map (fun i => (i.zero, i.size, i.bytes)) = some (some (.int .u8 0), 1, 1) := by kernel_rfl
theorem cells_of (w : World) (arr : Array Value) (e : TypeId) : ∀ j u, arr.toList[j]? = some u → (w.alloc (.cells arr e)).cell? ((⟨w.heap.size, 0, none⟩ : Addr).add j) = some u := by
  intro j u hj
  have ha : (⟨w.heap.size, 0, none⟩ : Addr).add j = ⟨w.heap.size, j, none⟩ := by unfold Addr.add; split <;> simp_all
  rw [ha, World.cell?_alloc_new]
  simpa using hj
def CheckR (w : World) (p : Nat) (b : Bool) (e : Ending) (w' : World) : Prop := e = .returned (.tuple #[]) ∧ w' = w.setCell ⟨p, 1, none⟩ (.bool b)
theorem wcheck_any {B p : Nat} {v : Value} {l : List UInt8} {bad : Bool} (h : Bool) (w : World) (hw : WR B w p v l bad) :
    Calls Tryd.prog 31 #[.pointer (some ⟨p, 0, none⟩), .bool h] w (CheckR w p (bad || !h)) := by
  have c1 := hw.c1
  have f1 := hw.free 1
  clear hw
  cases bad with
  | true =>
    go_enter Tryd.func31, Tryd.ntmps31
    go_wp2
    go_end0
    exact ⟨rfl, rfl⟩
  | false =>
    go_enter Tryd.func31, Tryd.ntmps31
    go_wp2
    go_end0
    exact ⟨rfl, by simp⟩
/-- What a number in two bytes leaves. -/
def WordR (B : Nat) (w : World) (p : Nat) (v : Value) (l : List UInt8) (b : Bool) (n : Int) (e : Ending) (w' : World) : Prop :=
  e = .returned (.tuple #[]) ∧ ∃ v' x y, WR B w' p v' (l ++ [x, y]) b ∧ WStep p w w' v v' ∧ (x.toNat : Int) = n / 256 % 256 ∧ (y.toNat : Int) = n % 256
set_option maxHeartbeats 1000000 in
set_option maxRecDepth 100000 in
theorem wword_any {B p : Nat} {v : Value} {l : List UInt8} {bad : Bool} (n least : Int) (w : World) (hw : WR B w p v l bad) (hB : B ≤ w.heap.size) (hl : l.length ≤ 1000000000) :
    Calls Tryd.prog 30 #[.pointer (some ⟨p, 0, none⟩), .int .i64 n, .int .i64 least] w (WordR B w p v l (bad || !(decide (least ≤ n) && decide (n ≤ 65535))) n) := by
  obtain ⟨i, hi, hz0, hz1, hz2⟩ := info_parts infoU8
  obtain ⟨va, vc, rfl⟩ := hw.shape
  have HW := Lib.hid hw
  have main : ∀ h b : Bool, (decide (least ≤ n) && decide (n ≤ 65535)) = h → (bad || !h) = b → Calls Tryd.prog 30 #[.pointer (some ⟨p, 0, none⟩), .int .i64 n, .int .i64 least] w (WordR B w p (.slice va l.length vc) l b n) := by
    intro h b hh hb
    have hc := wcheck_any h w hw
    rw [hb] at hc
    have HC := Lib.hid hc
    have HW1 := Lib.hid (hw.setbad b)
    have HS1 := Lib.hid ((WStep.refl p w (.slice va l.length vc)).set 1 (.bool b))
    have hB1 : B ≤ (w.setCell ⟨p, 1, none⟩ (.bool b)).heap.size := Nat.le_trans hB HS1.out.size
    clear hw hb hc
    have fin : ∀ (w1 w7 : World) (g7 cap7 : Nat) (z1 z2 : Int), z1 = n / 256 % 256 → z2 = n % 256 → WR B w1 p (.slice va l.length vc) l b → WStep p w w1 (.slice va l.length vc) (.slice va l.length vc) →
        w7.ownsRow B 5 1 (.slice (some ⟨g7, 0, none⟩) (l.length + 2) cap7) (l.length + 2) (l.map u8V ++ [.int .u8 z1, .int .u8 z2]) → (w1.alloc (.cells #[.int .u8 z1, .int .u8 z2] 5)).grownBy w7 (Value.slice va l.length vc).ownBlock → ((Value.slice va l.length vc).ownBlock = some g7 ∨ g7 = w1.heap.size + 1) →
        WordR B w p (.slice va l.length vc) l b n (.returned (.tuple #[])) (w7.setCell ⟨p, 0, none⟩ (.slice (some ⟨g7, 0, none⟩) (l.length + 2) cap7)) := by
      intro w1 w7 g7 cap7 z1 z2 e1 e2 hW hS hO hG hA
      obtain ⟨x, hx⟩ := u8_of z1 (by omega) (by omega)
      obtain ⟨y, hy⟩ := u8_of z2 (by omega) (by omega)
      have hal := (Below.refl w1.heap.size w1).alloc (Nat.le_refl _) (.cells #[.int .u8 z1, .int .u8 z2] 5)
      have h2 := (hW.below hal).put (v' := .slice (some ⟨g7, 0, none⟩) (l.length + 2) cap7) (m := [x, y]) (by rw [← hx, ← hy] at hO; exact hO) hG (fun g hg => by
        have e : g7 = g := by simpa [Value.ownBlock] using hg
        subst e
        rcases hA with h | h
        · exact .inl h
        · right
          have : (w1.alloc (.cells #[.int .u8 z1, .int .u8 z2] 5)).heap.size = w1.heap.size + 1 := by show (w1.heap.push _).size = _; simp
          omega)
      exact ⟨rfl, _, x, y, h2.1, (hS.below hal).trans h2.2, by rw [hx, e1], by rw [hy, e2]⟩
    have HFin := Lib.hid fin
    clear fin
    cases h with
    | true =>
      simp only [Bool.and_eq_true, decide_eq_true_eq] at hh
      obtain ⟨c1, c2⟩ := hh
      go_enter Tryd.func30, Tryd.ntmps30
      go_upto_region 1 with (go_at_call 31; refine HC.out.mono ?_; rintro e w' ⟨rfl, rfl⟩)
      generalize (w.setCell ⟨p, 1, none⟩ (.bool b)) = w1 at *
      have d0 := HW1.out.c0
      have HBA : Hid (∀ o, WR B (w1.alloc o) p (.slice va l.length vc) l b) := Lib.hid (fun o => HW1.out.below ((Below.refl _ _).alloc (Nat.le_refl _) o))
      go_wp2_with (at_builtin; go_loud (refine wpList_append_lies _ rfl _ _ _ rfl B 5 i (.int .u8 0) 1 1 Tryd.underlying29 hi hz0 hz1 hz2 rfl (by decide) (.slice va l.length vc) l.length (l.map u8V) rfl (World.ownsRow.alloc HW1.out.own _) ⟨w1.heap.size, 0, none⟩ 2 2 [_, _] rfl rfl (cells_of w1 _ _) (by simp [Value.oneCell']) (by decide) (by unfold maxLen; omega) (by omega) (by show B ≤ (w1.heap.push _).size; simp; omega) (w1.heap.size + 1) (by show (w1.heap.push _).size = _; simp) ?_; intro g7 cap7 w7 hown7 hg7 hat7 hlt7; have HO7 := Lib.hid hown7; have HG7 := Lib.hid hg7; have HA7 := Lib.hid hat7; have hk0 : w7.cell? ⟨p, 0, none⟩ = some (.slice va l.length vc) := (by rw [hg7.cell_far ⟨p, 0, none⟩ (HBA.out _).lt (fun e => HW1.out.apart e.symm)]; exact (HBA.out _).c0); have hf0 : w7.frozen? ⟨p, 0, none⟩ = false := (by rw [hg7.frozen_far ⟨p, 0, none⟩ (HBA.out _).lt (fun e => HW1.out.apart e.symm)]; exact (HBA.out _).free 0); clear hown7 hg7 hat7))
      go_end0
      exact HFin.out w1 _ _ _ _ _ rfl rfl HW1.out HS1.out HO7.out HG7.out HA7.out
    | false =>
      have hf : ¬ (least ≤ n ∧ n ≤ 65535) := fun e => by
        rw [decide_eq_true e.1, decide_eq_true e.2] at hh; cases hh
      by_cases c1 : least ≤ n
      · have c2 : ¬ n ≤ 65535 := fun e => hf ⟨c1, e⟩
        clear hf hh
        go_enter Tryd.func30, Tryd.ntmps30
        go_upto_region 1 with (go_at_call 31; refine HC.out.mono ?_; rintro e w' ⟨rfl, rfl⟩)
        generalize (w.setCell ⟨p, 1, none⟩ (.bool b)) = w1 at *
        have d0 := HW1.out.c0
        have HBA : Hid (∀ o, WR B (w1.alloc o) p (.slice va l.length vc) l b) := Lib.hid (fun o => HW1.out.below ((Below.refl _ _).alloc (Nat.le_refl _) o))
        go_wp2_with (at_builtin; go_loud (refine wpList_append_lies _ rfl _ _ _ rfl B 5 i (.int .u8 0) 1 1 Tryd.underlying29 hi hz0 hz1 hz2 rfl (by decide) (.slice va l.length vc) l.length (l.map u8V) rfl (World.ownsRow.alloc HW1.out.own _) ⟨w1.heap.size, 0, none⟩ 2 2 [_, _] rfl rfl (cells_of w1 _ _) (by simp [Value.oneCell']) (by decide) (by unfold maxLen; omega) (by omega) (by show B ≤ (w1.heap.push _).size; simp; omega) (w1.heap.size + 1) (by show (w1.heap.push _).size = _; simp) ?_; intro g7 cap7 w7 hown7 hg7 hat7 hlt7; have HO7 := Lib.hid hown7; have HG7 := Lib.hid hg7; have HA7 := Lib.hid hat7; have hk0 : w7.cell? ⟨p, 0, none⟩ = some (.slice va l.length vc) := (by rw [hg7.cell_far ⟨p, 0, none⟩ (HBA.out _).lt (fun e => HW1.out.apart e.symm)]; exact (HBA.out _).c0); have hf0 : w7.frozen? ⟨p, 0, none⟩ = false := (by rw [hg7.frozen_far ⟨p, 0, none⟩ (HBA.out _).lt (fun e => HW1.out.apart e.symm)]; exact (HBA.out _).free 0); clear hown7 hg7 hat7))
        go_end0
        exact HFin.out w1 _ _ _ _ _ rfl rfl HW1.out HS1.out HO7.out HG7.out HA7.out
      · clear hf hh
        go_enter Tryd.func30, Tryd.ntmps30
        go_upto_region 1 with (go_at_call 31; refine HC.out.mono ?_; rintro e w' ⟨rfl, rfl⟩)
        generalize (w.setCell ⟨p, 1, none⟩ (.bool b)) = w1 at *
        have d0 := HW1.out.c0
        have HBA : Hid (∀ o, WR B (w1.alloc o) p (.slice va l.length vc) l b) := Lib.hid (fun o => HW1.out.below ((Below.refl _ _).alloc (Nat.le_refl _) o))
        go_wp2_with (at_builtin; go_loud (refine wpList_append_lies _ rfl _ _ _ rfl B 5 i (.int .u8 0) 1 1 Tryd.underlying29 hi hz0 hz1 hz2 rfl (by decide) (.slice va l.length vc) l.length (l.map u8V) rfl (World.ownsRow.alloc HW1.out.own _) ⟨w1.heap.size, 0, none⟩ 2 2 [_, _] rfl rfl (cells_of w1 _ _) (by simp [Value.oneCell']) (by decide) (by unfold maxLen; omega) (by omega) (by show B ≤ (w1.heap.push _).size; simp; omega) (w1.heap.size + 1) (by show (w1.heap.push _).size = _; simp) ?_; intro g7 cap7 w7 hown7 hg7 hat7 hlt7; have HO7 := Lib.hid hown7; have HG7 := Lib.hid hg7; have HA7 := Lib.hid hat7; have hk0 : w7.cell? ⟨p, 0, none⟩ = some (.slice va l.length vc) := (by rw [hg7.cell_far ⟨p, 0, none⟩ (HBA.out _).lt (fun e => HW1.out.apart e.symm)]; exact (HBA.out _).c0); have hf0 : w7.frozen? ⟨p, 0, none⟩ = false := (by rw [hg7.frozen_far ⟨p, 0, none⟩ (HBA.out _).lt (fun e => HW1.out.apart e.symm)]; exact (HBA.out _).free 0); clear hown7 hg7 hat7))
        go_end0
        exact HFin.out w1 _ _ _ _ _ rfl rfl HW1.out HS1.out HO7.out HG7.out HA7.out
  exact main _ _ rfl rfl
end Go.Proofs.YtepfeekfglpjoaaDoor

namespace Go.Tx
open Go.Lib
theorem low_all : ∀ i : Fin 256, low (low (UInt8.ofNat i.1)) = low (UInt8.ofNat i.1) ∧ (low (UInt8.ofNat i.1) = 46 ↔ UInt8.ofNat i.1 = 46) ∧ sign (low (UInt8.ofNat i.1)).toNat = sign (UInt8.ofNat i.1).toNat := by decide +kernel
theorem low_facts (c : UInt8) : low (low c) = low c ∧ (low c = 46 ↔ c = 46) ∧ sign (low c).toNat = sign c.toNat := by
  have := low_all ⟨c.toNat, c.toNat_lt⟩
  simpa using this
theorem split_low : ∀ (l cur : List UInt8), splitG 46 (cur.map low) (l.map low) = (splitG 46 cur l).map (List.map low)
  | [], cur => by simp [splitG]
  | c :: l, cur => by
    simp only [List.map_cons, splitG]
    by_cases h : c = 46
    · rw [if_pos ((low_facts c).2.1.2 h), if_pos h]
      simp only [List.map_cons]
      congr 1
      exact split_low l []
    · rw [if_neg (fun e => h ((low_facts c).2.1.1 e)), if_neg h]
      have := split_low l (cur ++ [c])
      simpa using this
theorem label_low (l : List UInt8) : labelB (l.map low) = labelB l := by
  unfold labelB
  have e : ((l.map low).all fun b => sign b.toNat) = l.all fun b => sign b.toNat := by
    rw [List.all_map]
    congr 1
    funext c
    exact (low_facts c).2.2
  rw [e]
  simp
theorem name_low (l : List UInt8) : nameB (l.map low) = nameB l := by
  unfold nameB splitL
  have := split_low l []
  simp only [List.map_nil] at this
  rw [this, List.all_map, List.length_map]
  congr 2
  funext x
  exact label_low x
theorem low_low (l : List UInt8) : (l.map low).map low = l.map low := by
  rw [List.map_map]
  exact List.map_congr_left fun c _ => (low_facts c).1
theorem suf_snoc (l : List UInt8) : hasSuffix (l ++ [46]) [46] = true := by
  unfold hasSuffix
  exact List.isSuffixOf_iff_suffix.2 ⟨l, rfl⟩
theorem bare_snoc (l : List UInt8) : bare (l ++ [46]) = l := by
  unfold bare trimSuffix
  rw [suf_snoc, if_pos rfl]
  simp
/-- A name that is cleaned, rooted anew. -/
theorem clean_rooted (l : List UInt8) (h : nameB l = true) : cleanV (l.map low ++ [46]) = .tuple #[.string ⟨(l.map low).toArray⟩, .bool true, .bool true] := by
  unfold cleanV isRoot
  rw [bare_snoc, suf_snoc, name_low, if_pos h, low_low]
theorem cleanV_cases (l : List UInt8) : (nameB (bare l) = true ∧ cleanV l = .tuple #[.string ⟨((bare l).map low).toArray⟩, .bool (isRoot l), .bool true]) ∨ (nameB (bare l) = false ∧ cleanV l = .tuple #[.string ⟨#[]⟩, .bool false, .bool false]) := by
  unfold cleanV
  cases h : nameB (bare l) with
  | true => exact .inl ⟨rfl, if_pos rfl⟩
  | false => exact .inr ⟨rfl, if_neg (by decide)⟩
end Go.Tx

namespace Go.Wi
open Go.Tx
/-- A cleaned name's bytes in a message. -/
def pieceB (x : List UInt8) : List UInt8 := UInt8.ofNat x.length :: x
def encP (n : List UInt8) : List UInt8 := (splitL 46 n).flatMap pieceB ++ [0]
/-- What Encode returns. -/
def encV (l : List UInt8) : Value := if nameB (bare l) = true then .tuple #[.string ⟨(encP ((bare l).map low)).toArray⟩, .bool true] else .tuple #[.string ⟨#[]⟩, .bool false]
theorem flat_len : ∀ (T : List (List UInt8)) (m : Nat), (∀ x ∈ T, x.length ≤ m) → (T.flatMap pieceB).length ≤ T.length * (m + 1)
  | [], m, _ => by simp
  | x :: T, m, h => by
    have ih := flat_len T m (fun y hy => h y (by simp [hy]))
    have hx := h x (by simp)
    rw [List.flatMap_cons, List.length_append, List.length_cons, Nat.succ_mul]
    have : (pieceB x).length = x.length + 1 := rfl
    omega
theorem flat_take {T : List (List UInt8)} {k : Nat} {x : List UInt8} (h : T[k]? = some x) : (T.take (k + 1)).flatMap pieceB = (T.take k).flatMap pieceB ++ [UInt8.ofNat x.length] ++ x := by
  have hk := (List.getElem?_eq_some_iff.1 h).1
  rw [List.getElem?_eq_getElem hk] at h
  cases h
  rw [List.take_succ_eq_append_getElem hk, List.flatMap_append]
  simp [pieceB]
end Go.Wi
namespace Go.Proofs.YtepfeekfglpjoaaDoor
open Go.RowKit Go.Lib Go.Wi Go.Tx
theorem split46_any (s : ByteArray) (w : World) (hs : s.size ≤ 1000000) (hm : MaxAt w) :
    Calls Tryd.prog 56 #[.string s, .string ⟨#[46]⟩] w fun e w' => ∃ b, e = .returned (.slice (some ⟨b, 0, none⟩) (splitL 46 s.data.toList).length (splitL 46 s.data.toList).length) ∧ TextsAt w' b (splitL 46 s.data.toList).length (splitL 46 s.data.toList) ∧ Below w.heap.size w w' := by
  obtain ⟨m, hm⟩ := hm
  refine (Tryd.strings_Split s ⟨#[46]⟩ m w (by omega) hm (Nat.le_refl 1)).mono ?_
  rintro e w' ⟨rfl, rfl⟩
  have h := split_textsAt s w (by omega)
  rw [split_count] at h ⊢
  exact ⟨_, rfl, h, (Below.refl _ _).alloc (Nat.le_refl _) _⟩
/-- Bytes of the call's own, as a text. -/
theorem own_str {B : Nat} {w : World} {v : Value} {l : List UInt8} (h : OwnB B w v l) (hl : 0 < l.length) : (convert 29 9 v).run Tryd.prog w = .ok (.string ⟨l.toArray⟩) w := by
  rcases h.2 with ⟨_, b⟩ | ⟨g, cap, cur, a, _⟩
  · omega
  · subst a
    refine run_convert_bytes_back w 29 9 5 ⟨g, 0, none⟩ cap l Tryd.underlying29 Tryd.underlying5 Tryd.underlying9 fun j hj => ?_
    have := World.ownsRow.cells h (g := g) rfl j (u8V l[j]) (by rw [List.getElem?_map, List.getElem?_eq_getElem hj]; rfl)
    exact this
theorem pieces_small (l : List UInt8) : ∀ x ∈ splitL 46 l, x.length ≤ l.length := fun x hx => by
  have := splitG_mem 46 l [] x hx
  simpa using this
set_option maxHeartbeats 2000000 in
set_option maxRecDepth 100000 in
theorem encode_any (s : ByteArray) (w : World) (hs : s.size ≤ maxLen) (hm : MaxAt w) :
    Calls Tryd.prog 49 #[.string s] w fun e w' => e = .returned (encV s.data.toList) ∧ Below w.heap.size w w' := by
  obtain ⟨i, hi, hz0, hz1, hz2⟩ := info_parts infoU8
  have HC := Lib.hid (clean_any s w hs hm)
  have HM := Lib.hid hm
  rcases cleanV_cases s.data.toList with ⟨hnb, hcv⟩ | ⟨hnb, hcv⟩
  · have HX1 : Hid (encV s.data.toList = .tuple #[.string ⟨(encP ((bare s.data.toList).map low)).toArray⟩, .bool true]) := Lib.hid (if_pos hnb)
    rw [hcv] at HC
    have hlen : ((bare s.data.toList).map low).length ≤ 253 := by
      rw [List.length_map]
      unfold nameB at hnb
      simp only [Bool.and_eq_true, decide_eq_true_eq] at hnb
      exact hnb.1
    clear hcv hnb hs hm
    generalize (bare s.data.toList).map low = kk at *
    have HSp := Lib.hid (fun W hM => split46_any ⟨kk.toArray⟩ W (by show kk.toArray.size ≤ 1000000; simp; omega) hM)
    have e1 : (ByteArray.data ⟨kk.toArray⟩).toList = kk := rfl
    rw [e1] at HSp
    have hpn := (splitG_len 46 kk []).2
    have hps := pieces_small kk
    obtain ⟨T, hT⟩ : ∃ T, splitL 46 kk = T := ⟨_, rfl⟩
    have hTl : T.length ≤ 254 := by rw [← hT]; unfold splitL; omega
    rw [hT] at HSp hps
    have HT := Lib.hid hT
    have HPs : Hid (∀ x ∈ T, x.length ≤ 253) := Lib.hid (fun x hx => Nat.le_trans (hps x hx) hlen)
    clear hT hps hpn e1
    obtain ⟨m, hmT⟩ : ∃ m, T.length = m := ⟨_, rfl⟩
    rw [hmT] at HSp hTl
    have HmT := Lib.hid hmT
    clear hmT
    go_enter Tryd.func49, Tryd.ntmps49
    go_wp2_with (first | (go_at_call 48; refine HC.out.mono ?_; rintro e w2 ⟨rfl, hb2⟩; have HB2 := Lib.hid hb2; clear hb2) | (go_at_call 56; refine (HSp.out _ (HM.out.below HB2.out)).mono ?_; rintro e w3 ⟨b3, rfl, ht3, hb3⟩; have HT3 := Lib.hid ht3; have HB3 := Lib.hid (HB2.out.trans (hb3.mono HB2.out.size)); clear ht3 hb3))
    go_loopw [7, 21] (fun cv iv wr => ∃ k : Nat, k ≤ m ∧ iv = .int .i64 k ∧ OwnB w3.heap.size wr cv ((T.take k).flatMap pieceB) ∧ Below w3.heap.size w3 wr) (fun _ iv _ => m - (intOf iv).toNat)
    case atStart => exact ⟨0, Nat.zero_le _, rfl, World.ownsRow_nil _ _ _ _, Below.refl _ _⟩
    case round =>
      obtain ⟨k, hk, rfl, hown, hbr⟩ := hrel
      have hfl : ((T.take k).flatMap pieceB).length ≤ 70000 := by
        have h1 := flat_len (T.take k) 253 (fun x hx => HPs.out x (List.mem_of_mem_take hx))
        have h2 := List.length_take_le k T
        have h3 := HmT.out
        have h4 : (T.take k).length * 254 ≤ 254 * 254 := Nat.mul_le_mul_right _ (by omega)
        omega
      obtain ⟨P, hP⟩ : ∃ P, (T.take k).flatMap pieceB = P := ⟨_, rfl⟩
      rw [hP] at hown hfl
      have HP := Lib.hid hP
      have HOw := Lib.hid hown
      have HBr := Lib.hid hbr
      clear hP hown
      by_cases hlt : k < m
      · obtain ⟨x, hx⟩ : ∃ x, T[k]? = some x := ⟨_, List.getElem?_eq_getElem (by rw [HmT.out]; exact hlt)⟩
        have hxl := HPs.out x (List.mem_of_getElem? hx)
        have hcell := (HT3.out.below hbr).cell k x hx
        have HTk := Lib.hid (flat_take hx)
        obtain ⟨xb, hxb⟩ : ∃ q : ByteArray, (⟨x.toArray⟩ : ByteArray) = q := ⟨_, rfl⟩
        have hxs : xb.size = x.length := by rw [← hxb]; show x.toArray.size = _; simp
        have HXd : Hid (xb.data.toList = x) := Lib.hid (by rw [← hxb])
        rw [hxb] at hcell
        have hx255 : (xb.size : Int) ≤ 253 := by omega
        clear hx hxb hbr
        go_wp2_with (first | (at_builtin; refine wpList_append_own _ rfl _ _ 29 rfl w3.heap.size 5 i (.int .u8 0) 1 1 Tryd.underlying29 hi hz0 hz1 hz2 rfl (by decide) _ P.length (P.map u8V) rfl (World.ownsRow.alloc HOw.out _) ⟨wr.heap.size, 0, none⟩ 1 1 [_] rfl rfl (cells_of wr _ _) (by simp [Value.oneCell']) (by unfold maxLen; omega) (by omega) (by have := HBr.out.size; show w3.heap.size ≤ (wr.heap.push _).size; simp; omega) ?_; intro v5 w5 hown5 hg5 _; have HO5 := Lib.hid hown5; have HG5 := Lib.hid hg5; have hs5 : wr.heap.size ≤ w5.heap.size := Nat.le_trans (by show wr.heap.size ≤ (wr.heap.push _).size; simp) hg5.size; clear hown5 hg5) | (at_builtin; refine wpList_append_own_string w5 rfl _ _ 29 9 rfl w3.heap.size 5 i Tryd.underlying29 Tryd.underlying9 hi hz0 hz1 hz2 _ (P.length + 1) _ rfl HO5.out xb rfl (by unfold maxLen; omega) (by omega) (by have := HBr.out.size; omega) ?_; intro v6 w6 hown6 hg6 _))
        go_roundw
        case rel =>
          have hB6 : Below w3.heap.size w3 w6 := (((HBr.out.alloc HBr.out.size _).grown HG5.out (by have := HBr.out.size; show w3.heap.size ≤ (wr.heap.push _).size; simp; omega) (fun g hg => (World.ownsRow.lt HOw.out g hg).1)).grown hg6 (by have := HBr.out.size; omega) (fun g hg => (World.ownsRow.lt HO5.out g hg).1))
          refine ⟨k + 1, hlt, by go_num, ?_, hB6⟩
          rw [HTk.out, HP.out]
          unfold OwnB
          have e1 : (P ++ [UInt8.ofNat x.length] ++ x).length = P.length + 1 + xb.size := by rw [hxs]; simp only [List.length_append, List.length_singleton]
          have e2 : (P ++ [UInt8.ofNat x.length] ++ x).map u8V = P.map u8V ++ [Value.int .u8 (x.length : Int)] ++ strCells xb := by
            rw [List.map_append, List.map_append]
            have q1 : [UInt8.ofNat x.length].map u8V = [Value.int .u8 (x.length : Int)] := by
              simp only [List.map_cons, List.map_nil, u8V]
              rw [UInt8.toNat_ofNat_of_lt' (by show x.length < 256; omega)]
            have q2 : strCells xb = x.map u8V := by unfold strCells; rw [HXd.out]; rfl
            rw [q1, q2]
          rw [e1, e2]
          exact hown6
        case measure => simp [intOf]; omega
      · obtain rfl : k = m := by omega
        have HPe : Hid ((splitL 46 kk).flatMap pieceB = P) := Lib.hid (by rw [HT.out, ← HP.out, List.take_of_length_le (by rw [HmT.out]; exact Nat.le_refl _)])
        clear hbr
        go_wp2_with (at_builtin; refine wpList_append_own _ rfl _ _ 29 rfl w3.heap.size 5 i (.int .u8 0) 1 1 Tryd.underlying29 hi hz0 hz1 hz2 rfl (by decide) _ P.length (P.map u8V) rfl (World.ownsRow.alloc HOw.out _) ⟨wr.heap.size, 0, none⟩ 1 1 [_] rfl rfl (cells_of wr _ _) (by simp [Value.oneCell']) (by unfold maxLen; omega) (by omega) (by have := HBr.out.size; show w3.heap.size ≤ (wr.heap.push _).size; simp; omega) ?_; intro v5 w5 hown5 hg5 _; have HO5 : Hid (OwnB w3.heap.size w5 v5 (P ++ [0])) := Lib.hid (by unfold OwnB; rw [List.length_append, List.map_append]; exact hown5); have HG5 := Lib.hid hg5; have hstr := own_str HO5.out (by simp); clear hown5 hg5)
        go_ret2
        refine ⟨by rw [HX1.out]; unfold encP; rw [HPe.out]; rfl, ?_⟩
        have hB5 : Below w3.heap.size w3 w5 := (HBr.out.alloc HBr.out.size _).grown HG5.out (by have := HBr.out.size; show w3.heap.size ≤ (wr.heap.push _).size; simp; omega) (fun g hg => (World.ownsRow.lt HOw.out g hg).1)
        exact HB3.out.trans (hB5.mono HB3.out.size)
  · have HX : Hid (encV s.data.toList = .tuple #[.string ⟨#[]⟩, .bool false]) := Lib.hid (if_neg (by rw [hnb]; decide))
    rw [hcv] at HC
    clear hcv hnb hs hm
    go_enter Tryd.func49, Tryd.ntmps49
    go_wp2_with (go_at_call 48; refine HC.out.mono ?_; rintro e w2 ⟨rfl, hb⟩)
    go_ret2
    exact ⟨by rw [HX.out]; rfl, hb⟩
end Go.Proofs.YtepfeekfglpjoaaDoor

namespace Go.Proofs.YtepfeekfglpjoaaDoor
open Go.RowKit Go.Lib Go.Wi Go.Tx
/-- What a TTL in four bytes leaves. -/
def LifeR (B : Nat) (w : World) (p : Nat) (v : Value) (l : List UInt8) (b : Bool) (n : Int) (e : Ending) (w' : World) : Prop :=
  e = .returned (.tuple #[]) ∧ ∃ v' a c x y, WR B w' p v' (l ++ [a, c, x, y]) b ∧ WStep p w w' v v' ∧ (a.toNat : Int) = n / 16777216 % 256 ∧ (c.toNat : Int) = n / 65536 % 256 ∧ (x.toNat : Int) = n / 256 % 256 ∧ (y.toNat : Int) = n % 256
set_option maxHeartbeats 1000000 in
set_option maxRecDepth 100000 in
theorem wlife_any {B p : Nat} {v : Value} {l : List UInt8} {bad : Bool} (n : Int) (w : World) (hw : WR B w p v l bad) (hB : B ≤ w.heap.size) (hl : l.length ≤ 1000000000) :
    Calls Tryd.prog 44 #[.pointer (some ⟨p, 0, none⟩), .int .i64 n] w (LifeR B w p v l (bad || !(decide (0 ≤ n) && decide (n ≤ 2147483647))) n) := by
  obtain ⟨i, hi, hz0, hz1, hz2⟩ := info_parts infoU8
  obtain ⟨va, vc, rfl⟩ := hw.shape
  have HW := Lib.hid hw
  have main : ∀ h b : Bool, (decide (0 ≤ n) && decide (n ≤ 2147483647)) = h → (bad || !h) = b → Calls Tryd.prog 44 #[.pointer (some ⟨p, 0, none⟩), .int .i64 n] w (LifeR B w p (.slice va l.length vc) l b n) := by
    intro h b hh hb
    have hc := wcheck_any h w hw
    rw [hb] at hc
    have HC := Lib.hid hc
    have HW1 := Lib.hid (hw.setbad b)
    have HS1 := Lib.hid ((WStep.refl p w (.slice va l.length vc)).set 1 (.bool b))
    have hB1 : B ≤ (w.setCell ⟨p, 1, none⟩ (.bool b)).heap.size := Nat.le_trans hB HS1.out.size
    clear hw hb hc
    have fin : ∀ (w1 w7 : World) (g7 cap7 : Nat) (y1 y2 z1 z2 : Int), y1 = n / 16777216 % 256 → y2 = n / 65536 % 256 → z1 = n / 256 % 256 → z2 = n % 256 → WR B w1 p (.slice va l.length vc) l b → WStep p w w1 (.slice va l.length vc) (.slice va l.length vc) →
        w7.ownsRow B 5 1 (.slice (some ⟨g7, 0, none⟩) (l.length + 4) cap7) (l.length + 4) (l.map u8V ++ [.int .u8 y1, .int .u8 y2, .int .u8 z1, .int .u8 z2]) → (w1.alloc (.cells #[.int .u8 y1, .int .u8 y2, .int .u8 z1, .int .u8 z2] 5)).grownBy w7 (Value.slice va l.length vc).ownBlock → ((Value.slice va l.length vc).ownBlock = some g7 ∨ g7 = w1.heap.size + 1) →
        LifeR B w p (.slice va l.length vc) l b n (.returned (.tuple #[])) (w7.setCell ⟨p, 0, none⟩ (.slice (some ⟨g7, 0, none⟩) (l.length + 4) cap7)) := by
      intro w1 w7 g7 cap7 y1 y2 z1 z2 d1 d2 e1 e2 hW hS hO hG hA
      obtain ⟨a, ha⟩ := u8_of y1 (by omega) (by omega)
      obtain ⟨c, hc⟩ := u8_of y2 (by omega) (by omega)
      obtain ⟨x, hx⟩ := u8_of z1 (by omega) (by omega)
      obtain ⟨y, hy⟩ := u8_of z2 (by omega) (by omega)
      have hal := (Below.refl w1.heap.size w1).alloc (Nat.le_refl _) (.cells #[.int .u8 y1, .int .u8 y2, .int .u8 z1, .int .u8 z2] 5)
      have h2 := (hW.below hal).put (v' := .slice (some ⟨g7, 0, none⟩) (l.length + 4) cap7) (m := [a, c, x, y]) (by rw [← hx, ← hy, ← ha, ← hc] at hO; exact hO) hG (fun g hg => by
        have e : g7 = g := by simpa [Value.ownBlock] using hg
        subst e
        rcases hA with h | h
        · exact .inl h
        · right
          have : (w1.alloc (.cells #[.int .u8 y1, .int .u8 y2, .int .u8 z1, .int .u8 z2] 5)).heap.size = w1.heap.size + 1 := by show (w1.heap.push _).size = _; simp
          omega)
      exact ⟨rfl, _, a, c, x, y, h2.1, (hS.below hal).trans h2.2, by rw [ha, d1], by rw [hc, d2], by rw [hx, e1], by rw [hy, e2]⟩
    have HFin := Lib.hid fin
    clear fin
    cases h with
    | true =>
      simp only [Bool.and_eq_true, decide_eq_true_eq] at hh
      obtain ⟨c1, c2⟩ := hh
      go_enter Tryd.func44, Tryd.ntmps44
      go_upto_region 1 with (go_at_call 31; refine HC.out.mono ?_; rintro e w' ⟨rfl, rfl⟩)
      generalize (w.setCell ⟨p, 1, none⟩ (.bool b)) = w1 at *
      have d0 := HW1.out.c0
      have HBA : Hid (∀ o, WR B (w1.alloc o) p (.slice va l.length vc) l b) := Lib.hid (fun o => HW1.out.below ((Below.refl _ _).alloc (Nat.le_refl _) o))
      go_wp2_with (at_builtin; go_loud (refine wpList_append_lies _ rfl _ _ _ rfl B 5 i (.int .u8 0) 1 1 Tryd.underlying29 hi hz0 hz1 hz2 rfl (by decide) (.slice va l.length vc) l.length (l.map u8V) rfl (World.ownsRow.alloc HW1.out.own _) ⟨w1.heap.size, 0, none⟩ 4 4 [_, _, _, _] rfl rfl (cells_of w1 _ _) (by simp [Value.oneCell']) (by decide) (by unfold maxLen; omega) (by omega) (by show B ≤ (w1.heap.push _).size; simp; omega) (w1.heap.size + 1) (by show (w1.heap.push _).size = _; simp) ?_; intro g7 cap7 w7 hown7 hg7 hat7 hlt7; have HO7 := Lib.hid hown7; have HG7 := Lib.hid hg7; have HA7 := Lib.hid hat7; have hk0 : w7.cell? ⟨p, 0, none⟩ = some (.slice va l.length vc) := (by rw [hg7.cell_far ⟨p, 0, none⟩ (HBA.out _).lt (fun e => HW1.out.apart e.symm)]; exact (HBA.out _).c0); have hf0 : w7.frozen? ⟨p, 0, none⟩ = false := (by rw [hg7.frozen_far ⟨p, 0, none⟩ (HBA.out _).lt (fun e => HW1.out.apart e.symm)]; exact (HBA.out _).free 0); clear hown7 hg7 hat7))
      go_end0
      exact HFin.out w1 _ _ _ (n / 16777216) _ _ _ (by omega) rfl rfl rfl HW1.out HS1.out HO7.out HG7.out HA7.out
    | false =>
      have hf : ¬ (0 ≤ n ∧ n ≤ 2147483647) := fun e => by
        rw [decide_eq_true e.1, decide_eq_true e.2] at hh; cases hh
      by_cases c1 : 0 ≤ n
      · have c2 : ¬ n ≤ 2147483647 := fun e => hf ⟨c1, e⟩
        clear hf hh
        go_enter Tryd.func44, Tryd.ntmps44
        go_upto_region 1 with (go_at_call 31; refine HC.out.mono ?_; rintro e w' ⟨rfl, rfl⟩)
        generalize (w.setCell ⟨p, 1, none⟩ (.bool b)) = w1 at *
        have d0 := HW1.out.c0
        have HBA : Hid (∀ o, WR B (w1.alloc o) p (.slice va l.length vc) l b) := Lib.hid (fun o => HW1.out.below ((Below.refl _ _).alloc (Nat.le_refl _) o))
        go_wp2_with (at_builtin; go_loud (refine wpList_append_lies _ rfl _ _ _ rfl B 5 i (.int .u8 0) 1 1 Tryd.underlying29 hi hz0 hz1 hz2 rfl (by decide) (.slice va l.length vc) l.length (l.map u8V) rfl (World.ownsRow.alloc HW1.out.own _) ⟨w1.heap.size, 0, none⟩ 4 4 [_, _, _, _] rfl rfl (cells_of w1 _ _) (by simp [Value.oneCell']) (by decide) (by unfold maxLen; omega) (by omega) (by show B ≤ (w1.heap.push _).size; simp; omega) (w1.heap.size + 1) (by show (w1.heap.push _).size = _; simp) ?_; intro g7 cap7 w7 hown7 hg7 hat7 hlt7; have HO7 := Lib.hid hown7; have HG7 := Lib.hid hg7; have HA7 := Lib.hid hat7; have hk0 : w7.cell? ⟨p, 0, none⟩ = some (.slice va l.length vc) := (by rw [hg7.cell_far ⟨p, 0, none⟩ (HBA.out _).lt (fun e => HW1.out.apart e.symm)]; exact (HBA.out _).c0); have hf0 : w7.frozen? ⟨p, 0, none⟩ = false := (by rw [hg7.frozen_far ⟨p, 0, none⟩ (HBA.out _).lt (fun e => HW1.out.apart e.symm)]; exact (HBA.out _).free 0); clear hown7 hg7 hat7))
        go_end0
        exact HFin.out w1 _ _ _ _ _ _ _ rfl rfl rfl rfl HW1.out HS1.out HO7.out HG7.out HA7.out
      · clear hf hh
        go_enter Tryd.func44, Tryd.ntmps44
        go_upto_region 1 with (go_at_call 31; refine HC.out.mono ?_; rintro e w' ⟨rfl, rfl⟩)
        generalize (w.setCell ⟨p, 1, none⟩ (.bool b)) = w1 at *
        have d0 := HW1.out.c0
        have HBA : Hid (∀ o, WR B (w1.alloc o) p (.slice va l.length vc) l b) := Lib.hid (fun o => HW1.out.below ((Below.refl _ _).alloc (Nat.le_refl _) o))
        go_wp2_with (at_builtin; go_loud (refine wpList_append_lies _ rfl _ _ _ rfl B 5 i (.int .u8 0) 1 1 Tryd.underlying29 hi hz0 hz1 hz2 rfl (by decide) (.slice va l.length vc) l.length (l.map u8V) rfl (World.ownsRow.alloc HW1.out.own _) ⟨w1.heap.size, 0, none⟩ 4 4 [_, _, _, _] rfl rfl (cells_of w1 _ _) (by simp [Value.oneCell']) (by decide) (by unfold maxLen; omega) (by omega) (by show B ≤ (w1.heap.push _).size; simp; omega) (w1.heap.size + 1) (by show (w1.heap.push _).size = _; simp) ?_; intro g7 cap7 w7 hown7 hg7 hat7 hlt7; have HO7 := Lib.hid hown7; have HG7 := Lib.hid hg7; have HA7 := Lib.hid hat7; have hk0 : w7.cell? ⟨p, 0, none⟩ = some (.slice va l.length vc) := (by rw [hg7.cell_far ⟨p, 0, none⟩ (HBA.out _).lt (fun e => HW1.out.apart e.symm)]; exact (HBA.out _).c0); have hf0 : w7.frozen? ⟨p, 0, none⟩ = false := (by rw [hg7.frozen_far ⟨p, 0, none⟩ (HBA.out _).lt (fun e => HW1.out.apart e.symm)]; exact (HBA.out _).free 0); clear hown7 hg7 hat7))
        go_end0
        exact HFin.out w1 _ _ _ _ _ _ _ rfl rfl rfl rfl HW1.out HS1.out HO7.out HG7.out HA7.out
  exact main _ _ rfl rfl
end Go.Proofs.YtepfeekfglpjoaaDoor

namespace Go.Wi
open Go.Tx
def cleS (l : List UInt8) : List UInt8 := if nameB (bare l) = true then (bare l).map low else []
def encS (l : List UInt8) : List UInt8 := if nameB (bare l) = true then encP ((bare l).map low) else []
/-- This name is a clean one. -/
def okS (l : List UInt8) : Bool := nameB (bare l) && decide (cleS l = l)
/-- A name as a message has it; nothing, if it is none. -/
def codS (l : List UInt8) : List UInt8 := encS (cleS l)
theorem encV_S (l : List UInt8) : encV l = .tuple #[.string ⟨(encS l).toArray⟩, .bool (nameB (bare l))] := by
  unfold encV encS
  cases h : nameB (bare l) <;> simp
theorem encP_len (n : List UInt8) (h : n.length ≤ 253) : (encP n).length ≤ 65000 := by
  have h1 := flat_len (splitL 46 n) 253 (fun x hx => by
    have := splitG_mem 46 n [] x hx
    have h2 : x.length ≤ n.length := by simpa using this
    omega)
  have h2 := (splitG_len 46 n []).2
  have h3 : (splitL 46 n).length ≤ 254 := by unfold splitL; omega
  have h4 : (splitL 46 n).length * 254 ≤ 254 * 254 := Nat.mul_le_mul_right _ h3
  unfold encP
  rw [List.length_append, List.length_singleton]
  omega
theorem encS_len (n : List UInt8) : (encS n).length ≤ 65000 := by
  unfold encS
  split
  · rename_i h
    unfold nameB at h
    simp only [Bool.and_eq_true, decide_eq_true_eq] at h
    exact encP_len _ (by rw [List.length_map]; exact h.1)
  · simp
end Go.Wi
namespace Go.Proofs.YtepfeekfglpjoaaDoor
open Go.RowKit Go.Lib Go.Wi Go.Tx
theorem max_step {B p : Nat} {w w' : World} {v v' : Value} {l : List UInt8} {b : Bool} (hm : MaxAt w) (hw : WR B w p v l b) (h : WStep p w w' v v') (hp : 0 < p) (hB : 0 < B) : MaxAt w' := by
  have h0 := hm.lt
  obtain ⟨m, hm⟩ := hm
  refine ⟨m, ?_⟩
  have e := h.same 0 h0 (by omega) (fun e => by have := (World.ownsRow.lt hw.own 0 e).1; omega)
  unfold World.cell? at hm ⊢
  rw [e]
  exact hm
/-- What coded gives, and what it leaves of the writer. -/
def CodedR (B : Nat) (w : World) (p : Nat) (v : Value) (l : List UInt8) (b : Bool) (n : List UInt8) (e : Ending) (w' : World) : Prop :=
  e = .returned (.string ⟨(codS n).toArray⟩) ∧ WR B w' p v l (b || !okS n) ∧ WStep p w w' v v
set_option maxHeartbeats 2000000 in
set_option maxRecDepth 100000 in
theorem wcoded_any {B p : Nat} {v : Value} {l : List UInt8} {bad : Bool} (s : ByteArray) (w : World) (hs : s.size ≤ maxLen) (hm : MaxAt w) (hw : WR B w p v l bad) (hp : 0 < p) (hB : 0 < B) :
    Calls Tryd.prog 43 #[.pointer (some ⟨p, 0, none⟩), .string s] w (CodedR B w p v l bad s.data.toList) := by
  have main : ∀ (D : ByteArray) (r ok h b : Bool), cleanV s.data.toList = .tuple #[.string D, .bool r, .bool ok] → D.data.toList = cleS s.data.toList → (ok = true → (D = s ↔ h = true)) → (ok = false → h = false) → (okS s.data.toList = h) → (bad || !h) = b → D.size ≤ maxLen →
      Calls Tryd.prog 43 #[.pointer (some ⟨p, 0, none⟩), .string s] w (CodedR B w p v l bad s.data.toList) := by
    intro D r ok h b hcv hD ht hf hk hb hDs
    have HX : Hid (encV D.data.toList = .tuple #[.string ⟨(codS s.data.toList).toArray⟩, .bool (nameB (bare D.data.toList))]) := Lib.hid (by rw [encV_S, hD]; rfl)
    have HK : Hid ((bad || !okS s.data.toList) = b) := Lib.hid (by rw [hk, hb])
    have hc := clean_any s w hs hm
    rw [hcv] at hc
    have HC := Lib.hid hc
    have HCh : Hid (∀ W, WR B W p v l bad → Calls Tryd.prog 31 #[.pointer (some ⟨p, 0, none⟩), .bool h] W (CheckR W p b)) := Lib.hid (fun W hW => hb ▸ wcheck_any h W hW)
    have HE : Hid (∀ W, MaxAt W → Calls Tryd.prog 49 #[.string D] W fun e w' => e = .returned (encV D.data.toList) ∧ Below W.heap.size W w') := Lib.hid (fun W hW => encode_any D W hDs hW)
    rw [HX.out] at HE
    have HW := Lib.hid hw
    have HM := Lib.hid hm
    have HFin : Hid (∀ w1 w3, Below w.heap.size w w1 → Below (w1.setCell ⟨p, 1, none⟩ (.bool b)).heap.size (w1.setCell ⟨p, 1, none⟩ (.bool b)) w3 → WR B w3 p v l b ∧ WStep p w w3 v v) := Lib.hid (fun w1 w3 h1 h3 => ⟨((hw.below h1).setbad b).below h3, (((WStep.refl p w v).below h1).set 1 (.bool b)).below h3⟩)
    have HMx : Hid (∀ w1, Below w.heap.size w w1 → MaxAt (w1.setCell ⟨p, 1, none⟩ (.bool b))) := Lib.hid (fun w1 h1 => max_step hm hw (((WStep.refl p w v).below h1).set 1 (.bool b)) hp hB)
    clear hcv hD hk hb hw hm hc hs hDs
    cases ok with
    | true =>
      have ht := ht rfl
      cases h with
      | true =>
        have heq : D = s := ht.2 rfl
        subst heq
        clear ht hf
        go_enter Tryd.func43, Tryd.ntmps43
        go_wp2_with (first | (go_at_call 48; refine HC.out.mono ?_; rintro e w1 ⟨rfl, hb1⟩; have HB1 := Lib.hid hb1; clear hb1) | (go_at_call 31; refine (HCh.out _ (HW.out.below HB1.out)).mono ?_; rintro e w2 ⟨rfl, rfl⟩) | (go_at_call 49; refine (HE.out _ (HMx.out _ HB1.out)).mono ?_; rintro e w3 ⟨rfl, hb3⟩; have HB3 := Lib.hid hb3; clear hb3))
        go_ret
        exact ⟨rfl, by rw [HK.out]; exact (HFin.out _ _ HB1.out HB3.out).1, (HFin.out _ _ HB1.out HB3.out).2⟩
      | false =>
        have hne : ¬ D = s := fun e => by have := ht.1 e; cases this
        have hne2 : (D.toList == s.toList) = false := beq_eq_false_iff_ne.2 (by rw [Go.Lib.toList_data, Go.Lib.toList_data]; exact fun e => hne (ByteArray.ext (Array.ext' e)))
        clear ht hf
        go_enter Tryd.func43, Tryd.ntmps43
        go_wp2_with (first | (go_at_call 48; refine HC.out.mono ?_; rintro e w1 ⟨rfl, hb1⟩; have HB1 := Lib.hid hb1; clear hb1) | (go_at_call 31; refine (HCh.out _ (HW.out.below HB1.out)).mono ?_; rintro e w2 ⟨rfl, rfl⟩) | (go_at_call 49; refine (HE.out _ (HMx.out _ HB1.out)).mono ?_; rintro e w3 ⟨rfl, hb3⟩; have HB3 := Lib.hid hb3; clear hb3))
        go_ret
        exact ⟨rfl, by rw [HK.out]; exact (HFin.out _ _ HB1.out HB3.out).1, (HFin.out _ _ HB1.out HB3.out).2⟩
    | false =>
      have hh := hf rfl
      subst hh
      clear ht hf
      go_enter Tryd.func43, Tryd.ntmps43
      go_wp2_with (first | (go_at_call 48; refine HC.out.mono ?_; rintro e w1 ⟨rfl, hb1⟩; have HB1 := Lib.hid hb1; clear hb1) | (go_at_call 31; refine (HCh.out _ (HW.out.below HB1.out)).mono ?_; rintro e w2 ⟨rfl, rfl⟩) | (go_at_call 49; refine (HE.out _ (HMx.out _ HB1.out)).mono ?_; rintro e w3 ⟨rfl, hb3⟩; have HB3 := Lib.hid hb3; clear hb3))
      go_ret
      exact ⟨rfl, by rw [HK.out]; exact (HFin.out _ _ HB1.out HB3.out).1, (HFin.out _ _ HB1.out HB3.out).2⟩
  rcases cleanV_cases s.data.toList with ⟨hnb, hcv⟩ | ⟨hnb, hcv⟩
  · have hcl : cleS s.data.toList = (bare s.data.toList).map low := if_pos hnb
    refine main _ _ _ (decide (cleS s.data.toList = s.data.toList)) _ hcv hcl.symm (fun _ => ?_) (fun e => by cases e) (by unfold okS; rw [hnb, Bool.true_and]) rfl ?_
    · rw [decide_eq_true_eq, hcl]
      constructor
      · exact fun e => congrArg (fun q : ByteArray => q.data.toList) e
      · exact fun e => ByteArray.ext (Array.ext' e)
    · have : ((bare s.data.toList).map low).length ≤ 253 := by
        rw [List.length_map]
        unfold nameB at hnb
        simp only [Bool.and_eq_true, decide_eq_true_eq] at hnb
        exact hnb.1
      show ((bare s.data.toList).map low).toArray.size ≤ maxLen
      simp only [List.size_toArray]
      unfold maxLen
      omega
  · have hcl : cleS s.data.toList = [] := if_neg (by rw [hnb]; decide)
    exact main _ _ _ false _ hcv hcl.symm (fun e => by cases e) (fun _ => rfl) (by unfold okS; rw [hnb, Bool.false_and]) rfl (by decide)
end Go.Proofs.YtepfeekfglpjoaaDoor

namespace Go.Wi
open Go.RowKit Go.Lib
theorem own_shape {w : World} {base : Nat} {e : TypeId} {size : Nat} {v : Value} {n : Nat} {xs : List Value} (h : w.ownsRow base e size v n xs) : ∃ a c, v = .slice a n c := by
  rcases h.2 with ⟨a, b⟩ | ⟨g, cap, cur, a, _⟩
  · exact ⟨none, 0, by rw [a, b]⟩
  · exact ⟨_, _, a⟩
section
variable {P : Program} (w : World)
theorem run_append_str_lies (base : Nat) (t u ty e : TypeId) (i : TypeInfo) (ht : P.underlying t = some (.slice e)) (hu : P.underlying u = some .string) (hi : P.info? e = some i) (hz : i.zero = some (.int .u8 0))
    (hsize : i.size = 1) (hby : i.bytes = 1)
    (v : Value) (n : Nat) (xs : List Value) (hown : w.ownsRow base e 1 v n xs) (s : ByteArray)
    (h63 : n + s.size ≤ maxLen) (hbytes : n + s.size ≤ 140737488355328) (hbase : base ≤ w.heap.size) :
    ∃ v' w', (Builtin.append_ #[t, u] ty #[v, .string s]).run P w = .ok v' w' ∧ w'.ownsRow base e 1 v' (n + s.size) (xs ++ strCells s) ∧ w.grownBy w' v.ownBlock ∧
      (∀ g, v'.ownBlock = some g → v.ownBlock = some g ∨ w.heap.size ≤ g) := by
  obtain ⟨v', w', hr, h2, h3, _⟩ := run_append_own_string w base t u ty e i ht hu hi hz hsize hby v n xs hown s h63 hbytes hbase
  refine ⟨v', w', hr, h2, h3, ?_⟩
  have hxl : xs.length = n := by simpa using hown.1
  rcases hown.2 with ⟨rfl, rfl⟩ | ⟨g, cap, cur, rfl, hbg, hg, hnc, hcm, hcs, htake⟩
  · obtain ⟨v2, w2, hr2, k2, _⟩ := run_append_own_string w w.heap.size t u ty e i ht hu hi hz hsize hby (.slice none 0 0) 0 xs ⟨hown.1, .inl ⟨rfl, rfl⟩⟩ s h63 hbytes (Nat.le_refl _)
    rw [hr] at hr2
    cases hr2
    exact fun g hg => .inr (World.ownsRow.lt k2 g hg).1
  · by_cases hroom : n + s.size ≤ cap
    · have hcs' : cur.size = cap := by simpa using hcs
      have hr2 := run_append_room_string (P := P) w t u ty e i ht hu hi hsize g n cap cur hg s hroom (by omega)
      rw [hr] at hr2
      cases hr2
      exact fun g' hg' => .inl (by simpa [Value.ownBlock] using hg')
    · have holds : ∀ j u, xs[j]? = some u → w.cell? ((⟨g, 0, none⟩ : Addr).add j) = some u := hown.cells (g := g) rfl
      have hsmall : n + s.size ≤ 9223372036854775807 := by simp only [maxLen] at h63; omega
      have hr2 := run_append_grow_string (P := P) w t u ty e i (.int .u8 0) ht hu hi hz ⟨g, 0, none⟩ n cap xs (by rw [hsize]; simpa using hxl) holds s (by omega) (by omega) (by rw [hby]; exact growslice_fits (by omega) (by omega))
      rw [hr] at hr2
      cases hr2
      exact fun g' hg' => .inr (by
        have : w.heap.size = g' := by simpa [Value.ownBlock] using hg'
        omega)
theorem wpList_append_str_lies {ops : Array Oper} {rest : List Oper} {o : Oper} {a : Act} {Q : Exit → Act → World → Prop} (hgd : o.guard = none) (sl x : Operand) (t u : TypeId)
    (ho : o.op = .call { callee := .builtin .append, args := #[sl, x], argTypes := #[t, u] })
    (base : Nat) (e : TypeId) (i : TypeInfo) (ht : P.underlying t = some (.slice e)) (hu : P.underlying u = some .string) (hi : P.info? e = some i) (hz : i.zero = some (.int .u8 0))
    (hsize : i.size = 1) (hby : i.bytes = 1)
    (v : Value) (n : Nat) (xs : List Value) (hs : a.eval sl = v) (hown : w.ownsRow base e 1 v n xs) (s : ByteArray) (hx : a.eval x = .string s)
    (h63 : n + s.size ≤ maxLen) (hbytes : n + s.size ≤ 140737488355328) (hbase : base ≤ w.heap.size)
    (h : ∀ v' w', w'.ownsRow base e 1 v' (n + s.size) (xs ++ strCells s) → w.grownBy w' v.ownBlock → (∀ g, v'.ownBlock = some g → v.ownBlock = some g ∨ w.heap.size ≤ g) → wpList P ops Q rest (a.put o.dst v') w') : wpList P ops Q (o :: rest) a w := by
  refine wpList_plain hgd fun K hK => ?_
  obtain ⟨v', w', hr, h2, h3, h4⟩ := run_append_str_lies (P := P) w base t u o.type e i ht hu hi hz hsize hby v n xs hown s h63 hbytes hbase
  unfold Oper.wp execOp
  simp only [ho, resolve, invoke, builtin, Sem.run_bind, Sem.run_pure, Result.andThen_ok, List.map_toArray, List.map_cons, List.map_nil, hs, hx, hr]
  exact hK _ _ (h v' w' h2 h3 h4)
theorem wp_append_str_lies {o : Oper} {a : Act} {K : Act → World → Prop} {Q : Exit → Act → World → Prop} (sl x : Operand) (t u : TypeId)
    (ho : o.op = .call { callee := .builtin .append, args := #[sl, x], argTypes := #[t, u] })
    (base : Nat) (e : TypeId) (i : TypeInfo) (ht : P.underlying t = some (.slice e)) (hu : P.underlying u = some .string) (hi : P.info? e = some i) (hz : i.zero = some (.int .u8 0))
    (hsize : i.size = 1) (hby : i.bytes = 1)
    (v : Value) (n : Nat) (xs : List Value) (hs : a.eval sl = v) (hown : w.ownsRow base e 1 v n xs) (s : ByteArray) (hx : a.eval x = .string s)
    (h63 : n + s.size ≤ maxLen) (hbytes : n + s.size ≤ 140737488355328) (hbase : base ≤ w.heap.size)
    (h : ∀ v' w', w'.ownsRow base e 1 v' (n + s.size) (xs ++ strCells s) → w.grownBy w' v.ownBlock → (∀ g, v'.ownBlock = some g → v.ownBlock = some g ∨ w.heap.size ≤ g) → K (a.put o.dst v') w') : o.wp P a w K Q := by
  obtain ⟨v', w', hr, h2, h3, h4⟩ := run_append_str_lies (P := P) w base t u o.type e i ht hu hi hz hsize hby v n xs hown s h63 hbytes hbase
  unfold Oper.wp execOp
  simp only [ho, resolve, invoke, builtin, Sem.run_bind, Sem.run_pure, Result.andThen_ok, List.map_toArray, List.map_cons, List.map_nil, hs, hx, hr]
  exact h v' w' h2 h3 h4
theorem step_append_str_lies {ops : Array Oper} {o : Oper} {a : Act} {K : Act → World → Prop} {Q : Exit → Act → World → Prop} {E : Prop} (hgd : o.guard = none) (sl x : Operand) (t u : TypeId)
    (ho : o.op = .call { callee := .builtin .append, args := #[sl, x], argTypes := #[t, u] })
    (base : Nat) (e : TypeId) (i : TypeInfo) (ht : P.underlying t = some (.slice e)) (hu : P.underlying u = some .string) (hi : P.info? e = some i) (hz : i.zero = some (.int .u8 0))
    (hsize : i.size = 1) (hby : i.bytes = 1)
    (v : Value) (n : Nat) (xs : List Value) (hs : a.eval sl = v) (hown : w.ownsRow base e 1 v n xs) (s : ByteArray) (hx : a.eval x = .string s)
    (h63 : n + s.size ≤ maxLen) (hbytes : n + s.size ≤ 140737488355328) (hbase : base ≤ w.heap.size)
    (h : ∀ v' w', w'.ownsRow base e 1 v' (n + s.size) (xs ++ strCells s) → w.grownBy w' v.ownBlock → (∀ g, v'.ownBlock = some g → v.ownBlock = some g ∨ w.heap.size ≤ g) → K (a.put o.dst v') w') :
    if Region.wanted o (yielded ops a.tmps) = true then Oper.wp P o a w K Q else E := by
  have hw : Region.wanted o (yielded ops a.tmps) = true := by simp [Region.wanted, hgd]
  rw [if_pos hw]
  exact wp_append_str_lies w sl x t u ho base e i ht hu hi hz hsize hby v n xs hs hown s hx h63 hbytes hbase h
end
end Go.Wi

namespace Go.Wi
open Go.Tx
/-- A number in two bytes. -/
def wordB (n : Int) : List UInt8 := [UInt8.ofNat (n / 256 % 256).toNat, UInt8.ofNat (n % 256).toNat]
/-- A TTL in four. -/
def lifeB (n : Int) : List UInt8 := [UInt8.ofNat (n / 16777216 % 256).toNat, UInt8.ofNat (n / 65536 % 256).toNat, UInt8.ofNat (n / 256 % 256).toNat, UInt8.ofNat (n % 256).toNat]
theorem u8_is {x : UInt8} {z : Int} (h : (x.toNat : Int) = z) : x = UInt8.ofNat z.toNat := by
  rw [← h]
  simp
/-- A number that a message may have there. -/
def wordOK (n least : Int) : Bool := decide (least ≤ n) && decide (n ≤ 65535)
def subB (n : List UInt8) (k : Int) : List UInt8 := codS n ++ wordB k ++ wordB 1
def subOK (n : List UInt8) (k : Int) : Bool := okS n && wordOK k 1
theorem subB_len (n : List UInt8) (k : Int) : (subB n k).length ≤ 66000 := by
  have := encS_len (cleS n)
  unfold subB codS wordB
  simp only [List.length_append, List.length_cons, List.length_nil]
  omega
end Go.Wi
namespace Go.Proofs.YtepfeekfglpjoaaDoor
open Go.RowKit Go.Lib Go.Wi Go.Tx
/-- What a call leaves that writes m behind the bytes, and finds it right or not. -/
def Wrote (B : Nat) (w : World) (p : Nat) (v : Value) (l : List UInt8) (b : Bool) (m : List UInt8) (e : Ending) (w' : World) : Prop :=
  e = .returned (.tuple #[]) ∧ ∃ v', WR B w' p v' (l ++ m) b ∧ WStep p w w' v v'
theorem wword_wrote {B p : Nat} {v : Value} {l : List UInt8} {bad : Bool} (n least : Int) (w : World) (hw : WR B w p v l bad) (hB : B ≤ w.heap.size) (hl : l.length ≤ 1000000000) :
    Calls Tryd.prog 30 #[.pointer (some ⟨p, 0, none⟩), .int .i64 n, .int .i64 least] w (Wrote B w p v l (bad || !wordOK n least) (wordB n)) :=
  (wword_any n least w hw hB hl).mono (by
    rintro e w' ⟨he, v', x, y, h1, h2, h3, h4⟩
    refine ⟨he, v', ?_, h2⟩
    rw [u8_is h3, u8_is h4] at h1
    exact h1)
theorem wlife_wrote {B p : Nat} {v : Value} {l : List UInt8} {bad : Bool} (n : Int) (w : World) (hw : WR B w p v l bad) (hB : B ≤ w.heap.size) (hl : l.length ≤ 1000000000) :
    Calls Tryd.prog 44 #[.pointer (some ⟨p, 0, none⟩), .int .i64 n] w (Wrote B w p v l (bad || !(decide (0 ≤ n) && decide (n ≤ 2147483647))) (lifeB n)) :=
  (wlife_any n w hw hB hl).mono (by
    rintro e w' ⟨he, v', a, c, x, y, h1, h2, h3, h4, h5, h6⟩
    refine ⟨he, v', ?_, h2⟩
    rw [u8_is h3, u8_is h4, u8_is h5, u8_is h6] at h1
    exact h1)
set_option maxHeartbeats 2000000 in
set_option maxRecDepth 100000 in
theorem wsubject_any {B p : Nat} {v : Value} {l : List UInt8} {bad : Bool} (s : ByteArray) (k : Int) (w : World) (hs : s.size ≤ maxLen) (hm : MaxAt w) (hw : WR B w p v l bad) (hp : 0 < p) (hB0 : 0 < B) (hB : B ≤ w.heap.size) (hl : l.length ≤ 900000000) :
    Calls Tryd.prog 33 #[.pointer (some ⟨p, 0, none⟩), .string s, .int .i64 k] w (Wrote B w p v l (bad || !subOK s.data.toList k) (subB s.data.toList k)) := by
  obtain ⟨i, hi, hz0, hz1, hz2⟩ := info_parts infoU8
  obtain ⟨va, vc, rfl⟩ := hw.shape
  have hcl : (codS s.data.toList).length ≤ 65000 := encS_len _
  obtain ⟨C, hC⟩ : ∃ C, codS s.data.toList = C := ⟨_, rfl⟩
  have HX : Hid (∀ bb, ((bb || !wordOK k 1) || !wordOK 1 0) = (bb || !wordOK k 1)) := Lib.hid (fun bb => by
    have : wordOK 1 0 = true := by decide
    rw [this]; simp)
  have HY : Hid (((bad || !okS s.data.toList) || !wordOK k 1) = (bad || !subOK s.data.toList k)) := Lib.hid (by
    unfold subOK
    cases bad <;> cases okS s.data.toList <;> cases wordOK k 1 <;> rfl)
  have HZ : Hid (((l ++ C) ++ wordB k) ++ wordB 1 = l ++ subB s.data.toList k) := Lib.hid (by unfold subB; rw [hC]; simp [List.append_assoc])
  have HCo : Hid (∀ W, MaxAt W → WR B W p (.slice va l.length vc) l bad → Calls Tryd.prog 43 #[.pointer (some ⟨p, 0, none⟩), .string s] W (CodedR B W p (.slice va l.length vc) l bad s.data.toList)) := Lib.hid (fun W h1 h2 => wcoded_any s W hs h1 h2 hp hB0)
  unfold CodedR at HCo
  rw [hC] at hcl HCo
  have HCl := Lib.hid hcl
  obtain ⟨cb, hcb⟩ : ∃ q : ByteArray, (⟨C.toArray⟩ : ByteArray) = q := ⟨_, rfl⟩
  rw [hcb] at HCo
  have hcs : cb.size = C.length := by rw [← hcb]; show C.toArray.size = _; simp
  have HCc : Hid (strCells cb = C.map u8V) := Lib.hid (by unfold strCells; rw [← hcb]; rfl)
  obtain ⟨b1, hb1⟩ : ∃ b1, (bad || !okS s.data.toList) = b1 := ⟨_, rfl⟩
  rw [hb1] at HCo HY
  have HW := Lib.hid hw
  have HM := Lib.hid hm
  have c0 := hw.c0
  have HWd : Hid (∀ W, Below w.heap.size w W → WR B W p (.slice va l.length vc) l bad) := Lib.hid (fun W h => hw.below h)
  have HMd : Hid (∀ W, Below w.heap.size w W → MaxAt W) := Lib.hid (fun W h => hm.below h)
  clear hC hcb hb1 hw hm hs
  go_enter Tryd.func33, Tryd.ntmps33
  go_upto_region 0 with (fail)
  go_cut [] from 6 to 17 (fun wx => ∃ v', WR B wx p v' (l ++ C) b1 ∧ WStep p w wx (.slice va l.length vc) v')
  case first =>
    have c0d : w.drew.cell? ⟨p, 0, none⟩ = some (.slice va l.length vc) := c0
    go_region_law (first | (refine step_append_str_lies _ (by rfl) _ _ _ _ (by rfl) B 5 i Tryd.underlying29 Tryd.underlying9 hi hz0 hz1 hz2 (.slice va l.length vc) l.length (l.map u8V) (by rfl) HW1.out.own cb (by rfl) (by rw [hcs]; unfold maxLen; omega) (by omega) (by have := HS1.out.size; have e2 : w.drew.heap.size = w.heap.size := rfl; omega) ?_; intro v6 w6 hown6 hg6 hat6; obtain ⟨va6, vc6, rfl⟩ := own_shape hown6; have HO6 := Lib.hid hown6; have HG6 := Lib.hid hg6; have HA6 := Lib.hid hat6; have hk0 : w6.cell? ⟨p, 0, none⟩ = some (.slice va l.length vc) := (by rw [hg6.cell_far ⟨p, 0, none⟩ HW1.out.lt (fun e => HW1.out.apart e.symm)]; exact HW1.out.c0); have hf0 : w6.frozen? ⟨p, 0, none⟩ = false := (by rw [hg6.frozen_far ⟨p, 0, none⟩ HW1.out.lt (fun e => HW1.out.apart e.symm)]; exact HW1.out.free 0); clear hown6 hg6 hat6) | (go_simp; go_at_call 43; refine (HCo.out _ (HMd.out _ (Below.refl _ _).drew) (HWd.out _ (Below.refl _ _).drew)).mono ?_; rintro e w1 ⟨rfl, hw1, hs1⟩; have HW1 := Lib.hid hw1; have HS1 := Lib.hid hs1; have hk0 := hw1.c0; clear hw1 hs1))
    all_goals
      go_wp2
      go_meet
      have ho := HO6.out
      have ha := HA6.out
      rw [hcs] at ha
      rw [hcs, HCc.out] at ho
      have h2 := HW1.out.put (m := C) ho HG6.out ha
      exact ⟨_, h2.1, (((WStep.refl p w _).below (Below.refl _ _).drew).trans HS1.out).trans h2.2⟩
  case rest =>
    obtain ⟨v1, hw1, hs1⟩ := hcut
    have HW1 := Lib.hid hw1
    have HS1 := Lib.hid hs1
    have hl1 : (l ++ C).length ≤ 950000000 := by rw [List.length_append]; omega
    clear hw1 hs1 c0
    have hC1 := wword_wrote k 1 _ HW1.out (Nat.le_trans hB HS1.out.size) (by omega)
    have HC1 := Lib.hid hC1
    clear hC1
    go_upto_region 2 with (go_at_call 30; refine HC1.out.mono ?_; rintro e w2 ⟨rfl, v2, hw2, hs2⟩; have HW2 := Lib.hid hw2; have HS2 := Lib.hid (HS1.out.trans hs2); clear hw2 hs2)
    have hC2 := wword_wrote 1 0 w2 HW2.out (Nat.le_trans hB HS2.out.size) (by rw [List.length_append]; show _ + 2 ≤ _; omega)
    have HC2 := Lib.hid hC2
    clear hC2
    go_wp2_with (go_at_call 30; refine HC2.out.mono ?_; rintro e w3 ⟨rfl, v3, hw3, hs3⟩; have HW3 := Lib.hid hw3; have HS3 := Lib.hid (HS2.out.trans hs3); clear hw3 hs3)
    go_end0
    have hw := HW3.out
    rw [HX.out, HY.out, HZ.out] at hw
    exact ⟨rfl, _, hw, HS3.out⟩
end Go.Proofs.YtepfeekfglpjoaaDoor

namespace Go.Proofs.YtepfeekfglpjoaaDoor
open Go.RowKit Go.Lib Go.Wi Go.Tx
def datS (k : Int) (d : List UInt8) : List UInt8 := if k = 12 then codS d else if fitsB k d = true then d else []
def datOK (k : Int) (d : List UInt8) : Bool := if k = 12 then okS d else fitsB k d
/-- What data gives, and what it leaves of the writer. -/
def DatR (B : Nat) (w : World) (p : Nat) (v : Value) (l : List UInt8) (b : Bool) (k : Int) (d : List UInt8) (e : Ending) (w' : World) : Prop :=
  e = .returned (.string ⟨(datS k d).toArray⟩) ∧ WR B w' p v l (b || !datOK k d) ∧ WStep p w w' v v
def recV (n : ByteArray) (k t : Int) (d : ByteArray) : Value := .agg #[.string n, .int .i64 k, .int .i64 t, .string d]
set_option maxHeartbeats 2000000 in
set_option maxRecDepth 100000 in
theorem wdata_any {B p : Nat} {v : Value} {l : List UInt8} {bad : Bool} (n : ByteArray) (k t : Int) (d : ByteArray) (w : World) (hd : d.size ≤ maxLen) (hm : MaxAt w) (hw : WR B w p v l bad) (hp : 0 < p) (hB0 : 0 < B) :
    Calls Tryd.prog 45 #[.pointer (some ⟨p, 0, none⟩), .agg #[.string n, .int .i64 k, .int .i64 t, .string d]] w (DatR B w p v l bad k d.data.toList) := by
  have hsh := hw.shape
  obtain ⟨va, vc, rfl⟩ := hsh
  have HB0 : Hid (∀ o, Below w.heap.size w (w.alloc o)) := Lib.hid (fun o => (Below.refl _ _).alloc (Nat.le_refl _) o)
  have HWa : Hid (∀ o, WR B (w.alloc o) p (.slice va l.length vc) l bad) := Lib.hid (fun o => hw.below (HB0.out o))
  have HMa : Hid (∀ o, MaxAt (w.alloc o)) := Lib.hid (fun o => hm.below (HB0.out o))
  have HSa : Hid (∀ o, WStep p w (w.alloc o) (.slice va l.length vc) (.slice va l.length vc)) := Lib.hid (fun o => (WStep.refl p w _).below (HB0.out o))
  have HFi : Hid (∀ W, Calls Tryd.prog 50 #[.int .i64 k, .string d] W fun e w' => e = .returned (.bool (fitsB k d.data.toList)) ∧ W = w') := Lib.hid (fun W => fits_any k d W)
  have HBa : Hid (∀ o, WR B ((w.alloc o).setCell ⟨p, 1, none⟩ (.bool true)) p (.slice va l.length vc) l true) := Lib.hid (fun o => (HWa.out o).setbad true)
  have HSb : Hid (∀ o, WStep p w ((w.alloc o).setCell ⟨p, 1, none⟩ (.bool true)) (.slice va l.length vc) (.slice va l.length vc)) := Lib.hid (fun o => (HSa.out o).set 1 _)
  have hf1 : ∀ o, (w.alloc o).frozen? ⟨p, 1, none⟩ = false := fun o => (HWa.out o).free 1
  have hc1 : ∀ o, (w.alloc o).cell? ⟨p, 1, none⟩ = some (.bool bad) := fun o => (HWa.out o).c1
  by_cases h12 : k = 12
  · subst h12
    have HX : Hid (datS 12 d.data.toList = codS d.data.toList ∧ datOK 12 d.data.toList = okS d.data.toList) := Lib.hid ⟨if_pos rfl, if_pos rfl⟩
    have HCo : Hid (∀ W, MaxAt W → WR B W p (.slice va l.length vc) l bad → Calls Tryd.prog 43 #[.pointer (some ⟨p, 0, none⟩), .string d] W (CodedR B W p (.slice va l.length vc) l bad d.data.toList)) := Lib.hid (fun W h1 h2 => wcoded_any d W hd h1 h2 hp hB0)
    unfold CodedR at HCo
    clear hw hm hd hf1 hc1
    go_enter Tryd.func45, Tryd.ntmps45
    go_wp2_with (go_at_call 43; refine (HCo.out _ (HMa.out _) (HWa.out _)).mono ?_; rintro e w1 ⟨rfl, hw1, hs1⟩; have HW1 := Lib.hid hw1; have HS1 := Lib.hid ((HSa.out _).trans hs1); clear hw1 hs1)
    go_ret
    exact ⟨by rw [HX.out.1]; rfl, by rw [HX.out.2]; exact HW1.out, HS1.out⟩
  · cases hfit : fitsB k d.data.toList with
    | true =>
      have HX : Hid (datS k d.data.toList = d.data.toList ∧ datOK k d.data.toList = true) := Lib.hid ⟨by unfold datS; rw [if_neg h12, if_pos hfit], by unfold datOK; rw [if_neg h12, hfit]⟩
      rw [hfit] at HFi
      clear hw hm hd hf1 hc1 hfit
      go_enter Tryd.func45, Tryd.ntmps45
      go_wp2_with (go_at_call 50; refine (HFi.out _).mono ?_; rintro e w1 ⟨rfl, rfl⟩)
      go_ret
      refine ⟨by rw [HX.out.1]; rfl, ?_, HSa.out _⟩
      rw [HX.out.2, Bool.not_true, Bool.or_false]
      exact HWa.out _
    | false =>
      have HX : Hid (datS k d.data.toList = [] ∧ datOK k d.data.toList = false) := Lib.hid ⟨by unfold datS; rw [if_neg h12, if_neg (by rw [hfit]; decide)], by unfold datOK; rw [if_neg h12, hfit]⟩
      rw [hfit] at HFi
      clear hw hm hd hfit
      go_enter Tryd.func45, Tryd.ntmps45
      go_wp2_with (go_at_call 50; refine (HFi.out _).mono ?_; rintro e w1 ⟨rfl, rfl⟩)
      go_ret
      refine ⟨by rw [HX.out.1]; rfl, ?_, HSb.out _⟩
      rw [HX.out.2, Bool.not_false, Bool.or_true]
      exact HBa.out _
end Go.Proofs.YtepfeekfglpjoaaDoor

namespace Go.Proofs.YtepfeekfglpjoaaDoor
open Go.RowKit Go.Lib Go.Wi Go.Tx
def lifeOK (n : Int) : Bool := decide (0 ≤ n) && decide (n ≤ 2147483647)
def recB (n : List UInt8) (k t : Int) (d : List UInt8) : List UInt8 := subB n k ++ lifeB t ++ wordB (datS k d).length ++ datS k d
def recOK (n : List UInt8) (k t : Int) (d : List UInt8) : Bool := subOK n k && lifeOK t && datOK k d
theorem datS_len (k : Int) (d : List UInt8) : (datS k d).length ≤ 65000 := by
  unfold datS
  split
  · exact encS_len _
  · split
    · rename_i h1 h2
      unfold fitsB at h2
      split at h2
      · rw [decide_eq_true_eq] at h2; omega
      · split at h2
        · rw [decide_eq_true_eq] at h2; omega
        · rw [decide_eq_true_eq] at h2; omega
    · simp
theorem recB_len (n : List UInt8) (k t : Int) (d : List UInt8) : (recB n k t d).length ≤ 140000 := by
  have h1 := subB_len n k
  have h2 := datS_len k d
  unfold recB lifeB wordB
  simp only [List.length_append, List.length_cons, List.length_nil]
  omega
theorem wordOK_len (k : Int) (d : List UInt8) : wordOK ((datS k d).length : Nat) 0 = true := by
  have h2 := datS_len k d
  unfold wordOK
  rw [Bool.and_eq_true, decide_eq_true_eq, decide_eq_true_eq]
  omega
theorem new_cells {w W : World} {p : Nat} {v v' : Value} {arr : Array Value} {ty : TypeId} (h : WStep p (w.alloc (.cells arr ty)) W v v') (hp : p < w.heap.size) (hv : v.ownBlock ≠ some w.heap.size) (j : Nat) (x : Value) (hx : arr[j]? = some x) : W.cell? ⟨w.heap.size, j, none⟩ = some x := by
  have e := h.same w.heap.size (by show w.heap.size < (w.heap.push _).size; simp) (by omega) hv
  have e2 := World.cell?_alloc_new w arr ty j
  rw [hx] at e2
  rw [← e2]
  unfold World.cell?
  rw [e]
set_option maxHeartbeats 2000000 in
set_option maxRecDepth 100000 in
theorem wrecord_any {B p : Nat} {v : Value} {l : List UInt8} {bad : Bool} (n : ByteArray) (k t : Int) (d : ByteArray) (w : World) (hn : n.size ≤ maxLen) (hd : d.size ≤ maxLen) (hm : MaxAt w) (hw : WR B w p v l bad) (hp : 0 < p) (hB0 : 0 < B) (hB : B ≤ w.heap.size) (hl : l.length ≤ 800000000) :
    Calls Tryd.prog 34 #[.pointer (some ⟨p, 0, none⟩), .agg #[.string n, .int .i64 k, .int .i64 t, .string d]] w (Wrote B w p v l (bad || !recOK n.data.toList k t d.data.toList) (recB n.data.toList k t d.data.toList)) := by
  obtain ⟨i, hi, hz0, hz1, hz2⟩ := info_parts infoU8
  have hsl := subB_len n.data.toList k
  have hdl := datS_len k d.data.toList
  have hw65 := wordOK_len k d.data.toList
  obtain ⟨S, hS⟩ : ∃ S, subB n.data.toList k = S := ⟨_, rfl⟩
  obtain ⟨D, hD⟩ : ∃ D, datS k d.data.toList = D := ⟨_, rfl⟩
  have HY : Hid (((((bad || !subOK n.data.toList k) || !(decide (0 ≤ t) && decide (t ≤ 2147483647))) || !datOK k d.data.toList) || !wordOK (D.length : Nat) 0) = (bad || !recOK n.data.toList k t d.data.toList)) := Lib.hid (by
    rw [← hD, hw65]
    unfold recOK lifeOK
    generalize decide (0 ≤ t) = x
    generalize decide (t ≤ 2147483647) = y
    cases bad <;> cases subOK n.data.toList k <;> cases x <;> cases y <;> cases datOK k d.data.toList <;> rfl)
  have HZ : Hid ((((l ++ S) ++ lifeB t) ++ wordB (D.length : Nat)) ++ D = l ++ recB n.data.toList k t d.data.toList) := Lib.hid (by unfold recB; rw [hS, hD]; simp [List.append_assoc])
  rw [hS] at hsl
  rw [hD] at hdl
  have hll : (lifeB t).length = 4 := rfl
  have hlw : (wordB (D.length : Nat)).length = 2 := rfl
  have HB1 : Hid (∀ o, Below w.heap.size w (w.alloc o)) := Lib.hid (fun o => (Below.refl _ _).alloc (Nat.le_refl _) o)
  have hpq : p < w.heap.size := hw.lt
  have hvq : v.ownBlock ≠ some w.heap.size := fun e => by have := (World.ownsRow.lt hw.own _ e).2; omega
  have HBa : Hid (∀ o W v', WStep p (w.alloc o) W v v' → B ≤ W.heap.size) := Lib.hid (fun o W v' h => Nat.le_trans hB (Nat.le_trans (HB1.out o).size h.size))
  have HMa : Hid (∀ o W v', WStep p (w.alloc o) W v v' → MaxAt W) := Lib.hid (fun o W v' h => max_step (hm.below (HB1.out o)) (hw.below (HB1.out o)) h hp hB0)
  have HSw : Hid (∀ o W v', WStep p (w.alloc o) W v v' → WStep p w W v v') := Lib.hid (fun o W v' h => ((WStep.refl p w v).below (HB1.out o)).trans h)
  have HSub : Hid (∀ o, Calls Tryd.prog 33 #[.pointer (some ⟨p, 0, none⟩), .string n, .int .i64 k] (w.alloc o) (Wrote B (w.alloc o) p v l (bad || !subOK n.data.toList k) S)) := Lib.hid (fun o => hS ▸ wsubject_any n k (w.alloc o) hn (hm.below (HB1.out o)) (hw.below (HB1.out o)) hp hB0 (HBa.out o _ _ (WStep.refl _ _ _)) (by omega))
  have HDat : Hid (∀ W v' l' b', WR B W p v' l' b' → MaxAt W → Calls Tryd.prog 45 #[.pointer (some ⟨p, 0, none⟩), .agg #[.string n, .int .i64 k, .int .i64 t, .string d]] W fun e w' => e = .returned (.string ⟨D.toArray⟩) ∧ WR B w' p v' l' (b' || !datOK k d.data.toList) ∧ WStep p W w' v' v') := Lib.hid (fun W v' l' b' h1 h2 => by
    have := wdata_any n k t d W hd h2 h1 hp hB0
    unfold DatR at this
    rw [hD] at this
    exact this)
  obtain ⟨db, hdb⟩ : ∃ q : ByteArray, (⟨D.toArray⟩ : ByteArray) = q := ⟨_, rfl⟩
  rw [hdb] at HDat
  have hds : db.size = D.length := by rw [← hdb]; show D.toArray.size = _; simp
  have HDc : Hid (strCells db = D.map u8V) := Lib.hid (by unfold strCells; rw [← hdb]; rfl)
  have HPq := Lib.hid hpq
  have HVq := Lib.hid hvq
  clear hdb hS hD hw65 hw hm hn hd hpq hvq
  go_enter Tryd.func34, Tryd.ntmps34
  go_upto_region 2 with (go_at_call 33; refine (HSub.out _).mono ?_; rintro e w2 ⟨rfl, v2, hw2, hs2⟩; have HW2 := Lib.hid hw2; have HS2 := Lib.hid hs2; clear hw2 hs2)
  have c2 := new_cells HS2.out HPq.out HVq.out 2 _ rfl
  have hC3 := wlife_wrote t w2 HW2.out (HBa.out _ _ _ HS2.out) (by rw [List.length_append]; omega)
  have HC3 := Lib.hid hC3
  clear hC3
  go_upto_region 3 with (go_at_call 44; refine HC3.out.mono ?_; rintro e w3 ⟨rfl, v3, hw3, hs3⟩; have HW3 := Lib.hid hw3; have HS3 := Lib.hid (HS2.out.trans hs3); clear hw3 hs3)
  have e0 := new_cells HS3.out HPq.out HVq.out 0 _ rfl
  have e1 := new_cells HS3.out HPq.out HVq.out 1 _ rfl
  have e2 := new_cells HS3.out HPq.out HVq.out 2 _ rfl
  have e3 := new_cells HS3.out HPq.out HVq.out 3 _ rfl
  go_upto_region 4 with (go_at_call 45; refine (HDat.out _ _ _ _ HW3.out (HMa.out _ _ _ HS3.out)).mono ?_; rintro e w4 ⟨rfl, hw4, hs4⟩; have HW4 := Lib.hid hw4; have HS4 := Lib.hid (HS3.out.trans hs4); clear hw4 hs4)
  have hC5 := wword_wrote (D.length : Nat) 0 w4 HW4.out (HBa.out _ _ _ HS4.out) (by rw [List.length_append, List.length_append]; omega)
  have HC5 := Lib.hid hC5
  clear hC5
  go_upto_region 5 with (go_at_call 30; refine HC5.out.mono ?_; rintro e w5 ⟨rfl, v5, hw5, hs5⟩; have HW5 := Lib.hid hw5; have HS5 := Lib.hid (HS4.out.trans hs5); clear hw5 hs5)
  obtain ⟨L5, hL5⟩ : ∃ L, l ++ S ++ lifeB t ++ wordB (D.length : Nat) = L := ⟨_, rfl⟩
  have hL : L5.length ≤ 850000000 := by rw [← hL5]; simp only [List.length_append]; omega
  rw [hL5] at HW5 HZ
  clear hL5
  obtain ⟨va5, vc5, hv5⟩ := HW5.out.shape
  subst hv5
  have k0 := HW5.out.c0
  have hf0 := HW5.out.free 0
  go_wp2_with (at_builtin; go_loud (refine wpList_append_str_lies w5 rfl _ _ 29 9 rfl B 5 i Tryd.underlying29 Tryd.underlying9 hi hz0 hz1 hz2 _ _ _ rfl HW5.out.own db rfl (by rw [hds]; unfold maxLen; omega) (by rw [hds]; omega) (HBa.out _ _ _ HS5.out) ?_; intro v6 w6 hown6 hg6 hat6; obtain ⟨va6, vc6, rfl⟩ := own_shape hown6; have HO6 := Lib.hid hown6; have HG6 := Lib.hid hg6; have HA6 := Lib.hid hat6; have hk0 := (hg6.cell_far ⟨p, 0, none⟩ HW5.out.lt (fun e => HW5.out.apart e.symm)).trans HW5.out.c0; have hf6 : w6.frozen? ⟨p, 0, none⟩ = false := (by rw [hg6.frozen_far ⟨p, 0, none⟩ HW5.out.lt (fun e => HW5.out.apart e.symm)]; exact HW5.out.free 0); clear hown6 hg6 hat6))
  go_end0
  have ho := HO6.out
  have ha := HA6.out
  rw [hds] at ha
  rw [hds, HDc.out] at ho
  have h2 := HW5.out.put (m := D) ho HG6.out ha
  have hw := h2.1
  rw [HY.out, HZ.out] at hw
  exact ⟨rfl, _, hw, HSw.out _ _ _ (HS5.out.trans h2.2)⟩
end Go.Proofs.YtepfeekfglpjoaaDoor

namespace Go.Wi
/-- The flags of a message, and its code. -/
def flagV (c : Int) (r q x : Bool) : Int :=
  let a := if r = true then bits .or .i64 c 32768 else c
  let b := if q = true then bits .or .i64 a 512 else a
  if x = true then bits .or .i64 b 256 else b
def flagS (c : Nat) (r q x : Bool) : Int := (c : Int) + (if r then 32768 else 0) + (if q then 512 else 0) + (if x then 256 else 0)
theorem flagV_small : ∀ c : Fin 16, ∀ r q x : Bool, flagV (c.val : Int) r q x = flagS c.val r q x := by decide +kernel
theorem flagV_word (c : Int) (r q x : Bool) (h0 : 0 ≤ c) (h1 : c ≤ 15) : wordOK (flagV c r q x) 0 = true := by
  have h := flagV_small ⟨c.toNat, by omega⟩ r q x
  have e : ((c.toNat : Nat) : Int) = c := by omega
  rw [show ((⟨c.toNat, by omega⟩ : Fin 16).val : Int) = c from e] at h
  rw [h]
  unfold wordOK flagS
  rw [Bool.and_eq_true, decide_eq_true_eq, decide_eq_true_eq]
  show 0 ≤ ((c.toNat : Nat) : Int) + _ + _ + _ ∧ ((c.toNat : Nat) : Int) + _ + _ + _ ≤ 65535
  cases r <;> cases q <;> cases x <;> simp <;> omega
end Go.Wi
namespace Go.Proofs.YtepfeekfglpjoaaDoor
open Go.RowKit Go.Lib Go.Wi Go.Tx
set_option maxHeartbeats 2000000 in
set_option maxRecDepth 100000 in
theorem flags_any (i c k : Int) (r q x : Bool) (m : ByteArray) (v : Value) (w : World) : Calls Tryd.prog 32 #[.agg #[.int .i64 i, .bool r, .bool q, .bool x, .int .i64 c, .string m, .int .i64 k, v]] w fun e w' => e = .returned (.int .i64 (flagV c r q x)) ∧ Below w.heap.size w w' := by
  cases r <;> cases q <;> cases x
  all_goals
    go_enter Tryd.func32, Tryd.ntmps32
    go_wp2
    go_ret
    exact ⟨rfl, (Below.refl _ _).alloc (Nat.le_refl _) _⟩
end Go.Proofs.YtepfeekfglpjoaaDoor

namespace Go.Proofs.YtepfeekfglpjoaaDoor
open Go.RowKit Go.Lib Go.Wi Go.Tx
/-- A record as it lies in memory. -/
structure WRec where
  name : ByteArray
  kind : Int
  ttl : Int
  data : ByteArray
def WRec.bytes (r : WRec) : List UInt8 := recB r.name.data.toList r.kind r.ttl r.data.data.toList
def WRec.ok (r : WRec) : Bool := recOK r.name.data.toList r.kind r.ttl r.data.data.toList
/-- The records lie in block g. -/
def RecAt (w : World) (g : Nat) (rs : List WRec) : Prop := ∀ j r, rs[j]? = some r →
  w.cell? ⟨g, j * 4, none⟩ = some (.string r.name) ∧ w.cell? ⟨g, j * 4 + 1, none⟩ = some (.int .i64 r.kind) ∧ w.cell? ⟨g, j * 4 + 2, none⟩ = some (.int .i64 r.ttl) ∧ w.cell? ⟨g, j * 4 + 3, none⟩ = some (.string r.data)
/-- A slice of records that a call may read. -/
def RowsAt (w : World) (rv : Value) (rs : List WRec) : Prop := (rv = .slice none 0 0 ∧ rs = []) ∨ ∃ g c, rv = .slice (some ⟨g, 0, none⟩) rs.length c ∧ g < w.heap.size ∧ RecAt w g rs
def codeOK (c : Int) : Bool := decide (0 ≤ c) && decide (c ≤ 15)
def headB (i c : Int) (r q x : Bool) (m : Nat) (n : List UInt8) (k : Int) : List UInt8 :=
  wordB i ++ wordB (flagV c r q x) ++ wordB 1 ++ wordB m ++ wordB 0 ++ wordB 0 ++ subB n k
def msgB (i c : Int) (r q x : Bool) (n : List UInt8) (k : Int) (rs : List WRec) : List UInt8 := headB i c r q x rs.length n k ++ rs.flatMap WRec.bytes
def headOK (i c : Int) (r q x : Bool) (m : Nat) (n : List UInt8) (k : Int) : Bool := wordOK i 0 && codeOK c && wordOK (flagV c r q x) 0 && wordOK m 0 && subOK n k
def msgOK (i c : Int) (r q x : Bool) (n : List UInt8) (k : Int) (rs : List WRec) : Bool := headOK i c r q x rs.length n k && rs.all WRec.ok
theorem recs_len (rs : List WRec) : (rs.flatMap WRec.bytes).length ≤ rs.length * 140000 := by
  induction rs with
  | nil => simp
  | cons r rs ih =>
    rw [List.flatMap_cons, List.length_append, List.length_cons, Nat.succ_mul]
    have := recB_len r.name.data.toList r.kind r.ttl r.data.data.toList
    have e : r.bytes.length = (recB r.name.data.toList r.kind r.ttl r.data.data.toList).length := rfl
    omega
theorem recs_take {rs : List WRec} {k : Nat} {r : WRec} (h : rs[k]? = some r) : (rs.take (k + 1)).flatMap WRec.bytes = (rs.take k).flatMap WRec.bytes ++ r.bytes ∧ (rs.take (k + 1)).all WRec.ok = ((rs.take k).all WRec.ok && r.ok) := by
  have hk := (List.getElem?_eq_some_iff.1 h).1
  rw [List.getElem?_eq_getElem hk] at h
  cases h
  rw [List.take_succ_eq_append_getElem hk, List.flatMap_append, List.all_append]
  simp
set_option maxHeartbeats 4000000 in
set_option maxRecDepth 100000 in
theorem wmessage_any {B p : Nat} {v : Value} {l : List UInt8} {bad : Bool} (i c k : Int) (r q x : Bool) (n : ByteArray) (rv : Value) (rs : List WRec) (w : World) (hrs : RowsAt w rv rs) (hr32 : rs.length ≤ 32) (hn : n.size ≤ maxLen) (hnd : ∀ r ∈ rs, r.name.size ≤ maxLen ∧ r.data.size ≤ maxLen) (hm : MaxAt w) (hw : WR B w p v l bad) (hp : 0 < p) (hB0 : 0 < B) (hB : B ≤ w.heap.size) (hl : l.length ≤ 1000)
    (hfar : ∀ g c, rv = .slice (some ⟨g, 0, none⟩) rs.length c → g ≠ p ∧ v.ownBlock ≠ some g) :
    Calls Tryd.prog 21 #[.pointer (some ⟨p, 0, none⟩), .agg #[.int .i64 i, .bool r, .bool q, .bool x, .int .i64 c, .string n, .int .i64 k, rv]] w (Wrote B w p v l (bad || !msgOK i c r q x n.data.toList k rs) (msgB i c r q x n.data.toList k rs)) := by
  have hwl : ∀ z, (wordB z).length = 2 := fun _ => rfl
  have HY : Hid (∀ b, (((((((bad || !wordOK i 0) || !codeOK c) || !wordOK (flagV c r q x) 0) || !wordOK 1 0) || !wordOK (rs.length : Nat) 0) || !wordOK 0 0) || !wordOK 0 0) = b → (b || !subOK n.data.toList k) = (bad || !headOK i c r q x rs.length n.data.toList k)) := Lib.hid (by
    rintro _ rfl
    have e1 : wordOK 1 0 = true := by decide
    have e2 : wordOK 0 0 = true := by decide
    rw [e1, e2]
    unfold headOK
    cases bad <;> cases wordOK i 0 <;> cases codeOK c <;> cases wordOK (flagV c r q x) 0 <;> cases wordOK (rs.length : Nat) 0 <;> cases subOK n.data.toList k <;> rfl)
  have HZ : Hid ((((((((l ++ wordB i) ++ wordB (flagV c r q x)) ++ wordB 1) ++ wordB (rs.length : Nat)) ++ wordB 0) ++ wordB 0) ++ subB n.data.toList k) = l ++ headB i c r q x rs.length n.data.toList k) := Lib.hid (by unfold headB; simp [List.append_assoc])
  have hhl : (l ++ headB i c r q x rs.length n.data.toList k).length ≤ 200000 := by
    have := subB_len n.data.toList k
    rw [List.length_append]
    unfold headB
    simp only [List.length_append, hwl]
    omega
  have HHl := Lib.hid hhl
  have HB1 : Hid (∀ o, Below w.heap.size w (w.alloc o)) := Lib.hid (fun o => (Below.refl _ _).alloc (Nat.le_refl _) o)
  have HPq : Hid (p < w.heap.size) := Lib.hid hw.lt
  have HVq : Hid (v.ownBlock ≠ some w.heap.size) := Lib.hid (fun e => by have := (World.ownsRow.lt hw.own _ e).2; omega)
  have HBa : Hid (∀ o W v', WStep p (w.alloc o) W v v' → B ≤ W.heap.size) := Lib.hid (fun o W v' h => Nat.le_trans hB (Nat.le_trans (HB1.out o).size h.size))
  have HMa : Hid (∀ o W v', WStep p (w.alloc o) W v v' → MaxAt W) := Lib.hid (fun o W v' h => max_step (hm.below (HB1.out o)) (hw.below (HB1.out o)) h hp hB0)
  have HSw : Hid (∀ o W v', WStep p (w.alloc o) W v v' → WStep p w W v v') := Lib.hid (fun o W v' h => ((WStep.refl p w v).below (HB1.out o)).trans h)
  have HWa : Hid (∀ o, WR B (w.alloc o) p v l bad) := Lib.hid (fun o => hw.below (HB1.out o))
  have HRow : Hid (∀ o W v' g cc, WStep p (w.alloc o) W v v' → rv = .slice (some ⟨g, 0, none⟩) rs.length cc → RecAt W g rs) := Lib.hid (fun o W v' g cc h e => by
    rcases hrs with ⟨e1, _⟩ | ⟨g1, c1, e1, hg, hr⟩
    · rw [e] at e1; cases e1
    · rw [e] at e1
      have e3 : g = g1 := by injection e1 with a; injection a with a; injection a
      subst e3
      have hf := hfar g cc e
      have hh : W.heap[g]? = w.heap[g]? := (h.same g (Nat.lt_of_lt_of_le hg (HB1.out o).size) hf.1 hf.2).trans ((HB1.out o).block g hg)
      have hcl : ∀ j, W.cell? ⟨g, j, none⟩ = w.cell? ⟨g, j, none⟩ := fun j => by unfold World.cell?; rw [hh]
      intro j r hj
      obtain ⟨a1, a2, a3, a4⟩ := hr j r hj
      exact ⟨by rw [hcl]; exact a1, by rw [hcl]; exact a2, by rw [hcl]; exact a3, by rw [hcl]; exact a4⟩)
  have hrv : ∃ a cc, rv = .slice a rs.length cc := by
    rcases hrs with ⟨e1, e2⟩ | ⟨g1, c1, e1, _⟩
    · exact ⟨none, 0, by rw [e1, e2]; rfl⟩
    · exact ⟨_, _, e1⟩
  obtain ⟨ra, rc, hrv⟩ := hrv
  subst hrv
  have hra : rs.length = 0 ∨ ∃ g, ra = some ⟨g, 0, none⟩ := by
    rcases hrs with ⟨e1, e2⟩ | ⟨g1, c1, e1, _⟩
    · exact .inl (by rw [e2]; rfl)
    · injection e1 with a; exact .inr ⟨g1, a⟩
  have HRa := Lib.hid hra
  have HNd := Lib.hid hnd
  have HMl : Hid (msgB i c r q x n.data.toList k rs = headB i c r q x rs.length n.data.toList k ++ rs.flatMap WRec.bytes) := Lib.hid rfl
  have HMo : Hid (msgOK i c r q x n.data.toList k rs = (headOK i c r q x rs.length n.data.toList k && rs.all WRec.ok)) := Lib.hid rfl
  obtain ⟨m, hml⟩ : ∃ m, rs.length = m := ⟨_, rfl⟩
  rw [hml] at HRow HMl HMo HY HZ HHl hr32 HRa
  have HM := Lib.hid hml
  have HFl : Hid (∀ W vv, Calls Tryd.prog 32 #[.agg #[.int .i64 i, .bool r, .bool q, .bool x, .int .i64 c, .string n, .int .i64 k, vv]] W fun e w' => e = .returned (.int .i64 (flagV c r q x)) ∧ Below W.heap.size W w') := Lib.hid (fun W vv => flags_any i c k r q x n vv W)
  have HSub : Hid (∀ W v' l' b', WR B W p v' l' b' → MaxAt W → B ≤ W.heap.size → l'.length ≤ 900000000 → Calls Tryd.prog 33 #[.pointer (some ⟨p, 0, none⟩), .string n, .int .i64 k] W (Wrote B W p v' l' (b' || !subOK n.data.toList k) (subB n.data.toList k))) := Lib.hid (fun W v' l' b' h1 h2 h3 h4 => wsubject_any n k W hn h2 h1 hp hB0 h3 h4)
  have HRec : Hid (∀ (r : WRec) W v' l' b', r ∈ rs → WR B W p v' l' b' → MaxAt W → B ≤ W.heap.size → l'.length ≤ 800000000 → Calls Tryd.prog 34 #[.pointer (some ⟨p, 0, none⟩), .agg #[.string r.name, .int .i64 r.kind, .int .i64 r.ttl, .string r.data]] W (Wrote B W p v' l' (b' || !r.ok) r.bytes)) := Lib.hid (fun r W v' l' b' h0 h1 h2 h3 h4 => wrecord_any r.name r.kind r.ttl r.data W (hnd r h0).1 (hnd r h0).2 h2 h1 hp hB0 h3 h4)
  rw [hml]
  clear hrs hn hnd hm hw hhl hra hfar hml hp hB0 hB
  go_enter Tryd.func21, Tryd.ntmps21
  go_upto_region 1 with (fail)
  have hC1 := wword_wrote i 0 _ (HWa.out (.cells #[.int .i64 i, .bool r, .bool q, .bool x, .int .i64 c, .string n, .int .i64 k, .slice ra m rc] 26)) (HBa.out _ _ _ (WStep.refl _ _ _)) (by omega)
  have HC1 := Lib.hid hC1
  clear hC1
  go_upto_region 2 with (go_at_call 30; refine HC1.out.mono ?_; rintro e w1 ⟨rfl, v1, hw1, hs1⟩; have HW1 := Lib.hid hw1; have HS1 := Lib.hid hs1; clear hw1 hs1)
  have e4 := new_cells HS1.out HPq.out HVq.out 4 _ rfl
  have HCk : Hid (∀ h, Calls Tryd.prog 31 #[.pointer (some ⟨p, 0, none⟩), .bool h] w1 (CheckR w1 p ((bad || !wordOK i 0) || !h))) := Lib.hid (fun h => wcheck_any h w1 HW1.out)
  go_cut [] from 10 to 20 (fun wx => wx = w1.setCell ⟨p, 1, none⟩ (.bool ((bad || !wordOK i 0) || !codeOK c)))
  case first =>
    rcases Classical.em (0 ≤ c) with hc0 | hc0
    · rcases Classical.em (c ≤ 15) with hc1 | hc1
      · have hk : codeOK c = true := by unfold codeOK; rw [decide_eq_true hc0, decide_eq_true hc1]; rfl
        go_wp2_with (go_at_call 31; refine (HCk.out _).mono ?_; rintro e w2 ⟨rfl, rfl⟩)
        go_meet
        rw [hk]; simp
      · have hk : codeOK c = false := by unfold codeOK; rw [decide_eq_false hc1, Bool.and_false]
        go_wp2_with (go_at_call 31; refine (HCk.out _).mono ?_; rintro e w2 ⟨rfl, rfl⟩)
        go_meet
        rw [hk]; simp
    · have hk : codeOK c = false := by unfold codeOK; rw [decide_eq_false hc0, Bool.false_and]
      go_wp2_with (go_at_call 31; refine (HCk.out _).mono ?_; rintro e w2 ⟨rfl, rfl⟩)
      go_meet
      rw [hk]; simp
  case rest =>
    obtain ⟨w2, hw2⟩ : ∃ W, w1.setCell ⟨p, 1, none⟩ (.bool ((bad || !wordOK i 0) || !codeOK c)) = W := ⟨_, rfl⟩
    have HW2 := Lib.hid (HW1.out.setbad ((bad || !wordOK i 0) || !codeOK c))
    have HS2 := Lib.hid (HS1.out.set 1 (.bool ((bad || !wordOK i 0) || !codeOK c)))
    rw [hw2] at hcut HW2 HS2
    replace hcut := hcut.symm
    subst hcut
    clear hw2 e4 HCk
    have e0 := new_cells HS2.out HPq.out HVq.out 0 _ rfl
    have e1 := new_cells HS2.out HPq.out HVq.out 1 _ rfl
    have e2 := new_cells HS2.out HPq.out HVq.out 2 _ rfl
    have e3 := new_cells HS2.out HPq.out HVq.out 3 _ rfl
    have e4 := new_cells HS2.out HPq.out HVq.out 4 _ rfl
    have e5 := new_cells HS2.out HPq.out HVq.out 5 _ rfl
    have e6 := new_cells HS2.out HPq.out HVq.out 6 _ rfl
    have e7 := new_cells HS2.out HPq.out HVq.out 7 _ rfl
    have HC3 : Hid (∀ W, Below w2.heap.size w2 W → Calls Tryd.prog 30 #[.pointer (some ⟨p, 0, none⟩), .int .i64 (flagV c r q x), .int .i64 0] W (Wrote B W p v1 (l ++ wordB i) (((bad || !wordOK i 0) || !codeOK c) || !wordOK (flagV c r q x) 0) (wordB (flagV c r q x)))) := Lib.hid (fun W h => wword_wrote _ 0 W (HW2.out.below h) (Nat.le_trans (HBa.out _ _ _ HS2.out) h.size) (by rw [List.length_append, hwl]; omega))
    go_upto_region 4 with (first | (go_at_call 32; refine (HFl.out _ _).mono ?_; rintro e w3 ⟨rfl, hb3⟩; have HB3 := Lib.hid hb3; clear hb3) | (go_at_call 30; refine (HC3.out _ HB3.out).mono ?_; rintro e w4 ⟨rfl, v4, hw4, hs4⟩; have HW4 := Lib.hid hw4; have HS4 := Lib.hid ((HS2.out.below HB3.out).trans hs4); clear hw4 hs4))
    clear e0 e1 e2 e3 e4 e5 e6 e7
    have hC5 := wword_wrote 1 0 w4 HW4.out (HBa.out _ _ _ HS4.out) (by simp only [List.length_append, hwl]; omega)
    have HC5 := Lib.hid hC5
    clear hC5
    go_upto_region 5 with (go_at_call 30; refine HC5.out.mono ?_; rintro e w5 ⟨rfl, v5, hw5, hs5⟩; have HW5 := Lib.hid hw5; have HS5 := Lib.hid (HS4.out.trans hs5); clear hw5 hs5)
    have e7 := new_cells HS5.out HPq.out HVq.out 7 _ rfl
    have hC6 := wword_wrote (m : Nat) 0 w5 HW5.out (HBa.out _ _ _ HS5.out) (by simp only [List.length_append, hwl]; omega)
    have HC6 := Lib.hid hC6
    clear hC6
    go_upto_region 6 with (go_at_call 30; refine HC6.out.mono ?_; rintro e w6 ⟨rfl, v6, hw6, hs6⟩; have HW6 := Lib.hid hw6; have HS6 := Lib.hid (HS5.out.trans hs6); clear hw6 hs6)
    clear e7
    have hC7 := wword_wrote 0 0 w6 HW6.out (HBa.out _ _ _ HS6.out) (by simp only [List.length_append, hwl]; omega)
    have HC7 := Lib.hid hC7
    clear hC7
    go_upto_region 7 with (go_at_call 30; refine HC7.out.mono ?_; rintro e w7 ⟨rfl, v7, hw7, hs7⟩; have HW7 := Lib.hid hw7; have HS7 := Lib.hid (HS6.out.trans hs7); clear hw7 hs7)
    have hC8 := wword_wrote 0 0 w7 HW7.out (HBa.out _ _ _ HS7.out) (by simp only [List.length_append, hwl]; omega)
    have HC8 := Lib.hid hC8
    clear hC8
    go_upto_region 8 with (go_at_call 30; refine HC8.out.mono ?_; rintro e w8 ⟨rfl, v8, hw8, hs8⟩; have HW8 := Lib.hid hw8; have HS8 := Lib.hid (HS7.out.trans hs8); clear hw8 hs8)
    have e5 := new_cells HS8.out HPq.out HVq.out 5 _ rfl
    have e6 := new_cells HS8.out HPq.out HVq.out 6 _ rfl
    have hC9 := HSub.out w8 _ _ _ HW8.out (HMa.out _ _ _ HS8.out) (HBa.out _ _ _ HS8.out) (by simp only [List.length_append, hwl]; omega)
    have HC9 := Lib.hid hC9
    clear hC9
    go_upto_region 9 with (go_at_call 33; refine HC9.out.mono ?_; rintro e w9 ⟨rfl, v9, hw9, hs9⟩; have HW9 := Lib.hid hw9; have HS9 := Lib.hid (HS8.out.trans hs9); clear hw9 hs9)
    clear e5 e6
    rw [HZ.out, HY.out _ rfl] at HW9
    have e7 := new_cells HS9.out HPq.out HVq.out 7 _ rfl
    obtain ⟨L0, hL0⟩ : ∃ L, l ++ headB i c r q x m n.data.toList k = L := ⟨_, rfl⟩
    obtain ⟨b0, hb0⟩ : ∃ b, (bad || !headOK i c r q x m n.data.toList k) = b := ⟨_, rfl⟩
    rw [hL0, hb0] at HW9
    rw [hL0] at HHl
    have HL0 := Lib.hid hL0
    have Hb0 := Lib.hid hb0
    have hhl := HHl.out
    clear hL0 hb0
    go_wp2
    clear e7
    go_loopw [46] (fun iv wr => ∃ (j : Nat) (v' : Value), j ≤ m ∧ iv = .int .i64 j ∧ WR B wr p v' (L0 ++ (rs.take j).flatMap WRec.bytes) (b0 || !(rs.take j).all WRec.ok) ∧ WStep p (w.alloc (.cells #[.int .i64 i, .bool r, .bool q, .bool x, .int .i64 c, .string n, .int .i64 k, .slice ra m rc] 26)) wr v v') (fun iv _ => m - (intOf iv).toNat)
    case atStart => exact ⟨0, v9, Nat.zero_le _, rfl, by simpa using HW9.out, HS9.out⟩
    case round =>
      obtain ⟨j, vj, hj, rfl, hwj, hsj⟩ := hrel
      have HWj := Lib.hid hwj
      have HSj := Lib.hid hsj
      clear hwj hsj
      by_cases hlt : j < m
      · obtain ⟨rj, hx⟩ : ∃ y, rs[j]? = some y := ⟨_, List.getElem?_eq_getElem (by rw [HM.out]; exact hlt)⟩
        have hra := HRa.out.resolve_left (by omega)
        obtain ⟨g, rfl⟩ := hra
        obtain ⟨x0, x1, x2, x3⟩ := HRow.out _ _ _ g rc HSj.out rfl j rj hx
        have HTk := Lib.hid (recs_take hx)
        have HIn : Hid (rj ∈ rs) := Lib.hid (List.mem_of_getElem? hx)
        have hpl : (L0 ++ (rs.take j).flatMap WRec.bytes).length ≤ 800000000 := by
          have h1 := recs_len (rs.take j)
          have h2 := List.length_take_le j rs
          have h3 : (rs.take j).length * 140000 ≤ 32 * 140000 := Nat.mul_le_mul_right _ (by omega)
          rw [List.length_append]
          omega
        have HC : Hid (∀ W, Below wr.heap.size wr W → Calls Tryd.prog 34 #[.pointer (some ⟨p, 0, none⟩), .agg #[.string rj.name, .int .i64 rj.kind, .int .i64 rj.ttl, .string rj.data]] W (Wrote B W p vj (L0 ++ (rs.take j).flatMap WRec.bytes) ((b0 || !(rs.take j).all WRec.ok) || !rj.ok) rj.bytes)) := Lib.hid (fun W h => HRec.out rj W vj _ _ HIn.out (HWj.out.below h) (HMa.out _ _ _ (HSj.out.below h)) (HBa.out _ _ _ (HSj.out.below h)) hpl)
        have HBo : Hid (∀ o, Below wr.heap.size wr (wr.alloc o)) := Lib.hid (fun o => (Below.refl _ _).alloc (Nat.le_refl _) o)
        have hj0 : (0 : Int) ≤ (j : Int) := by omega
        have hj1 : (j : Int) < (m : Int) := by omega
        clear hx hpl
        go_wp2_with (go_at_call 34; refine (HC.out _ (HBo.out _)).mono ?_; rintro e w10 ⟨rfl, v10, hw10, hs10⟩; have HW10 := Lib.hid hw10; have HS10 := Lib.hid ((HSj.out.below (HBo.out _)).trans hs10); clear hw10 hs10)
        go_roundw
        case rel =>
          refine ⟨j + 1, v10, hlt, by go_num, ?_, HS10.out⟩
          rw [HTk.out.1, HTk.out.2, ← List.append_assoc]
          have e : (b0 || !((rs.take j).all WRec.ok && rj.ok)) = ((b0 || !(rs.take j).all WRec.ok) || !rj.ok) := by cases b0 <;> cases (rs.take j).all WRec.ok <;> cases rj.ok <;> rfl
          rw [e]
          exact HW10.out
        case measure => simp [intOf]; omega
      · obtain rfl : j = m := by omega
        go_wp2
        go_end0
        have hw := HWj.out
        rw [List.take_of_length_le (by rw [HM.out]; exact Nat.le_refl _), ← HL0.out, ← Hb0.out] at hw
        refine ⟨rfl, _, ?_, HSw.out _ _ _ HSj.out⟩
        rw [HMl.out, HMo.out, ← List.append_assoc]
        have e : (bad || !(headOK i c r q x j n.data.toList k && rs.all WRec.ok)) = ((bad || !headOK i c r q x j n.data.toList k) || !rs.all WRec.ok) := by cases bad <;> cases headOK i c r q x j n.data.toList k <;> cases rs.all WRec.ok <;> rfl
        rw [e]
        exact hw
end Go.Proofs.YtepfeekfglpjoaaDoor

namespace Go.Proofs.YtepfeekfglpjoaaDoor
open Go.RowKit Go.Lib Go.Tx
def alnum (x : Nat) : Bool := (decide (97 ≤ (x : Int)) && decide ((x : Int) ≤ 122)) || (decide (65 ≤ (x : Int)) && decide ((x : Int) ≤ 90)) || (decide (48 ≤ (x : Int)) && decide ((x : Int) ≤ 57))
def lettersB (more l : List UInt8) : Bool := l.all (fun b => alnum b.toNat || more.any fun m => b == m) && decide (l ≠ [])
theorem all_till {p : UInt8 → Bool} (l : List UInt8) (k : Nat) (hk : l.length ≤ k) (h : ∀ j b, j < k → l[j]? = some b → p b = true) : l.all p = true := by
  rw [List.all_eq_true]
  intro b hb
  obtain ⟨j, hj, rfl⟩ := List.getElem_of_mem hb
  exact h j _ (by omega) (List.getElem?_eq_getElem hj)
theorem all_not {p : UInt8 → Bool} (l : List UInt8) (k : Nat) (b : UInt8) (hk : l[k]? = some b) (h : p b = false) : l.all p = false := by
  rw [List.all_eq_false]
  exact ⟨b, List.mem_of_getElem? hk, by simp [h]⟩
theorem u8_beq (a b : UInt8) : ((a.toNat : Int) == (b.toNat : Int)) = (a == b) := by
  by_cases h : a = b
  · subst h; simp
  · have : ¬ (a.toNat : Int) = (b.toNat : Int) := fun e => h (UInt8.toNat_inj.1 (by omega))
    rw [beq_eq_false_iff_ne.2 this, beq_eq_false_iff_ne.2 h]
theorem ne_nil (s : ByteArray) : (!s.toList.isEmpty) = (true && decide (s.data.toList ≠ [])) := by
  rw [Go.Lib.toList_data]
  cases s.data.toList <;> simp
theorem ret_b {a b : Bool} (h : a = b) : Ending.returned (.bool a) = .returned (.bool b) := by rw [h]
set_option maxHeartbeats 2000000 in
set_option maxRecDepth 100000 in
theorem letters_any (s more : ByteArray) (w : World) (hs : s.size ≤ 1000000) (hm : more.size ≤ 100) : Calls Tryd.prog 41 #[.string s, .string more] w fun e w' => e = .returned (.bool (lettersB more.data.toList s.data.toList)) ∧ w' = w := by
  go_enter Tryd.func41, Tryd.ntmps41
  go_wp2
  go_loop [5] (fun i => ∃ k : Nat, k ≤ s.size ∧ i = .int .i64 k ∧ Hid (∀ j b, j < k → s.data.toList[j]? = some b → (alnum b.toNat || more.data.toList.any fun m => b == m) = true)) (fun i => s.size - (intOf i).toNat)
  case atStart => exact ⟨0, Nat.zero_le _, rfl, Lib.hid (by omega)⟩
  case round =>
    obtain ⟨k, hk, rfl, hall⟩ := hrel
    by_cases hlt : k < s.size
    · have HK : Hid (s.data.toList[k]? = some s[k]) := Lib.hid (List.getElem?_eq_getElem hlt)
      go_wp2
      all_goals (
        go_loop [7, 8] (fun ok i => ∃ j : Nat, j ≤ more.size ∧ i = .int .i64 j ∧ ok = .bool (alnum s[k].toNat || (more.data.toList.take j).any fun m => s[k] == m)) (fun _ i => more.size - (intOf i).toNat)
        case atStart => exact ⟨0, Nat.zero_le _, rfl, congrArg Value.bool (by unfold alnum; simp [*] <;> first | omega | (rw [Bool.eq_iff_iff]; simp; omega))⟩
        case round =>
          obtain ⟨j, hj, rfl, rfl⟩ := hrel
          by_cases hjl : j < more.size
          · have hstep : ∀ m, more.data.toList[j]? = some m → (more.data.toList.take (j + 1)).any (fun m => s[k] == m) = ((more.data.toList.take j).any (fun m => s[k] == m) || (s[k] == m)) := fun m hm => by
              rw [List.take_add_one, hm, List.any_append]; simp
            have HS := Lib.hid (hstep more[j] (List.getElem?_eq_getElem hjl))
            clear hstep
            cases hX : (alnum s[k].toNat || (more.data.toList.take j).any fun m => s[k] == m) with
            | true =>
              have HX := Lib.hid hX
              clear hX
              go_wp2
              go_round
              case rel => exact ⟨j + 1, hjl, by go_num, congrArg Value.bool (by rw [HS.out, ← Bool.or_assoc, HX.out]; rfl)⟩
              case measure => simp [intOf]; omega
            | false =>
              have HX := Lib.hid hX
              clear hX
              go_wp2
              go_round
              case rel => exact ⟨j + 1, hjl, by go_num, congrArg Value.bool (by rw [HS.out, ← Bool.or_assoc, HX.out, Bool.false_or]; exact u8_beq _ _)⟩
              case measure => simp [intOf]; omega
          · obtain rfl : j = more.size := by omega
            have ht : more.data.toList.take more.size = more.data.toList := List.take_of_length_le (Nat.le_refl _)
            have HT := Lib.hid ht
            clear ht
            cases hX : (alnum s[k].toNat || (more.data.toList.take more.size).any fun m => s[k] == m) with
            | true =>
              have HX := Lib.hid hX
              clear hX
              go_wp2
              go_round
              case rel => exact ⟨k + 1, hlt, by go_num, Lib.hid (by
                intro j d hj hd
                by_cases e : j = k
                · subst e
                  have := HK.out
                  rw [this] at hd
                  cases hd
                  have := HX.out
                  rw [HT.out] at this
                  exact this
                · exact hall.out j d (by omega) hd)⟩
              case measure => simp [intOf]; omega
            | false =>
              have HX := Lib.hid hX
              clear hX
              go_wp2
              go_ret
              have := HX.out
              rw [HT.out] at this
              exact ⟨by unfold lettersB; rw [all_not _ k _ HK.out this]; rfl, rfl⟩)
    · obtain rfl : k = s.size := by omega
      have HA := Lib.hid (all_till (p := fun b => alnum b.toNat || more.data.toList.any fun m => b == m) s.data.toList s.size (Nat.le_refl _) hall.out)
      go_wp2
      go_ret
      exact ⟨by unfold lettersB; rw [HA.out]; exact ret_b (ne_nil s), rfl⟩
end Go.Proofs.YtepfeekfglpjoaaDoor

namespace Go.Proofs.YtepfeekfglpjoaaDoor
open Go.RowKit Go.Lib Go.Tx
theorem info9 : (Tryd.prog.info? 9).map (fun i => (i.zero, i.size, i.bytes)) = some (some (.string ⟨#[]⟩), 1, 16) := by kernel_rfl
theorem one_cell (w : World) (s : ByteArray) (e : TypeId) : ∀ j u, [Value.string s][j]? = some u → (w.alloc (.cells #[.string s] e)).cell? ((⟨w.heap.size, 0, none⟩ : Addr).add j) = some u := by
  intro j u hj
  have ha : (⟨w.heap.size, 0, none⟩ : Addr).add j = ⟨w.heap.size, j, none⟩ := by unfold Addr.add; split <;> simp_all
  rw [ha, World.cell?_alloc_new]
  simpa using hj
/-- What holds at the head of a round. -/
structure PI (w : World) (l : List UInt8) (c : UInt8) (n k F : Nat) (out fr : Value) (wr : World) (T : List (List UInt8)) : Prop where
  fr : fr = .int .i64 (F : Int)
  told : StrC w.heap.size wr out T
  go : k ≤ n → F ≤ k ∧ splitL c l = T ++ splitG c ((l.take k).drop F) (l.drop k)
  done : n < k → splitL c l = T
  few : T.length ≤ k
  bel : Below w.heap.size w wr
def SplitR (w : World) (T : List (List UInt8)) (e : Ending) (w' : World) : Prop := ∃ v, e = .returned v ∧ StrC w.heap.size w' v T ∧ Below w.heap.size w w'
theorem ext_drop (s : ByteArray) (F k : Nat) : Value.string (s.extract F k) = strV ((s.data.toList.take k).drop F) := by
  unfold strV
  congr 1
  apply ByteArray.ext
  apply Array.ext'
  simp [ByteArray.extract, ByteArray.copySlice, List.drop_take, List.extract]
theorem PI.skip {w wr : World} {l : List UInt8} {c b : UInt8} {n k F : Nat} {out fr : Value} {T : List (List UInt8)} (h : PI w l c n k F out fr wr T) (hl : l.length = n) (hb : l[k]? = some b) (hc : ¬ b = c) : PI w l c n (k + 1) F out fr wr T := by
  have hk := (List.getElem?_eq_some_iff.1 hb).1
  obtain ⟨h1, h2⟩ := h.go (by omega)
  exact ⟨h.fr, h.told, fun _ => ⟨by omega, by rw [h2, splitG_step hb h1 hc]⟩, fun h => by omega, by have := h.few; omega, h.bel⟩
theorem PI.push {w wr w5 : World} {s : ByteArray} {c : UInt8} {n k F : Nat} {out out' fr : Value} {T : List (List UInt8)} (h : PI w s.data.toList c n k F out fr wr T) (hl : s.data.toList.length = n) (hk : k ≤ n) (hb : k < n → s.data.toList[k]? = some c)
    (ho : w5.ownsRow w.heap.size 9 1 out' (T.length + 1) (T.map strV ++ [.string (s.extract F k)])) (hbel : Below w.heap.size w w5) : PI w s.data.toList c n (k + 1) (k + 1) out' (.int .i64 ((k + 1 : Nat) : Int)) w5 (T ++ [(s.data.toList.take k).drop F]) := by
  obtain ⟨h1, h2⟩ := h.go hk
  refine ⟨rfl, ?_, fun h3 => ⟨Nat.le_refl _, ?_⟩, fun h3 => ?_, by have := h.few; simp; omega, hbel⟩
  · unfold StrC
    rw [List.length_append, List.map_append]
    rw [ext_drop] at ho
    exact ho
  · rw [h2, splitG_cut (hb (by omega)) rfl, List.append_assoc]
    rfl
  · have : k = n := by omega
    subst this
    rw [h2, splitG_last hl]
set_option maxHeartbeats 2000000 in
set_option maxRecDepth 100000 in
theorem split_any (s : ByteArray) (c : UInt8) (w : World) (hn : s.size ≤ 1000000) :
    Calls Tryd.prog 29 #[.string s, .int .u8 (c.toNat : Int)] w (SplitR w (splitL c s.data.toList)) := by
  obtain ⟨i9, hi, hz0, hz1, hz2⟩ := info_parts info9
  have HL : Hid (s.data.toList.length = s.size) := Lib.hid rfl
  go_enter Tryd.func29, Tryd.ntmps29
  go_wp2
  go_loopw [5, 6, 7] (fun out fr i wr => ∃ k F T, k ≤ s.size + 1 ∧ i = .int .i64 (k : Nat) ∧ PI w s.data.toList c s.size k F out fr wr T) (fun _ _ i _ => s.size + 1 - (intOf i).toNat)
  case atStart => exact ⟨0, 0, [], Nat.zero_le _, rfl, rfl, World.ownsRow_nil _ _ _ _, fun _ => ⟨Nat.le_refl _, by simp [splitL]⟩, fun h => by omega, Nat.zero_le _, Below.refl _ _⟩
  case round =>
    obtain ⟨k, F, T, hk, rfl, hI⟩ := hrel
    have hfr := hI.fr
    subst hfr
    have hws := hI.bel.size
    have hfew := hI.few
    have HI := Lib.hid hI
    clear hI
    by_cases hlt : k ≤ s.size
    · have hF := (HI.out.go hlt).1
      by_cases hkn : k < s.size
      · have hb : s.data.toList[k]? = some s[k] := List.getElem?_eq_getElem hkn
        by_cases hc : s[k] = c
        · have HB := Lib.hid hb
          have HC := Lib.hid hc
          have ec : ((s[k].toNat : Int) == (c.toNat : Int)) = true := by rw [hc]; simp
          clear hb hc
          go_wp2_with (at_builtin; refine wpList_append_own _ rfl _ _ 68 rfl w.heap.size 9 i9 (.string ⟨#[]⟩) 1 16 Tryd.underlying68 hi hz0 hz1 hz2 rfl (by decide) _ _ _ rfl (HI.out.told.alloc _) ⟨wr.heap.size, 0, none⟩ 1 1 [.string (s.extract F k)] rfl rfl (one_cell _ _ _) (by simp [Value.oneCell']) (by unfold maxLen; omega) (by omega) (by show w.heap.size ≤ (wr.heap.push _).size; simp; omega) ?_; intro v' w5 hown5 hg5 _)
          go_roundw
          case rel => exact ⟨k + 1, k + 1, _, by omega, by go_num, HI.out.push HL.out hlt (fun _ => by rw [HB.out, HC.out]) hown5 ((HI.out.bel.alloc hws _).grown hg5 (by show w.heap.size ≤ (wr.heap.push _).size; simp; omega) (fun g hg => (HI.out.told.lt g hg).1))⟩
          case measure => simp [intOf]; omega
        · have HB := Lib.hid hb
          have HC := Lib.hid hc
          have ec : ((s[k].toNat : Int) == (c.toNat : Int)) = false := by rw [beq_eq_false_iff_ne]; intro h; exact hc (UInt8.toNat_inj.1 (by omega))
          clear hb hc
          go_wp2
          go_roundw
          case rel => exact ⟨k + 1, F, T, by omega, by go_num, HI.out.skip HL.out HB.out HC.out⟩
          case measure => simp [intOf]; omega
      · obtain rfl : k = s.size := by omega
        go_wp2_with (at_builtin; refine wpList_append_own _ rfl _ _ 68 rfl w.heap.size 9 i9 (.string ⟨#[]⟩) 1 16 Tryd.underlying68 hi hz0 hz1 hz2 rfl (by decide) _ _ _ rfl (HI.out.told.alloc _) ⟨wr.heap.size, 0, none⟩ 1 1 [.string (s.extract F s.size)] rfl rfl (one_cell _ _ _) (by simp [Value.oneCell']) (by unfold maxLen; omega) (by omega) (by show w.heap.size ≤ (wr.heap.push _).size; simp; omega) ?_; intro v' w5 hown5 hg5 _)
        go_roundw
        case rel => exact ⟨s.size + 1, s.size + 1, _, by omega, by go_num, HI.out.push HL.out hlt (fun h => by omega) hown5 ((HI.out.bel.alloc hws _).grown hg5 (by show w.heap.size ≤ (wr.heap.push _).size; simp; omega) (fun g hg => (HI.out.told.lt g hg).1))⟩
        case measure => simp [intOf]
    · obtain rfl : k = s.size + 1 := by omega
      have HE := Lib.hid (HI.out.done (by omega))
      go_wp2
      go_ret
      exact ⟨_, rfl, by rw [HE.out]; exact HI.out.told, HI.out.bel⟩
end Go.Proofs.YtepfeekfglpjoaaDoor

namespace Go.Proofs.YtepfeekfglpjoaaDoor
open Go.RowKit Go.Lib Go.Tx
theorem labelB_letters (l : List UInt8) : labelB l = (decide (l.length ≤ 63) && lettersB [45, 95] l) := by
  unfold labelB lettersB
  have : (l.all fun b => sign b.toNat) = l.all fun b => alnum b.toNat || [45, 95].any fun m => b == m := by
    congr 1
    funext b
    unfold sign alnum
    have e1 : (b == 45) = decide (b.toNat = 45) := by
      by_cases h : b = 45
      · subst h; rfl
      · rw [beq_eq_false_iff_ne.2 h, decide_eq_false (fun e => h (UInt8.toNat_inj.1 (by rw [e]; rfl)))]
    have e2 : (b == 95) = decide (b.toNat = 95) := by
      by_cases h : b = 95
      · subst h; rfl
      · rw [beq_eq_false_iff_ne.2 h, decide_eq_false (fun e => h (UInt8.toNat_inj.1 (by rw [e]; rfl)))]
    simp only [List.any_cons, List.any_nil, Bool.or_false, e1, e2]
    rw [Bool.eq_iff_iff]
    simp
    omega
  rw [this]
  generalize (l.all fun b => alnum b.toNat || [45, 95].any fun m => b == m) = X
  cases X <;> by_cases h : l = [] <;> simp [h]
theorem suffix46 (s : ByteArray) (k : Nat) (hk : s.size = k + 1) (hlt : k < s.size) : hasSuffix s.data.toList [46] = decide (s[k] = 46) ∧ s.data.toList.take k = (s.extract 0 k).data.toList := by
  refine ⟨?_, (extract_from_zero s k).symm⟩
  have hl : s.data.toList.length = k + 1 := hk
  have e : s.data.toList = s.data.toList.take k ++ [s[k]] := by
    have hd : s.data.toList.drop k = [s[k]] := by
      rw [List.drop_eq_getElem_cons (by omega), List.drop_of_length_le (by omega)]
      rfl
    rw [← hd, List.take_append_drop]
  rw [e]
  generalize s[k] = b
  generalize s.data.toList.take k = t
  unfold hasSuffix
  by_cases h : b = 46
  · subst h
    simp
  · have : ¬ ([46] : List UInt8) <:+ t ++ [b] := by
      rintro ⟨u, hu⟩
      have := List.append_inj_right' hu rfl
      simp at this
      exact h this.symm
    rw [decide_eq_false h]
    cases hc : ([46] : List UInt8).isSuffixOf (t ++ [b]) with
    | false => rfl
    | true => exact absurd (List.isSuffixOf_iff_suffix.1 hc) this
theorem strC_at {B : Nat} {w : World} {v : Value} {ws : List (List UInt8)} (h : StrC B w v ws) (h1 : 1 ≤ ws.length) : ∃ g c, v = .slice (some ⟨g, 0, none⟩) ws.length c ∧ TextsAt w g c ws := by
  obtain ⟨p, c, rfl, hc, hm, hr⟩ := h.read
  obtain ⟨g, rfl, hg, _⟩ := hr 0 ws[0] (List.getElem?_eq_getElem (by omega))
  refine ⟨g, c, rfl, hg, hc, hm, fun i l hi => ?_⟩
  obtain ⟨g', e, _, h3⟩ := hr i l hi
  cases e
  exact h3
theorem all_tillL {p : List UInt8 → Bool} (l : List (List UInt8)) (k : Nat) (hk : l.length ≤ k) (h : ∀ j b, j < k → l[j]? = some b → p b = true) : l.all p = true := by
  rw [List.all_eq_true]
  intro b hb
  obtain ⟨j, hj, rfl⟩ := List.getElem_of_mem hb
  exact h j _ (by omega) (List.getElem?_eq_getElem hj)
theorem all_notL {p : List UInt8 → Bool} (l : List (List UInt8)) (k : Nat) (b : List UInt8) (hk : l[k]? = some b) (h : p b = false) : l.all p = false := by
  rw [List.all_eq_false]
  exact ⟨b, List.mem_of_getElem? hk, by simp [h]⟩
set_option maxHeartbeats 2000000 in
set_option maxRecDepth 100000 in
theorem rclean_any (s : ByteArray) (w : World) (hs : s.size ≤ 1000000) : Calls Tryd.prog 28 #[.string s] w fun e w' => e = .returned (cleanV s.data.toList) ∧ Below w.heap.size w w' := by
  by_cases h0 : 0 < s.size
  · obtain ⟨k, hk⟩ : ∃ k, s.size = k + 1 := ⟨s.size - 1, by omega⟩
    have hlt : k < s.size := by omega
    have hki : (s.size : Int) - 1 = (k : Int) := by omega
    have hkc : (s.size : Int) = (k : Int) + 1 := by omega
    obtain ⟨e1, e2⟩ := suffix46 s k hk hlt
    by_cases hd : s[k] = 46
    · have hroot : isRoot s.data.toList = true := by unfold isRoot; rw [e1, hd]; rfl
      have hbare : bare s.data.toList = (s.extract 0 k).data.toList := by
        unfold bare trimSuffix
        have : s.data.toList.length = k + 1 := hk
        rw [e1, hd, if_pos (by decide), ← e2, this]
        rfl
      have hNs : (s.extract 0 k).size = k := by simp [ByteArray.size_extract]; omega
      clear e1 e2
      obtain ⟨F, hF⟩ : ∃ F : ByteArray, ⟨((s.extract 0 k).data.toList.map low).toArray⟩ = F := ⟨_, rfl⟩
      have HV : Hid (cleanV s.data.toList = if nameB (s.extract 0 k).data.toList = true then .tuple #[.string F, .bool true, .bool true] else .tuple #[.string ⟨#[]⟩, .bool false, .bool false]) := Lib.hid (by unfold cleanV; rw [hbare, hroot, hF])
      have hnl : (s.extract 0 k).data.toList.length = (s.extract 0 k).size := rfl
      have HNB : Hid (∀ b, (s.extract 0 k).size ≤ 253 → (splitL 46 (s.extract 0 k).data.toList).all labelB = b → nameB (s.extract 0 k).data.toList = b) := Lib.hid (fun b h1 h2 => by unfold nameB; rw [h2, hnl, decide_eq_true h1, Bool.true_and])
      have HNL : Hid ((s.extract 0 k).size < 1 ∨ 253 < (s.extract 0 k).size → nameB (s.extract 0 k).data.toList = false) := Lib.hid (fun h => by
        rcases h with h | h
        · have : (s.extract 0 k).data.toList = [] := List.eq_nil_of_length_eq_zero (by omega)
          rw [this]; decide
        · unfold nameB; rw [hnl, decide_eq_false (by omega), Bool.false_and])
      have HSp : Hid (∀ w, Calls Tryd.prog 29 #[.string (s.extract 0 k), .int .u8 46] w (SplitR w (splitL 46 (s.extract 0 k).data.toList))) := Lib.hid (fun w => split_any (s.extract 0 k) 46 w (by omega))
      have HF : Hid (∀ w, Calls Tryd.prog 42 #[.string (s.extract 0 k)] w fun e w' => e = .returned (.string F) ∧ Below w.heap.size w w') := Lib.hid (fun w => by have := rfold_any (s.extract 0 k) w (by unfold maxLen; omega); rw [hF] at this; exact this)
      have HS1 := Lib.hid (splitG_len 46 (s.extract 0 k).data.toList [])
      have HS2 : Hid (∀ x, x ∈ splitL 46 (s.extract 0 k).data.toList → x.length ≤ 1000000) := Lib.hid (fun x hx => by have := splitG_mem 46 _ _ _ hx; simp only [List.length_nil] at this; omega)
      clear hbare hroot hnl hF
      have HT1 : Hid (1 ≤ (splitL 46 (s.extract 0 k).data.toList).length ∧ (splitL 46 (s.extract 0 k).data.toList).length ≤ (s.extract 0 k).data.toList.length + 1) := Lib.hid HS1.out
      clear HS1
      generalize HT0 : splitL 46 (s.extract 0 k).data.toList = T at *
      clear HT0
      go_enter Tryd.func28, Tryd.ntmps28
      go_wp2_with (go_at_call 29; refine (HSp.out _).mono ?_; rintro e w2 ⟨v, rfl, hstr, hb2⟩; obtain ⟨g, c, rfl, hta⟩ := strC_at hstr HT1.out.1; have HTA := Lib.hid hta; have hcap := hta.fits; have hmax := hta.max; have HL := Lib.hid HT1.out.2; clear hta hstr)
      all_goals first
        | (go_ret3; exact ⟨by rw [HV.out, if_neg (by rw [HNL.out (by omega)]; decide)]; rfl, Below.refl _ _⟩)
        | skip
      go_loopw [8] (fun i wr => ∃ k : Nat, k ≤ T.length ∧ i = .int .i64 k ∧ Below w2.heap.size w2 wr ∧ Hid (∀ j b, j < k → T[j]? = some b → labelB b = true)) (fun i _ => T.length - (intOf i).toNat)
      case atStart => exact ⟨0, Nat.zero_le _, rfl, Below.refl _ _, Lib.hid (by omega)⟩
      case round =>
        obtain ⟨q, hq, rfl, hbel, hall⟩ := hrel
        by_cases hql : q < T.length
        · have hcell := (HTA.out.below hbel).cell q T[q] (List.getElem?_eq_getElem hql)
          have HK := Lib.hid (List.getElem?_eq_getElem hql)
          have htl := HS2.out T[q] (List.getElem_mem hql)
          generalize T[q] = t at hcell HK htl
          have hts : (ByteArray.mk t.toArray).size = t.length := by show t.toArray.size = _; simp
          have HLT := Lib.hid (fun w => letters_any ⟨t.toArray⟩ ⟨#[45, 95]⟩ w (by omega) (by decide))
          have HLB := Lib.hid (labelB_letters t)
          by_cases h63 : 63 < t.length
          · have hb : labelB t = false := by rw [HLB.out, decide_eq_false (by omega), Bool.false_and]
            have HNo := Lib.hid (all_notL T q t HK.out hb)
            clear hb
            go_wp2
            go_ret3
            exact ⟨by rw [HV.out, if_neg (by rw [HNB.out false (by omega) HNo.out]; decide)]; rfl, hb2.trans (hbel.mono hb2.size)⟩
          · have hb : labelB t = lettersB [45, 95] t := by rw [HLB.out, decide_eq_true (by omega), Bool.true_and]
            have HEq := Lib.hid hb
            clear hb
            cases hlb : labelB t with
            | false =>
              have HNo := Lib.hid (all_notL T q t HK.out hlb)
              have HLF : Hid (lettersB [45, 95] t = false) := Lib.hid (by rw [← HEq.out, hlb])
              clear hlb
              go_wp2_with (go_at_call 41; refine (HLT.out _).mono ?_; rw [show lettersB (ByteArray.data ⟨#[45, 95]⟩).toList (ByteArray.data ⟨t.toArray⟩).toList = false from HLF.out]; rintro e w3 ⟨rfl, rfl⟩)
              go_ret3
              exact ⟨by rw [HV.out, if_neg (by rw [HNB.out false (by omega) HNo.out]; decide)]; rfl, hb2.trans (hbel.mono hb2.size)⟩
            | true =>
              have HB := Lib.hid hlb
              have HLF : Hid (lettersB [45, 95] t = true) := Lib.hid (by rw [← HEq.out, hlb])
              clear hlb
              go_wp2_with (go_at_call 41; refine (HLT.out _).mono ?_; rw [show lettersB (ByteArray.data ⟨#[45, 95]⟩).toList (ByteArray.data ⟨t.toArray⟩).toList = true from HLF.out]; rintro e w3 ⟨rfl, rfl⟩)
              go_roundw
              case rel => exact ⟨q + 1, hql, by go_num, hbel, Lib.hid (by
                intro j d hj hd
                by_cases e : j = q
                · subst e
                  have := HK.out
                  rw [this] at hd
                  cases hd
                  exact HB.out
                · exact hall.out j d (by omega) hd)⟩
              case measure => simp [intOf]; omega
        · have HYes := Lib.hid (all_tillL T q (by omega) hall.out)
          go_wp2_with (go_at_call 42; refine (HF.out _).mono ?_; rintro e w3 ⟨rfl, hb3⟩)
          go_ret3
          have hb4 := hb2.trans (hbel.mono hb2.size)
          exact ⟨by rw [HV.out, if_pos (HNB.out true (by omega) HYes.out)]; rfl, hb4.trans (hb3.mono hb4.size)⟩
    · have hroot : isRoot s.data.toList = false := by unfold isRoot; rw [e1]; exact decide_eq_false hd
      have hbare : bare s.data.toList = s.data.toList := by
        unfold bare trimSuffix
        rw [e1, if_neg (by simpa using hd)]
      have hne : ¬ (s[k].toNat : Int) = 46 := fun e => hd (UInt8.toNat_inj.1 (by show s[k].toNat = 46; omega))
      clear e1 e2 hd
      obtain ⟨F, hF⟩ : ∃ F : ByteArray, ⟨((s).data.toList.map low).toArray⟩ = F := ⟨_, rfl⟩
      have HV : Hid (cleanV s.data.toList = if nameB (s).data.toList = true then .tuple #[.string F, .bool false, .bool true] else .tuple #[.string ⟨#[]⟩, .bool false, .bool false]) := Lib.hid (by unfold cleanV; rw [hbare, hroot, hF])
      have hnl : (s).data.toList.length = (s).size := rfl
      have HNB : Hid (∀ b, (s).size ≤ 253 → (splitL 46 (s).data.toList).all labelB = b → nameB (s).data.toList = b) := Lib.hid (fun b h1 h2 => by unfold nameB; rw [h2, hnl, decide_eq_true h1, Bool.true_and])
      have HNL : Hid ((s).size < 1 ∨ 253 < (s).size → nameB (s).data.toList = false) := Lib.hid (fun h => by
        rcases h with h | h
        · have : (s).data.toList = [] := List.eq_nil_of_length_eq_zero (by omega)
          rw [this]; decide
        · unfold nameB; rw [hnl, decide_eq_false (by omega), Bool.false_and])
      have HSp : Hid (∀ w, Calls Tryd.prog 29 #[.string (s), .int .u8 46] w (SplitR w (splitL 46 (s).data.toList))) := Lib.hid (fun w => split_any (s) 46 w (by omega))
      have HF : Hid (∀ w, Calls Tryd.prog 42 #[.string (s)] w fun e w' => e = .returned (.string F) ∧ Below w.heap.size w w') := Lib.hid (fun w => by have := rfold_any (s) w (by unfold maxLen; omega); rw [hF] at this; exact this)
      have HS1 := Lib.hid (splitG_len 46 (s).data.toList [])
      have HS2 : Hid (∀ x, x ∈ splitL 46 (s).data.toList → x.length ≤ 1000000) := Lib.hid (fun x hx => by have := splitG_mem 46 _ _ _ hx; simp only [List.length_nil] at this; omega)
      clear hbare hroot hnl hF
      have HT1 : Hid (1 ≤ (splitL 46 (s).data.toList).length ∧ (splitL 46 (s).data.toList).length ≤ (s).data.toList.length + 1) := Lib.hid HS1.out
      clear HS1
      generalize HT0 : splitL 46 (s).data.toList = T at *
      clear HT0
      go_enter Tryd.func28, Tryd.ntmps28
      go_wp2_with (go_at_call 29; refine (HSp.out _).mono ?_; rintro e w2 ⟨v, rfl, hstr, hb2⟩; obtain ⟨g, c, rfl, hta⟩ := strC_at hstr HT1.out.1; have HTA := Lib.hid hta; have hcap := hta.fits; have hmax := hta.max; have HL := Lib.hid HT1.out.2; clear hta hstr)
      all_goals first
        | (go_ret3; exact ⟨by rw [HV.out, if_neg (by rw [HNL.out (by omega)]; decide)]; rfl, Below.refl _ _⟩)
        | skip
      go_loopw [8] (fun i wr => ∃ k : Nat, k ≤ T.length ∧ i = .int .i64 k ∧ Below w2.heap.size w2 wr ∧ Hid (∀ j b, j < k → T[j]? = some b → labelB b = true)) (fun i _ => T.length - (intOf i).toNat)
      case atStart => exact ⟨0, Nat.zero_le _, rfl, Below.refl _ _, Lib.hid (by omega)⟩
      case round =>
        obtain ⟨q, hq, rfl, hbel, hall⟩ := hrel
        by_cases hql : q < T.length
        · have hcell := (HTA.out.below hbel).cell q T[q] (List.getElem?_eq_getElem hql)
          have HK := Lib.hid (List.getElem?_eq_getElem hql)
          have htl := HS2.out T[q] (List.getElem_mem hql)
          generalize T[q] = t at hcell HK htl
          have hts : (ByteArray.mk t.toArray).size = t.length := by show t.toArray.size = _; simp
          have HLT := Lib.hid (fun w => letters_any ⟨t.toArray⟩ ⟨#[45, 95]⟩ w (by omega) (by decide))
          have HLB := Lib.hid (labelB_letters t)
          by_cases h63 : 63 < t.length
          · have hb : labelB t = false := by rw [HLB.out, decide_eq_false (by omega), Bool.false_and]
            have HNo := Lib.hid (all_notL T q t HK.out hb)
            clear hb
            go_wp2
            go_ret3
            exact ⟨by rw [HV.out, if_neg (by rw [HNB.out false (by omega) HNo.out]; decide)]; rfl, hb2.trans (hbel.mono hb2.size)⟩
          · have hb : labelB t = lettersB [45, 95] t := by rw [HLB.out, decide_eq_true (by omega), Bool.true_and]
            have HEq := Lib.hid hb
            clear hb
            cases hlb : labelB t with
            | false =>
              have HNo := Lib.hid (all_notL T q t HK.out hlb)
              have HLF : Hid (lettersB [45, 95] t = false) := Lib.hid (by rw [← HEq.out, hlb])
              clear hlb
              go_wp2_with (go_at_call 41; refine (HLT.out _).mono ?_; rw [show lettersB (ByteArray.data ⟨#[45, 95]⟩).toList (ByteArray.data ⟨t.toArray⟩).toList = false from HLF.out]; rintro e w3 ⟨rfl, rfl⟩)
              go_ret3
              exact ⟨by rw [HV.out, if_neg (by rw [HNB.out false (by omega) HNo.out]; decide)]; rfl, hb2.trans (hbel.mono hb2.size)⟩
            | true =>
              have HB := Lib.hid hlb
              have HLF : Hid (lettersB [45, 95] t = true) := Lib.hid (by rw [← HEq.out, hlb])
              clear hlb
              go_wp2_with (go_at_call 41; refine (HLT.out _).mono ?_; rw [show lettersB (ByteArray.data ⟨#[45, 95]⟩).toList (ByteArray.data ⟨t.toArray⟩).toList = true from HLF.out]; rintro e w3 ⟨rfl, rfl⟩)
              go_roundw
              case rel => exact ⟨q + 1, hql, by go_num, hbel, Lib.hid (by
                intro j d hj hd
                by_cases e : j = q
                · subst e
                  have := HK.out
                  rw [this] at hd
                  cases hd
                  exact HB.out
                · exact hall.out j d (by omega) hd)⟩
              case measure => simp [intOf]; omega
        · have HYes := Lib.hid (all_tillL T q (by omega) hall.out)
          go_wp2_with (go_at_call 42; refine (HF.out _).mono ?_; rintro e w3 ⟨rfl, hb3⟩)
          go_ret3
          have hb4 := hb2.trans (hbel.mono hb2.size)
          exact ⟨by rw [HV.out, if_pos (HNB.out true (by omega) HYes.out)]; rfl, hb4.trans (hb3.mono hb4.size)⟩
  · have h1 : s = ⟨#[]⟩ := by
      have : s.data.toList = [] := List.eq_nil_of_length_eq_zero (by show s.size = 0; omega)
      cases s; simp at this; simp [this]
    subst h1
    have HV : cleanV ([] : List UInt8) = .tuple #[.string ⟨#[]⟩, .bool false, .bool false] := by unfold cleanV; rw [if_neg (by decide)]
    have HV := Lib.hid HV
    go_enter Tryd.func28, Tryd.ntmps28
    go_wp2
    all_goals (go_ret3; exact ⟨by first | (rw [HV.out]; rfl) | exact congrArg Ending.returned HV.out.symm, Below.refl _ _⟩)
end Go.Proofs.YtepfeekfglpjoaaDoor

namespace Go.Wi
/-- Two bytes as a number. -/
def nmV (l : List UInt8) (i : Int) : Int := if 0 ≤ i ∧ i + 2 ≤ l.length then (numV (tk l i.toNat 2) : Int) else -1
end Go.Wi
namespace Go.Proofs.YtepfeekfglpjoaaDoor
open Go.RowKit Go.Lib Go.Wi Go.Tx
theorem below_drawn (w : World) : ∀ n, Below w.heap.size w (w.drewN n)
  | 0 => Below.refl _ _
  | n + 1 => (below_drawn w n).drew
theorem num_pair {l : List UInt8} {i : Nat} {x y : UInt8} (h : l[i]? = some x) (h2 : l[i + 1]? = some y) : numV (tk l i 2) = x.toNat * 256 + y.toNat := by
  have hi := (List.getElem?_eq_some_iff.1 h).1
  have hi2 := (List.getElem?_eq_some_iff.1 h2).1
  have e : tk l i 2 = [x, y] := by
    unfold tk
    rw [List.drop_eq_getElem_cons hi, List.take_succ_cons, List.drop_eq_getElem_cons hi2, List.take_succ_cons, List.take_zero]
    rw [List.getElem?_eq_getElem hi] at h
    rw [List.getElem?_eq_getElem hi2] at h2
    cases h; cases h2
    rfl
  rw [e]
  simp [numV]
theorem nm_any (w : World) (a : Option Addr) (n c : Nat) (l : List UInt8) (i : Int) (h : Go.Wi.BA w a n c l) (_hn : n ≤ 100000) (hi : -1000000 ≤ i ∧ i ≤ 1000000) :
    Calls Tryd.prog 24 #[.slice a n c, .int .i64 i] w fun e w' => e = .returned (.int .i64 (nmV l i)) ∧ Below w.heap.size w w' := by
  have hcap := h.cap
  have hmax := h.max
  have HL := Lib.hid h.len
  by_cases h0 : 0 ≤ i
  · obtain ⟨k, rfl⟩ : ∃ k : Nat, i = k := ⟨i.toNat, by omega⟩
    by_cases h2 : k + 2 ≤ n
    · obtain ⟨x, hx⟩ : ∃ x, l[k]? = some x := ⟨_, List.getElem?_eq_getElem (by rw [HL.out]; omega)⟩
      obtain ⟨y, hy⟩ : ∃ y, l[k + 1]? = some y := ⟨_, List.getElem?_eq_getElem (by rw [HL.out]; omega)⟩
      have HV : Hid (nmV l (k : Int) = ((x.toNat * 256 + y.toNat : Nat) : Int)) := Lib.hid (by
        unfold nmV
        rw [if_pos ⟨by omega, by rw [HL.out]; omega⟩, Int.toNat_natCast, num_pair hx hy])
      cases a with
      | none => have := h.none rfl; omega
      | some ad =>
        have c0 := h.cell ad rfl k x hx
        have c1 := h.cell ad rfl (k + 1) y hy
        have b0 : (k : Int) < (n : Int) := by omega
        have b1 : (k : Int) + 1 < (n : Int) := by omega
        have b2 : ¬ (n : Int) < (k : Int) + 2 := by omega
        have b3 : decide ((n : Int) < (k : Int) + 2) = false := decide_eq_false b2
        have hxl := x.toNat_lt
        have hyl := y.toNat_lt
        have p0 : (0 : Int) ≤ (k : Int) := by omega
        have p1 : (0 : Int) ≤ (k : Int) + 1 := by omega
        have t1 : ((k : Int) + 1).toNat = k + 1 := by omega
        have hw1 : RowKit.wrap64 ((k : Int) + 1) = (k : Int) + 1 := IntWalk.wrap64_in _ (by omega)
        have hw2 : IntKind.i64.wrap ((k : Int) + 1) = (k : Int) + 1 := wrap_small _ (by omega) (by omega)
        have c2 : w.cell? { block := ad.block, off := ad.off + (k + 1) } = some (.int .u8 (y.toNat : Int)) := by
          have e : ad.add (k + 1) = { block := ad.block, off := ad.off + (k + 1) } := by unfold Addr.add; simp
          rw [← e]; exact c1
        clear h hx hy t1
        go_enter Tryd.func24, Tryd.ntmps24
        go_wp2
        go_quiet (fail)
        go_wp2
        go_ret
        exact ⟨by rw [HV.out, Int.natCast_add, Int.natCast_mul]; rfl, below_drawn _ _⟩
    · have HV : Hid (nmV l (k : Int) = -1) := Lib.hid (by unfold nmV; rw [if_neg (by rw [HL.out]; omega)])
      have b2 : (n : Int) < (k : Int) + 2 := by omega
      have b3 : decide ((n : Int) < (k : Int) + 2) = true := decide_eq_true b2
      have hk2 : k ≤ 1000000 := by omega
      clear h
      go_enter Tryd.func24, Tryd.ntmps24
      go_wp2
      go_ret
      exact ⟨by rw [HV.out]; rfl, Below.refl _ _⟩
  · have HV : Hid (nmV l i = -1) := Lib.hid (by unfold nmV; rw [if_neg (fun h => h0 h.1)])
    have b2 : i < 0 := by omega
    have b3 : decide (i < 0) = true := decide_eq_true b2
    clear h h0
    go_enter Tryd.func24, Tryd.ntmps24
    go_wp2
    go_ret
    exact ⟨by rw [HV.out]; rfl, Below.refl _ _⟩
theorem rdots_any (s : ByteArray) (w : World) (hs : s.size ≤ 1000000) : Calls Tryd.prog 40 #[.string s] w fun e w' => e = .returned (.int .i64 (countByte s.data.toList 46)) ∧ Below w.heap.size w w' := by
  have HSp := Lib.hid (split_any s 46 w hs)
  have HL : Hid (((splitL 46 s.data.toList).length : Int) - 1 = (countByte s.data.toList 46 : Int)) := Lib.hid (by
    have h1 := split_count s 46
    have h2 : countB s ⟨#[46]⟩ = count s.data.toList [46] := rfl
    rw [h2, count_one] at h1
    unfold countByte
    omega)
  have HP := Lib.hid (splitG_len 46 s.data.toList [])
  have hl : s.data.toList.length = s.size := rfl
  have hle : (splitL 46 s.data.toList).length ≤ 1000001 := by have := HP.out.2; unfold splitL; omega
  have HP1 : Hid (1 ≤ (splitL 46 s.data.toList).length) := Lib.hid HP.out.1
  clear HP hl hs
  generalize splitL 46 s.data.toList = T at *
  go_enter Tryd.func40, Tryd.ntmps40
  go_wp2_with (go_at_call 29; refine HSp.out.mono ?_; rintro e w2 ⟨v, rfl, hstr, hb2⟩; obtain ⟨g, c, rfl, hta⟩ := strC_at hstr HP1.out; have hcap := hta.fits; have hmax := hta.max; clear hta hstr)
  go_ret
  exact ⟨by rw [← HL.out]; rfl, hb2⟩
/-- Is it a name as Clean has it? -/
def cleanB (l : List UInt8) : Bool := nameB (bare l) && !isRoot l && decide ((bare l).map low = l)
theorem rclean5_any (s : ByteArray) (w : World) (hs : s.size ≤ 1000000) : Calls Tryd.prog 27 #[.string s] w fun e w' => e = .returned (.bool (cleanB s.data.toList)) ∧ Below w.heap.size w w' := by
  have HC := Lib.hid (rclean_any s w hs)
  cases hn : nameB (bare s.data.toList) with
  | false =>
    have hv : cleanV s.data.toList = .tuple #[.string ⟨#[]⟩, .bool false, .bool false] := by unfold cleanV; rw [if_neg (by rw [hn]; decide)]
    have HV : Hid (cleanB s.data.toList = false) := Lib.hid (by unfold cleanB; rw [hn]; rfl)
    rw [hv] at HC
    clear hv hn
    go_enter Tryd.func27, Tryd.ntmps27
    go_wp2_with (go_at_call 28; refine HC.out.mono ?_; rintro e w2 ⟨rfl, hb⟩)
    go_ret
    exact ⟨by rw [HV.out]; rfl, hb⟩
  | true =>
    obtain ⟨m, hm⟩ : ∃ m : ByteArray, (⟨((bare s.data.toList).map low).toArray⟩ : ByteArray) = m := ⟨_, rfl⟩
    have hmd : m.data.toList = (bare s.data.toList).map low := by rw [← hm]
    obtain ⟨r, hr⟩ : ∃ r, isRoot s.data.toList = r := ⟨_, rfl⟩
    have hv : cleanV s.data.toList = .tuple #[.string m, .bool r, .bool true] := by unfold cleanV; rw [if_pos hn, hm, hr]
    have HV : Hid (cleanB s.data.toList = (!r && decide (m.data.toList = s.data.toList))) := Lib.hid (by unfold cleanB; rw [hn, hr, hmd]; rfl)
    rw [hv] at HC
    have hq : (m.toList == s.toList) = decide (m.data.toList = s.data.toList) := by
      rw [toList_data, toList_data]
      by_cases h : m.data.toList = s.data.toList
      · rw [h]; simp
      · rw [decide_eq_false h, beq_eq_false_iff_ne]; exact h
    clear hv hn hm hmd hr
    cases r with
    | true =>
      go_enter Tryd.func27, Tryd.ntmps27
      go_wp2_with (go_at_call 28; refine HC.out.mono ?_; rintro e w2 ⟨rfl, hb⟩)
      go_ret
      exact ⟨by rw [HV.out]; rfl, hb⟩
    | false =>
      generalize decide (m.data.toList = s.data.toList) = bq at hq HV
      go_enter Tryd.func27, Tryd.ntmps27
      go_wp2_with (go_at_call 28; refine HC.out.mono ?_; rintro e w2 ⟨rfl, hb⟩)
      go_ret
      exact ⟨by rw [HV.out]; simp, hb⟩
end Go.Proofs.YtepfeekfglpjoaaDoor

namespace Go.Proofs.YtepfeekfglpjoaaDoor
open Go.RowKit Go.Lib Go.Wi Go.Tx
def fineB (k : Int) (d : List UInt8) : Bool := if k = 1 then decide (d.length = 4) else if k = 28 then decide (d.length = 16) else if k = 12 then cleanB d else decide (d.length ≤ 256)
theorem fine_any (m d : ByteArray) (k v : Int) (w : World) (hd : d.size ≤ 1000000) :
    Calls Tryd.prog 26 #[.agg #[.string m, .int .i64 k, .int .i64 v, .string d]] w fun e w' => e = .returned (.bool (fineB k d.data.toList)) ∧ Below w.heap.size w w' := by
  have hl : d.data.toList.length = d.size := rfl
  have hbl : ∀ (e : TypeId) (cs : Array Value), Below w.heap.size w (w.alloc (.cells cs e)) := fun e cs => (Below.refl _ _).alloc (Nat.le_refl _) _
  have HBL := Lib.hid hbl
  clear hbl
  by_cases h1 : k = 1
  · have HV : Hid (fineB k d.data.toList = decide (d.size = 4)) := Lib.hid (by unfold fineB; rw [if_pos h1, hl])
    have HE : Hid (((d.size : Int) == 4) = decide (d.size = 4)) := Lib.hid (by by_cases h : d.size = 4 <;> simp [h] <;> omega)
    subst h1
    clear hl
    go_enter Tryd.func26, Tryd.ntmps26
    go_wp2
    go_ret
    exact ⟨by rw [HV.out, ← HE.out]; rfl, HBL.out _ _⟩
  by_cases h2 : k = 28
  · have HV : Hid (fineB k d.data.toList = decide (d.size = 16)) := Lib.hid (by unfold fineB; rw [if_neg h1, if_pos h2, hl])
    have HE : Hid (((d.size : Int) == 16) = decide (d.size = 16)) := Lib.hid (by by_cases h : d.size = 16 <;> simp [h] <;> omega)
    subst h2
    clear hl h1
    go_enter Tryd.func26, Tryd.ntmps26
    go_wp2
    go_ret
    exact ⟨by rw [HV.out, ← HE.out]; rfl, HBL.out _ _⟩
  by_cases h3 : k = 12
  · have HV : Hid (fineB k d.data.toList = cleanB d.data.toList) := Lib.hid (by unfold fineB; rw [if_neg h1, if_neg h2, if_pos h3])
    have HC := Lib.hid (fun W => rclean5_any d W hd)
    subst h3
    clear hl h1 h2
    generalize cleanB d.data.toList = b at HV HC
    go_enter Tryd.func26, Tryd.ntmps26
    go_wp2_with (go_at_call 27; refine (HC.out _).mono ?_; rintro e w2 ⟨rfl, hb⟩)
    go_ret
    exact ⟨by rw [HV.out]; rfl, (HBL.out _ _).trans (hb.mono (HBL.out _ _).size)⟩
  · have HV : Hid (fineB k d.data.toList = decide (d.size ≤ 256)) := Lib.hid (by unfold fineB; rw [if_neg h1, if_neg h2, if_neg h3, hl])
    have HE : Hid (decide ((d.size : Int) ≤ 256) = decide (d.size ≤ 256)) := Lib.hid (by by_cases h : d.size ≤ 256 <;> simp [h] <;> omega)
    have e1 : (k == 1) = false := by rw [beq_eq_false_iff_ne]; exact h1
    have e2 : (k == 28) = false := by rw [beq_eq_false_iff_ne]; exact h2
    have e3 : (k == 12) = false := by rw [beq_eq_false_iff_ne]; exact h3
    clear hl h1 h2 h3
    go_enter Tryd.func26, Tryd.ntmps26
    go_wp2
    go_ret
    exact ⟨by rw [HV.out, ← HE.out]; rfl, HBL.out _ _⟩
end Go.Proofs.YtepfeekfglpjoaaDoor

