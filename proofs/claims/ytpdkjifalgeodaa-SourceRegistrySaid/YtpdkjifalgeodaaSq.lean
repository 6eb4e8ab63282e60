/- Contracts: the law's own question polled (written by mkSq.py). -/
import Derived.Test.YtpdkjifalgeodaaSp
namespace Go.Proofs.Ytpdkjifalgeodaa
open Go.RowKit Go.Extern.Stop Go.Stop Go.Extern Go.Lib
abbrev zAns : Value := .agg #[.slice none 0 0, .slice none 0 0, .int .i64 0, .int .i64 0]
def zAnsC : Array Value := #[.slice none 0 0, .slice none 0 0, .int .i64 0, .int .i64 0]
/-- The first cells of a question that hears, or does not. -/
def OpCells (cs : Array Value) (d : DefL) (n : Int) : Prop := ∀ (j : Nat) v, (opC d n).toList[j]? = some v → cs[j]? = some v
theorem opCells_op (d : DefL) (n : Int) : OpCells (opC d n) d n := fun j v h => by rw [← Array.getElem?_toList]; exact h
theorem opCells_he (d : DefL) (n h : Int) : OpCells (heC d n h) d n := fun j v hj => by
  have hlt : j < 19 := by
    have := (List.getElem?_eq_some_iff.1 hj).1
    exact this
  unfold heC
  rw [Array.getElem?_push, if_neg (by show ¬ j = 19; omega), ← Array.getElem?_toList]
  exact hj
theorem sz_ans : (Try.prog.info? 25).map (·.size) = some 4 := by kernel_rfl
theorem set4_at {w : World} {b : Nat} {y0 y1 y2 y3 : Value} {t : TypeId} {fr : Nat × Nat} (h : w.heap[b]? = some (.cells #[y0, y1, y2, y3] t fr)) (x0 x1 x2 x3 : Value) : ((((w.setCell ⟨b, 0, none⟩ x0).setCell ⟨b, 1, none⟩ x1).setCell ⟨b, 2, none⟩ x2).setCell ⟨b, 3, none⟩ x3).heap[b]? = some (.cells #[x0, x1, x2, x3] t fr) :=
  setJ (setJ (setJ (setJ h)))
theorem set4_ne {w : World} {b c : Nat} (h : c ≠ b) (x0 x1 x2 x3 : Value) : ((((w.setCell ⟨b, 0, none⟩ x0).setCell ⟨b, 1, none⟩ x1).setCell ⟨b, 2, none⟩ x2).setCell ⟨b, 3, none⟩ x3).heap[c]? = w.heap[c]? :=
  (setN h).trans ((setN h).trans ((setN h).trans (setN h)))
theorem but_set4 {B : Nat} {S : List Nat} {W w : World} (h : ButL B S W w) {b : Nat} (hb : b ∈ S ∨ B ≤ b) (x0 x1 x2 x3 : Value) : ButL B S W ((((w.setCell ⟨b, 0, none⟩ x0).setCell ⟨b, 1, none⟩ x1).setCell ⟨b, 2, none⟩ x2).setCell ⟨b, 3, none⟩ x3) :=
  (((h.set hb _ _).set hb _ _).set hb _ _).set hb _ _
theorem ErrS.but {w w' : World} {c : Int} {R : Nat} {x : Array Value} {t : TypeId} {f : Nat × Nat} (hR : w.heap[R]? = some (.cells x t f)) (ht : t ≠ 79) (hh : ∀ k, k ≠ R → k < w.heap.size → w'.heap[k]? = w.heap[k]?) : ∀ {L : List ByteArray} {v : Value}, ErrS w L c v → ErrS w' L c v
  | [], v, h => h
  | s :: L, v, ⟨b, u, h, hb, hu⟩ => ⟨b, u, h, (hh b (fun e => ne_of_ty hR hb ht e.symm) (lt_of hb)).trans hb, ErrS.but hR ht hh hu⟩
/-- The world behind the counting. -/
structure PollW (w W : World) (b : Nat) (cs : Array Value) (t : TypeId) (d : DefL) (n : Int) : Prop where
  ans : W.heap[w.heap.size]? = some (.cells #[.slice none 0 0, .slice none 0 0, .int .i64 0, .int .i64 0] 25 (0, 0))
  op : W.heap[b]? = some (.cells (cs.setIfInBounds 18 (.int .i64 (n + 1))) t (0, 0))
  at_ : ∀ (j : Nat) v, j < 18 → (defC d).toList[j]? = some v → W.cell? ⟨b, j, none⟩ = some v
  n18 : W.cell? ⟨b, 18, none⟩ = some (.int .i64 (n + 1))
  but : ButL w.heap.size [b] w W
  ne : b ≠ w.heap.size
  size : W.heap.size = w.heap.size + 1
theorem pollW {w : World} {b : Nat} {cs : Array Value} {t : TypeId} {d : DefL} {n : Int} (hb : w.heap[b]? = some (.cells cs t (0, 0))) (hc : OpCells cs d n) :
    PollW w ((w.alloc (.cells #[.slice none 0 0, .slice none 0 0, .int .i64 0, .int .i64 0] 25)).setCell ⟨b, 18, none⟩ (.int .i64 (n + 1))) b cs t d n := by
  have hlt := lt_of hb
  have h1 := al_keep (x := .cells #[.slice none 0 0, .slice none 0 0, .int .i64 0, .int .i64 0] 25) hb
  have h2 := setJ (j := 18) (y := .int .i64 (n + 1)) h1
  have h18 : cs[18]? = some (.int .i64 n) := hc 18 _ rfl
  refine ⟨(setN (by omega)).trans (heap_alloc_new w _), h2, fun j v hj hv => ?_, ?_, ((ButL.of_below (al_bel w _)).set (.inl (List.mem_singleton.2 rfl)) _ _), by omega, by rw [set_size, al_size]⟩
  · refine cellJ h2 ?_
    rw [Array.getElem?_setIfInBounds_ne (by omega)]
    refine hc j v ?_
    unfold opC
    rw [Array.toList_push, List.getElem?_append_left (by show j < 18; exact hj)]
    exact hv
  · refine cellJ h2 ?_
    rw [Array.getElem?_setIfInBounds_self_of_lt (Array.getElem?_eq_some_iff.1 h18).1]
set_option maxHeartbeats 2000000 in
set_option maxRecDepth 100000 in
theorem lpoll_wait (d : DefL) (n : Int) (b : Nat) (cs : Array Value) (t : TypeId) (w : World) (hb : w.heap[b]? = some (.cells cs t (0, 0))) (hc : OpCells cs d n) (h0 : 0 ≤ n) (h1 : n < 1000) (hw : n + 1 ≤ d.polls) :
    Calls Try.prog 93 #[.pointer (some ⟨b, 0, none⟩)] w fun e w' => e = .returned (.tuple #[zAns, .slice none 0 0, .nilIface, .bool false]) ∧ w'.heap[b]? = some (.cells (cs.setIfInBounds 18 (.int .i64 (n + 1))) t (0, 0)) ∧ ButL w.heap.size [b] w w' := by
  have hP := pollW hb hc
  have q18 : (w.alloc (.cells #[.slice none 0 0, .slice none 0 0, .int .i64 0, .int .i64 0] 25)).cell? ⟨b, 18, none⟩ = some (.int .i64 n) := cellJ (al_keep hb) (hc 18 _ rfl)
  have f18 := freeJ (al_keep (x := .cells #[.slice none 0 0, .slice none 0 0, .int .i64 0, .int .i64 0] 25) hb) 18
  obtain ⟨W, hW⟩ : ∃ W, (w.alloc (.cells #[.slice none 0 0, .slice none 0 0, .int .i64 0, .int .i64 0] 25)).setCell ⟨b, 18, none⟩ (.int .i64 (n + 1)) = W := ⟨_, rfl⟩
  rw [hW] at hP
  have HP := Lib.hid hP
  have HW := Lib.hid hW
  have k8 : W.cell? ⟨b, 8, none⟩ = some (.int .i64 d.polls) := hP.at_ 8 _ (by decide) rfl
  have k18 := hP.n18
  have r0 := cellJ HP.out.ans (j := 0) rfl
  have r1 := cellJ HP.out.ans (j := 1) rfl
  have r2 := cellJ HP.out.ans (j := 2) rfl
  have r3 := cellJ HP.out.ans (j := 3) rfl
  have f0 := freeJ HP.out.ans 0
  have f1 := freeJ HP.out.ans 1
  have f2 := freeJ HP.out.ans 2
  have f3 := freeJ HP.out.ans 3
  clear hb hc hP hW
  go_enter Try.func93, Try.ntmps93
  go_upto_region 2 with (fail)
  rw [HW.out]
  clear q18 f18
  go_region
  go_wp2
  refine bodyPost_ret (results_row4 rfl _ _ w.heap.size _ _ _ _ rfl (set4_at HP.out.ans _ _ _ _) Try.underlying25 rfl sz_ans) rfl ?_
  exact ⟨rfl, (set4_ne HP.out.ne _ _ _ _).trans HP.out.op, (but_set4 HP.out.but (.inr (Nat.le_refl _)) _ _ _ _).drew⟩
set_option maxHeartbeats 2000000 in
set_option maxRecDepth 100000 in
theorem lpoll_boom (d : DefL) (n : Int) (b : Nat) (cs : Array Value) (t : TypeId) (w : World) (hb : w.heap[b]? = some (.cells cs t (0, 0))) (hc : OpCells cs d n) (h0 : 0 ≤ n) (h1 : n < 1000) (hw : ¬ n + 1 ≤ d.polls) (hbm : d.boom = true) :
    Calls Try.prog 93 #[.pointer (some ⟨b, 0, none⟩)] w fun e w' => Boom e ∧ w'.heap[b]? = some (.cells (cs.setIfInBounds 18 (.int .i64 (n + 1))) t (0, 0)) ∧ ButL w.heap.size [b] w w' := by
  have hP := pollW hb hc
  have q18 : (w.alloc (.cells #[.slice none 0 0, .slice none 0 0, .int .i64 0, .int .i64 0] 25)).cell? ⟨b, 18, none⟩ = some (.int .i64 n) := cellJ (al_keep hb) (hc 18 _ rfl)
  have f18 := freeJ (al_keep (x := .cells #[.slice none 0 0, .slice none 0 0, .int .i64 0, .int .i64 0] 25) hb) 18
  obtain ⟨W, hW⟩ : ∃ W, (w.alloc (.cells #[.slice none 0 0, .slice none 0 0, .int .i64 0, .int .i64 0] 25)).setCell ⟨b, 18, none⟩ (.int .i64 (n + 1)) = W := ⟨_, rfl⟩
  rw [hW] at hP
  have HP := Lib.hid hP
  have HW := Lib.hid hW
  have k8 : W.cell? ⟨b, 8, none⟩ = some (.int .i64 d.polls) := hP.at_ 8 _ (by decide) rfl
  have k18 := hP.n18
  have k9 : W.cell? ⟨b, 9, none⟩ = some (.bool true) := by rw [← hbm]; exact hP.at_ 9 _ (by decide) rfl
  have hw2 : ¬ n + 1 ≤ d.polls := hw
  obtain ⟨u, pv, w3, hrun, hw3⟩ := outN (w := W.drew) (n + 1)
  have HF : Hid (w3.heap[b]? = some (.cells (cs.setIfInBounds 18 (.int .i64 (n + 1))) t (0, 0)) ∧ ButL w.heap.size [b] w w3) := Lib.hid (by
    rcases hw3 with rfl | rfl
    · exact ⟨hP.op, hP.but.drew⟩
    · exact ⟨hP.op, hP.but.drew.drew⟩)
  clear hw3 hw hbm
  clear hb hc hP hW
  go_enter Try.func93, Try.ntmps93
  go_upto_region 2 with (fail)
  rw [HW.out]
  clear q18 f18
  go_region
  go_wp2
  exact ⟨rfl, ⟨_, _, rfl⟩, HF.out⟩
set_option maxHeartbeats 2000000 in
set_option maxRecDepth 100000 in
theorem lpoll_ok (d : DefL) (n : Int) (b : Nat) (cs : Array Value) (t : TypeId) (w : World) (hb : w.heap[b]? = some (.cells cs t (0, 0))) (hc : OpCells cs d n) (h0 : 0 ≤ n) (h1 : n < 1000) (hw : ¬ n + 1 ≤ d.polls) (hbm : d.boom = false) (hco : d.code = 0) :
    Calls Try.prog 93 #[.pointer (some ⟨b, 0, none⟩)] w fun e w' => e = .returned (.tuple #[.agg #[.slice d.np d.nn d.nc, .slice d.ap d.an d.ac, .int .i64 d.port, .int .i64 d.life], .slice d.dp d.dn d.dc, .nilIface, .bool true]) ∧ w'.heap[b]? = some (.cells (cs.setIfInBounds 18 (.int .i64 (n + 1))) t (0, 0)) ∧ ButL w.heap.size [b] w w' := by
  have hP := pollW hb hc
  have q18 : (w.alloc (.cells #[.slice none 0 0, .slice none 0 0, .int .i64 0, .int .i64 0] 25)).cell? ⟨b, 18, none⟩ = some (.int .i64 n) := cellJ (al_keep hb) (hc 18 _ rfl)
  have f18 := freeJ (al_keep (x := .cells #[.slice none 0 0, .slice none 0 0, .int .i64 0, .int .i64 0] 25) hb) 18
  obtain ⟨W, hW⟩ : ∃ W, (w.alloc (.cells #[.slice none 0 0, .slice none 0 0, .int .i64 0, .int .i64 0] 25)).setCell ⟨b, 18, none⟩ (.int .i64 (n + 1)) = W := ⟨_, rfl⟩
  rw [hW] at hP
  have HP := Lib.hid hP
  have HW := Lib.hid hW
  have k8 : W.cell? ⟨b, 8, none⟩ = some (.int .i64 d.polls) := hP.at_ 8 _ (by decide) rfl
  have k18 := hP.n18
  have r0 := cellJ HP.out.ans (j := 0) rfl
  have r1 := cellJ HP.out.ans (j := 1) rfl
  have r2 := cellJ HP.out.ans (j := 2) rfl
  have r3 := cellJ HP.out.ans (j := 3) rfl
  have f0 := freeJ HP.out.ans 0
  have f1 := freeJ HP.out.ans 1
  have f2 := freeJ HP.out.ans 2
  have f3 := freeJ HP.out.ans 3
  have k9 : W.cell? ⟨b, 9, none⟩ = some (.bool false) := by rw [← hbm]; exact hP.at_ 9 _ (by decide) rfl
  have k10 : W.cell? ⟨b, 10, none⟩ = some (.int .i64 0) := by rw [← hco]; exact hP.at_ 10 _ (by decide) rfl
  have k12 : W.cell? ⟨b, 12, none⟩ = some (.slice d.np d.nn d.nc) := hP.at_ 12 _ (by decide) rfl
  have k13 : W.cell? ⟨b, 13, none⟩ = some (.slice d.ap d.an d.ac) := hP.at_ 13 _ (by decide) rfl
  have k14 : W.cell? ⟨b, 14, none⟩ = some (.int .i64 d.port) := hP.at_ 14 _ (by decide) rfl
  have k15 : W.cell? ⟨b, 15, none⟩ = some (.int .i64 d.life) := hP.at_ 15 _ (by decide) rfl
  have k16 : W.cell? ⟨b, 16, none⟩ = some (.slice d.dp d.dn d.dc) := hP.at_ 16 _ (by decide) rfl
  have hw2 : ¬ n + 1 ≤ d.polls := hw
  clear hw hbm hco
  clear hb hc hP hW
  go_enter Try.func93, Try.ntmps93
  go_upto_region 2 with (fail)
  rw [HW.out]
  clear q18 f18
  go_region
  go_upto_region 9 with (fail)
  go_region
  go_wp2
  refine bodyPost_ret (results_row4 rfl _ _ w.heap.size _ _ _ _ rfl (set4_at HP.out.ans _ _ _ _) Try.underlying25 rfl sz_ans) rfl ?_
  exact ⟨rfl, (set4_ne HP.out.ne _ _ _ _).trans HP.out.op, (but_set4 HP.out.but (.inr (Nat.le_refl _)) _ _ _ _).drew.drew⟩
set_option maxHeartbeats 2000000 in
set_option maxRecDepth 100000 in
theorem lpoll_err (d : DefL) (n : Int) (b : Nat) (cs : Array Value) (t : TypeId) (w : World) (hb : w.heap[b]? = some (.cells cs t (0, 0))) (hc : OpCells cs d n) (h0 : 0 ≤ n) (h1 : n < 1000) (hw : ¬ n + 1 ≤ d.polls) (hbm : d.boom = false) (hco : ¬ d.code = 0) :
    Calls Try.prog 93 #[.pointer (some ⟨b, 0, none⟩)] w fun e w' => (∃ er, e = .returned (.tuple #[zAns, .slice d.dp d.dn d.dc, er, .bool true]) ∧ ErrS w' (errL d) d.code er) ∧ w'.heap[b]? = some (.cells (cs.setIfInBounds 18 (.int .i64 (n + 1))) t (0, 0)) ∧ ButL w.heap.size [b] w w' := by
  have hP := pollW hb hc
  have q18 : (w.alloc (.cells #[.slice none 0 0, .slice none 0 0, .int .i64 0, .int .i64 0] 25)).cell? ⟨b, 18, none⟩ = some (.int .i64 n) := cellJ (al_keep hb) (hc 18 _ rfl)
  have f18 := freeJ (al_keep (x := .cells #[.slice none 0 0, .slice none 0 0, .int .i64 0, .int .i64 0] 25) hb) 18
  obtain ⟨W, hW⟩ : ∃ W, (w.alloc (.cells #[.slice none 0 0, .slice none 0 0, .int .i64 0, .int .i64 0] 25)).setCell ⟨b, 18, none⟩ (.int .i64 (n + 1)) = W := ⟨_, rfl⟩
  rw [hW] at hP
  have HP := Lib.hid hP
  have HW := Lib.hid hW
  have k8 : W.cell? ⟨b, 8, none⟩ = some (.int .i64 d.polls) := hP.at_ 8 _ (by decide) rfl
  have k18 := hP.n18
  have r0 := cellJ HP.out.ans (j := 0) rfl
  have r1 := cellJ HP.out.ans (j := 1) rfl
  have r2 := cellJ HP.out.ans (j := 2) rfl
  have r3 := cellJ HP.out.ans (j := 3) rfl
  have f0 := freeJ HP.out.ans 0
  have f1 := freeJ HP.out.ans 1
  have f2 := freeJ HP.out.ans 2
  have f3 := freeJ HP.out.ans 3
  have k9 : W.cell? ⟨b, 9, none⟩ = some (.bool false) := by rw [← hbm]; exact hP.at_ 9 _ (by decide) rfl
  have k10 : W.cell? ⟨b, 10, none⟩ = some (.int .i64 d.code) := hP.at_ 10 _ (by decide) rfl
  have k16 : W.cell? ⟨b, 16, none⟩ = some (.slice d.dp d.dn d.dc) := hP.at_ 16 _ (by decide) rfl
  have hw2 : ¬ n + 1 ≤ d.polls := hw
  have hc2 : (d.code != 0) = true := by simpa using hco
  have HE : Hid (∀ W' : World, Calls Try.prog 37 #[.agg (defC d)] W' fun e w' => ∃ v, e = .returned v ∧ ErrS w' (errL d) d.code v ∧ Below W'.heap.size W' w') := Lib.hid (fun W' => derr_any d W' hco)
  have hS0 : ∀ W' : World, ButL (w.heap.size + 1) [w.heap.size] W W' → W'.rangeAt b 0 (defC d).toList ∧ W'.cell? ⟨b, 16, none⟩ = some (.slice d.dp d.dn d.dc) := fun W' h => by
    have e : W'.heap[b]? = W.heap[b]? := h.block b (by have := lt_of hb; omega) (by rw [List.mem_singleton]; exact hP.ne)
    refine ⟨fun j v hj => ?_, ?_⟩
    · simp only [Nat.zero_add]
      rw [World.cell?_of_block (w := W) (w' := W') e]
      exact hP.at_ j v (Nat.lt_of_lt_of_le (List.getElem?_eq_some_iff.1 hj).1 (by show 18 ≤ 18; decide)) hj
    · rw [World.cell?_of_block (w := W) (w' := W') e]; exact k16
  have HS0 := Lib.hid hS0
  have HSz : Hid (W.heap.size = w.heap.size + 1) := Lib.hid hP.size
  have HSd : Hid ((Try.prog.info? 28).map (·.size) = some (defC d).toList.length) := Lib.hid (by kernel_rfl)
  clear hw hbm hco hS0
  clear hb hc hP hW
  go_enter Try.func93, Try.ntmps93
  go_upto_region 2 with (fail)
  rw [HW.out]
  clear q18 f18
  go_region
  go_upto_region 8 with (fail)
  generalize defC d = dc at *
  have HBd : Hid (ButL (w.heap.size + 1) [w.heap.size] W W.drew.drew) := Lib.hid (ButL.of_below (Below.refl _ _).drew.drew)
  have HR : Hid (W.drew.drew.heap[w.heap.size]? = some (.cells #[.slice none 0 0, .slice none 0 0, .int .i64 0, .int .i64 0] 25 (0, 0))) := Lib.hid HP.out.ans
  refine wp_region_held_drew (S := fun W' => W'.rangeAt b 0 dc.toList ∧ W'.cell? ⟨b, 16, none⟩ = some (.slice d.dp d.dn d.dc)) (by kernel_rfl) (HS0.out _ HBd.out) (fun hHeld => ?_)
  try simp only [Act.put, List.setIfInBounds_toArray, List.set_cons_zero, List.set_cons_succ]
  refine wpAnyH_take (i := 0) (oi := { dst := some 43, op := Op.build 25 #[], type := 25, pos := "law.go:104", after := #[], guard := none }) (v := ?_) rfl (by kernel_rfl) (by kernel_rfl) (by kernel_rfl) (fun _ _ _ h => h) (Or.inl ⟨by rfl, ?_⟩) (by assumption) ?_
  rotate_left 1
  · (intro w hSw; (try dsimp only at hSw); go_simp; all_goals (with_reducible rfl))
  try simp only [Act.put, List.setIfInBounds_toArray, List.set_cons_zero, List.set_cons_succ]
  refine wpAnyH_take (i := 1) (oi := { dst := some 44, op := Op.move (Operand.tmp 0), type := 159, pos := "law.go:104", after := #[{ on := 11, ground := Ground.gcOnly Departure.lateStores }], guard := none }) (v := ?_) rfl (by kernel_rfl) (by kernel_rfl) (by kernel_rfl) (fun _ _ _ h => h) (Or.inl ⟨by rfl, ?_⟩) (by assumption) ?_
  rotate_left 1
  · (intro w hSw; (try dsimp only at hSw); go_simp; all_goals (with_reducible rfl))
  try simp only [Act.put, List.setIfInBounds_toArray, List.set_cons_zero, List.set_cons_succ]
  refine wpAnyH_take (i := 2) (oi := { dst := some 45, op := Op.nilCheck (Operand.tmp 44), type := 0, pos := "law.go:104", after := #[{ on := 1, ground := Ground.data }, { on := 11, ground := Ground.gcOnly Departure.lateStores }], guard := none }) (v := ?_) rfl (by kernel_rfl) (by kernel_rfl) (by kernel_rfl) (fun _ _ _ h => h) (Or.inl ⟨by rfl, ?_⟩) (by assumption) ?_
  rotate_left 1
  · (intro w hSw; (try dsimp only at hSw); go_simp; all_goals (with_reducible rfl))
  try simp only [Act.put, List.setIfInBounds_toArray, List.set_cons_zero, List.set_cons_succ]
  refine wpAnyH_take (i := 3) (oi := { dst := some 46, op := Op.fieldAddr 156 (Operand.tmp 45) 0, type := 0, pos := "law.go:104", after := #[{ on := 2, ground := Ground.data }, { on := 11, ground := Ground.gcOnly Departure.lateStores }], guard := none }) (v := ?_) rfl (by kernel_rfl) (by kernel_rfl) (by kernel_rfl) (fun _ _ _ h => h) (Or.inl ⟨by rfl, ?_⟩) (by assumption) ?_
  rotate_left 1
  · (intro w hSw; (try dsimp only at hSw); go_simp; all_goals (with_reducible rfl))
  try simp only [Act.put, List.setIfInBounds_toArray, List.set_cons_zero, List.set_cons_succ]
  refine wpAnyH_take (i := 4) (oi := { dst := some 47, op := Op.fieldAddr 28 (Operand.tmp 46) 9, type := 0, pos := "law.go:104", after := #[{ on := 3, ground := Ground.data }, { on := 11, ground := Ground.gcOnly Departure.lateStores }], guard := none }) (v := ?_) rfl (by kernel_rfl) (by kernel_rfl) (by kernel_rfl) (fun _ _ _ h => h) (Or.inl ⟨by rfl, ?_⟩) (by assumption) ?_
  rotate_left 1
  · (intro w hSw; (try dsimp only at hSw); go_simp; all_goals (with_reducible rfl))
  try simp only [Act.put, List.setIfInBounds_toArray, List.set_cons_zero, List.set_cons_succ]
  refine wpAnyH_take (i := 5) (oi := { dst := some 48, op := Op.load 26 (Operand.tmp 47), type := 26, pos := "law.go:104", after := #[{ on := 4, ground := Ground.data }, { on := 11, ground := Ground.gcOnly Departure.lateStores }], guard := none }) (v := ?_) rfl (by kernel_rfl) (by kernel_rfl) (by kernel_rfl) (fun _ _ _ h => h) (Or.inl ⟨by rfl, ?_⟩) (by assumption) ?_
  rotate_left 1
  · (intro w hSw; (try dsimp only at hSw); go_simp; all_goals (with_reducible rfl))
  try simp only [Act.put, List.setIfInBounds_toArray, List.set_cons_zero, List.set_cons_succ]
  refine wpAnyH_take (i := 6) (oi := { dst := some 49, op := Op.move (Operand.tmp 0), type := 159, pos := "law.go:104", after := #[], guard := none }) (v := ?_) rfl (by kernel_rfl) (by kernel_rfl) (by kernel_rfl) (fun _ _ _ h => h) (Or.inl ⟨by rfl, ?_⟩) (by assumption) ?_
  rotate_left 1
  · (intro w hSw; (try dsimp only at hSw); go_simp; all_goals (with_reducible rfl))
  try simp only [Act.put, List.setIfInBounds_toArray, List.set_cons_zero, List.set_cons_succ]
  refine wpAnyH_take (i := 7) (oi := { dst := some 50, op := Op.nilCheck (Operand.tmp 49), type := 0, pos := "law.go:104", after := #[{ on := 6, ground := Ground.data }], guard := none }) (v := ?_) rfl (by kernel_rfl) (by kernel_rfl) (by kernel_rfl) (fun _ _ _ h => h) (Or.inl ⟨by rfl, ?_⟩) (by assumption) ?_
  rotate_left 1
  · (intro w hSw; (try dsimp only at hSw); go_simp; all_goals (with_reducible rfl))
  try simp only [Act.put, List.setIfInBounds_toArray, List.set_cons_zero, List.set_cons_succ]
  refine wpAnyH_take (i := 8) (oi := { dst := some 51, op := Op.fieldAddr 156 (Operand.tmp 50) 0, type := 0, pos := "law.go:104", after := #[{ on := 7, ground := Ground.data }], guard := none }) (v := ?_) rfl (by kernel_rfl) (by kernel_rfl) (by kernel_rfl) (fun _ _ _ h => h) (Or.inl ⟨by rfl, ?_⟩) (by assumption) ?_
  rotate_left 1
  · (intro w hSw; (try dsimp only at hSw); go_simp; all_goals (with_reducible rfl))
  try simp only [Act.put, List.setIfInBounds_toArray, List.set_cons_zero, List.set_cons_succ]
  refine wpAnyH_take (i := 9) (oi := { dst := some 52, op := Op.load 28 (Operand.tmp 51), type := 28, pos := "law.go:104", after := #[{ on := 8, ground := Ground.data }], guard := none }) (v := .agg dc.toList.toArray) rfl (by kernel_rfl) (by kernel_rfl) (by kernel_rfl) (fun _ _ _ h => h) (yieldsIf_load_mid rfl 28 (.tmp 51) rfl b 0 rfl dc.toList _ (fun _ h => h.1) Try.underlying28 rfl HSd.out) (by assumption) ?_
  try simp only [Act.put, List.setIfInBounds_toArray, List.set_cons_zero, List.set_cons_succ]
  simp only [Array.toArray_toList]
  refine wpAnyH_ready (rs := [10]) (by kernel_rfl) (by simp) ?_
  refine AllReadyH.cons (o := { dst := some 53, op := Op.call { callee := Callee.value (Operand.func 37), args := #[Operand.tmp 52], argTypes := #[28] }, type := 35, pos := "law.go:104", after := #[{ on := 9, ground := Ground.data }], guard := none }) rfl (fun K hK => ?_) AllReadyH.nil
  go_simp
  go_at_call 37
  refine (HE.out _).mono ?_
  rintro e w2 ⟨v, rfl, hv, hbl⟩
  have HB2 : Hid (ButL (w.heap.size + 1) [w.heap.size] W w2) := Lib.hid (HBd.out.trans (Nat.le_of_eq HSz.out.symm) hbl)
  have hr2 : w2.heap[w.heap.size]? = some (.cells #[.slice none 0 0, .slice none 0 0, .int .i64 0, .int .i64 0] 25 (0, 0)) := (hbl.block _ (lt_of HR.out)).trans HR.out
  have r0 := cellJ hr2 (j := 0) rfl
  have f0 := freeJ hr2 0
  have r1 := cellJ hr2 (j := 1) rfl
  have f1 := freeJ hr2 1
  have r2 := cellJ hr2 (j := 2) rfl
  have f2 := freeJ hr2 2
  have r3 := cellJ hr2 (j := 3) rfl
  have f3 := freeJ hr2 3
  have HR2 := Lib.hid hr2
  have HV := Lib.hid hv
  have hsh := hv.iface
  clear hv hbl hr2
  obtain ⟨tv, xv, rfl⟩ := hsh
  try go_wp2_with fail
  refine hK.out _ _ ?_ (fun hHeld => ?_)
  · ((try dsimp only); exact HS0.out _ HB2.out)
  clear hK K
  try simp only [Act.put, List.setIfInBounds_toArray, List.set_cons_zero, List.set_cons_succ]
  refine wpAnyH_ready (rs := [11]) (by kernel_rfl) (by simp) ?_
  refine AllReadyH.cons (o := { dst := none, op := Op.store 25 (Operand.tmp 2) (Operand.tmp 43), type := 0, pos := "law.go:104", after := #[{ on := 0, ground := Ground.data }, { on := 10, ground := Ground.chain }, { on := 0, ground := Ground.phase }, { on := 1, ground := Ground.textOnly Departure.lateStores }, { on := 2, ground := Ground.textOnly Departure.lateStores }, { on := 3, ground := Ground.textOnly Departure.lateStores }, { on := 4, ground := Ground.textOnly Departure.lateStores }, { on := 5, ground := Ground.textOnly Departure.lateStores }, { on := 6, ground := Ground.textOnly Departure.lateStores }, { on := 7, ground := Ground.textOnly Departure.lateStores }, { on := 8, ground := Ground.textOnly Departure.lateStores }, { on := 9, ground := Ground.textOnly Departure.lateStores }, { on := 10, ground := Ground.textOnly Departure.lateStoresUnsure }], guard := none }) rfl (fun K hK => ?_) AllReadyH.nil
  go_simp
  refine hK.out _ _ ?_ (fun hHeld => ?_)
  · ((try dsimp only); exact HS0.out _ (but_set4 HB2.out (.inl (List.mem_singleton.2 rfl)) _ _ _ _))
  clear hK K
  try simp only [Act.put, List.setIfInBounds_toArray, List.set_cons_zero, List.set_cons_succ]
  refine wpAnyH_take (i := 12) (oi := { dst := some 3, op := Op.assign (Operand.tmp 48), type := 26, pos := "law.go:104", after := #[{ on := 5, ground := Ground.data }, { on := 11, ground := Ground.chain }, { on := 0, ground := Ground.phase }, { on := 1, ground := Ground.phase }, { on := 2, ground := Ground.phase }, { on := 3, ground := Ground.phase }, { on := 4, ground := Ground.phase }, { on := 5, ground := Ground.phase }, { on := 6, ground := Ground.textOnly Departure.lateStores }, { on := 7, ground := Ground.textOnly Departure.lateStores }, { on := 8, ground := Ground.textOnly Departure.lateStores }, { on := 9, ground := Ground.textOnly Departure.lateStores }, { on := 10, ground := Ground.textOnly Departure.lateStoresUnsure }, { on := 11, ground := Ground.phase }], guard := none }) (v := ?_) rfl (by kernel_rfl) (by kernel_rfl) (by kernel_rfl) (fun _ _ _ h => h) (Or.inl ⟨by rfl, ?_⟩) (by assumption) ?_
  rotate_left 1
  · (intro w hSw; (try dsimp only at hSw); go_simp; all_goals (with_reducible rfl))
  try simp only [Act.put, List.setIfInBounds_toArray, List.set_cons_zero, List.set_cons_succ]
  refine wpAnyH_take (i := 13) (oi := { dst := some 4, op := Op.assign (Operand.tmp 53), type := 35, pos := "law.go:104", after := #[{ on := 10, ground := Ground.data }, { on := 12, ground := Ground.chain }, { on := 0, ground := Ground.phase }, { on := 1, ground := Ground.phase }, { on := 2, ground := Ground.phase }, { on := 3, ground := Ground.phase }, { on := 4, ground := Ground.phase }, { on := 5, ground := Ground.phase }, { on := 6, ground := Ground.phase }, { on := 7, ground := Ground.phase }, { on := 8, ground := Ground.phase }, { on := 9, ground := Ground.phase }, { on := 10, ground := Ground.phase }, { on := 11, ground := Ground.phase }, { on := 12, ground := Ground.phase }], guard := none }) (v := ?_) rfl (by kernel_rfl) (by kernel_rfl) (by kernel_rfl) (fun _ _ _ h => h) (Or.inl ⟨by rfl, ?_⟩) (by assumption) ?_
  rotate_left 1
  · (intro w hSw; (try dsimp only at hSw); go_simp; all_goals (with_reducible rfl))
  try simp only [Act.put, List.setIfInBounds_toArray, List.set_cons_zero, List.set_cons_succ]
  refine wpAnyH_take (i := 14) (oi := { dst := some 5, op := Op.assign (Operand.const (Value.bool true)), type := 4, pos := "law.go:104", after := #[{ on := 13, ground := Ground.chain }, { on := 0, ground := Ground.phase }, { on := 1, ground := Ground.phase }, { on := 2, ground := Ground.phase }, { on := 3, ground := Ground.phase }, { on := 4, ground := Ground.phase }, { on := 5, ground := Ground.phase }, { on := 6, ground := Ground.phase }, { on := 7, ground := Ground.phase }, { on := 8, ground := Ground.phase }, { on := 9, ground := Ground.phase }, { on := 10, ground := Ground.phase }, { on := 11, ground := Ground.phase }, { on := 12, ground := Ground.phase }, { on := 13, ground := Ground.phase }], guard := none }) (v := ?_) rfl (by kernel_rfl) (by kernel_rfl) (by kernel_rfl) (fun _ _ _ h => h) (Or.inl ⟨by rfl, ?_⟩) (by assumption) ?_
  rotate_left 1
  · (intro w hSw; (try dsimp only at hSw); go_simp; all_goals (with_reducible rfl))
  try simp only [Act.put, List.setIfInBounds_toArray, List.set_cons_zero, List.set_cons_succ]
  refine wpAnyH_done (by kernel_rfl) ?_ _
  go_wp2
  refine bodyPost_ret (results_row4 rfl _ _ w.heap.size _ _ _ _ rfl (set4_at HR2.out _ _ _ _) Try.underlying25 rfl sz_ans) rfl ?_
  refine ⟨⟨_, rfl, ErrS.but HR2.out (by decide) (fun k hk _ => set4_ne hk _ _ _ _) HV.out⟩, (set4_ne HP.out.ne _ _ _ _).trans ((HB2.out.block b (by have := lt_of HP.out.op; have := HSz.out; omega) (by rw [List.mem_singleton]; exact HP.out.ne)).trans HP.out.op), but_set4 (HP.out.but.but HB2.out (by omega) (fun k hk => .inr (by rw [List.mem_singleton] at hk; omega))) (.inr (Nat.le_refl _)) _ _ _ _⟩
end Go.Proofs.Ytpdkjifalgeodaa
