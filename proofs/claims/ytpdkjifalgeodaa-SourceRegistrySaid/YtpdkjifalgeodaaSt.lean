/- Contracts: Poll that is not done, or bad. -/
import Derived.Test.YtpdkjifalgeodaaSs
namespace Go.Proofs.Ytpdkjifalgeodaa
open Go.RowKit Go.Extern.Stop Go.Stop Go.Extern Go.Lib Go.Tx
def zA : Obj := .cells #[.slice none 0 0, .slice none 0 0, .int .i64 0, .int .i64 0] 25
/-- The world in which Poll calls Guard. -/
structure PollG (w W : World) (ov : Value) : Prop where
  box : PollBox W ov w.heap.size (w.heap.size + 2) (w.heap.size + 3) (w.heap.size + 4) (w.heap.size + 5)
  res : W.heap[w.heap.size + 1]? = some (.cells #[.slice none 0 0, .slice none 0 0, .int .i64 0, .int .i64 0] 25 (0, 0))
  size : W.heap.size = w.heap.size + 6
  below : Below w.heap.size w W
theorem six_new (w : World) (ov : Value) : ∃ W, (((((w.alloc (.cells #[ov] 33)).alloc (.cells #[.slice none 0 0, .slice none 0 0, .int .i64 0, .int .i64 0] 25)).alloc (.cells #[.slice none 0 0, .slice none 0 0, .int .i64 0, .int .i64 0] 25)).alloc (.cells #[.slice none 0 0] 26)).alloc (.cells #[.nilIface] 35)).alloc (.cells #[.bool false] 4) = W ∧ PollG w W ov := by
  obtain ⟨W3, h3, a0, a1, a2, z3, b3⟩ := three_new w (.cells #[ov] 33) (.cells #[.slice none 0 0, .slice none 0 0, .int .i64 0, .int .i64 0] 25) (.cells #[.slice none 0 0, .slice none 0 0, .int .i64 0, .int .i64 0] 25)
  obtain ⟨W6, h6, a3, a4, a5, z6, b6⟩ := three_new W3 (.cells #[.slice none 0 0] 26) (.cells #[.nilIface] 35) (.cells #[.bool false] 4)
  refine ⟨W6, by rw [h3]; exact h6, ⟨(b6.block _ (by omega)).trans a0, (b6.block _ (by omega)).trans a2, by rw [← z3]; exact a3, by rw [show w.heap.size + 4 = W3.heap.size + 1 from by omega]; exact a4, by rw [show w.heap.size + 5 = W3.heap.size + 2 from by omega]; exact a5⟩, (b6.block _ (by omega)).trans a1, by omega, keepE b3 b6⟩
theorem PollG.gbox {w W w3 : World} {ov : Value} {b : Nat} (h : PollG w W ov) (hbw : b < w.heap.size) (hb : ButL (W.alloc gbox).heap.size [b, w.heap.size + 2, w.heap.size + 3, w.heap.size + 4, w.heap.size + 5] (W.alloc gbox) w3) : w3.heap[W.heap.size]? = some (.cells #[.bool false] 4 (0, 0)) :=
  (hb.block _ (by rw [al_size]; omega) (by have := h.size; simp; omega)).trans (heap_alloc_new W _)
/-- What Poll's walk has behind Guard. -/
structure PollO (w w2 : World) (b : Nat) (cs : Array Value) (t : TypeId) (a : PollA) : Prop where
  hA : w2.heap[w.heap.size + 2]? = some (.cells #[.slice a.p1 a.n1 a.c1, .slice a.p2 a.n2 a.c2, .int .i64 a.po, .int .i64 a.li] 25 (0, 0))
  hD : w2.heap[w.heap.size + 3]? = some (.cells #[.slice a.dp a.dn a.dc] 26 (0, 0))
  hE : ∃ er, w2.heap[w.heap.size + 4]? = some (.cells #[er] 35 (0, 0)) ∧ ErrO w2 a.err er
  hB : w2.heap[w.heap.size + 5]? = some (.cells #[.bool a.done] 4 (0, 0))
  hR : w2.heap[w.heap.size + 1]? = some (.cells #[.slice none 0 0, .slice none 0 0, .int .i64 0, .int .i64 0] 25 (0, 0))
  op : w2.heap[b]? = some (.cells cs t (0, 0))
  but : ButL w.heap.size [b] w w2
  size : w.heap.size + 6 ≤ w2.heap.size
def opTy (t : TypeId) : Prop := t ≠ 33 ∧ t ≠ 25 ∧ t ≠ 26 ∧ t ≠ 35 ∧ t ≠ 4
theorem poll_guard (s : ByteArray) (w W : World) (tv : TypeId) (b : Nat) (cs0 cs : Array Value) (t : TypeId) (a : PollA) (hG : PollG w W (.iface tv (.pointer (some ⟨b, 0, none⟩)))) (hb : w.heap[b]? = some (.cells cs0 t (0, 0))) (ht : opTy t)
    (hm : ∀ n w, (Go.method (n + 2) tv (.pointer (some ⟨b, 0, none⟩)) "Poll").run Try.prog w = .ok (93, .pointer (some ⟨b, 0, none⟩)) w)
    (HPl : ∀ W2, W2.heap[b]? = some (.cells cs0 t (0, 0)) → Calls Try.prog 93 #[.pointer (some ⟨b, 0, none⟩)] W2 (PollRes W2 b cs t a)) :
    Calls Try.prog 25 #[.string s, .func (.func 34) #[] #[.pointer (some ⟨w.heap.size, 0, none⟩), .pointer (some ⟨w.heap.size + 2, 0, none⟩), .pointer (some ⟨w.heap.size + 3, 0, none⟩), .pointer (some ⟨w.heap.size + 4, 0, none⟩), .pointer (some ⟨w.heap.size + 5, 0, none⟩)]] W
      fun e w2 => e = .returned .nilIface ∧ PollO w w2 b cs t a := by
  have hlt := lt_of hb
  have hz := hG.size
  have hbW : (W.alloc gbox).heap[b]? = some (.cells cs0 t (0, 0)) := al_keep ((hG.below.block b hlt).trans hb)
  have hc := pollC_ret (W.alloc gbox) tv b cs t a _ _ _ _ _ (hG.box.keep (w' := W.alloc gbox) (fun k hk => (al_bel W gbox).block k (by omega))) hm ⟨cs0, _, hbW⟩ ht (HPl _ hbW)
  refine (guard_ok 34 _ W s _ (fun w => by kernel_rfl) hc (fun w' h => hG.gbox hlt h.2.2.2.2.2)).mono ?_
  rintro e w2 ⟨he, w3, ⟨xA, xD, ⟨er, xE, xer⟩, xB, xb, xl⟩, rfl⟩
  have gne : ∀ k, k < W.heap.size → (w3.setCell ⟨W.heap.size, 0, none⟩ (.bool true)).heap[k]? = w3.heap[k]? := fun k hk => setN (by omega)
  have hgb := hG.gbox hlt xl
  refine ⟨he, (gne _ (by omega)).trans xA, (gne _ (by omega)).trans xD, ⟨er, (gne _ (by omega)).trans xE, xer.keep (fun k c fr hk => setN (ne_of_ty hk hgb (by decide)))⟩, (gne _ (by omega)).trans xB, (gne _ (by omega)).trans ((xl.block _ (by rw [al_size]; omega) (by simp; omega)).trans (al_keep hG.res)), (gne _ (by omega)).trans xb, ?_, ?_⟩
  · exact guard_but (ButL.of_below hG.below) (by omega) xl (by intro k hk; simp at hk; rcases hk with rfl | rfl | rfl | rfl | rfl; exact .inl (by simp); all_goals exact .inr (by omega)) _
  · rw [set_size]
    have := xl.size
    rw [al_size] at this
    omega
set_option maxHeartbeats 2000000 in
set_option maxRecDepth 100000 in
theorem poll_wait (s : ByteArray) (w : World) (tv : TypeId) (x : Value) (b : Nat) (cs : Array Value) (t : TypeId) (a : PollA) (ha : a.done = false) (hbw : b < w.heap.size)
    (HG : ∀ W, PollG w W (.iface tv x) → Calls Try.prog 25 #[.string s, .func (.func 34) #[] #[.pointer (some ⟨w.heap.size, 0, none⟩), .pointer (some ⟨w.heap.size + 2, 0, none⟩), .pointer (some ⟨w.heap.size + 3, 0, none⟩), .pointer (some ⟨w.heap.size + 4, 0, none⟩), .pointer (some ⟨w.heap.size + 5, 0, none⟩)]] W
      fun e w2 => e = .returned .nilIface ∧ PollO w w2 b cs t a) :
    Calls Try.prog 15 #[.string s, .iface tv x] w fun e w' => e = .returned (.tuple #[zAns, .slice none 0 0, .nilIface, .bool false]) ∧ w'.heap[b]? = some (.cells cs t (0, 0)) ∧ ButL w.heap.size [b] w w' := by
  obtain ⟨W, hW, hPG⟩ := six_new w (.iface tv x)
  have HG2 := Lib.hid (HG W hPG)
  have HW := Lib.hid hW
  have HBw := Lib.hid hbw
  have HA := Lib.hid ha
  have hmf := mfn
  have n1 := neqN
  clear HG hPG hW ha hbw
  go_enter Try.func15, Try.ntmps15
  go_upto_region 5 with (fail)
  rw [HW.out]
  go_wp2_with (go_at_call 25; refine HG2.out.mono ?_; rintro e w2 ⟨rfl, ho⟩; have kB := cell1 ho.hB; rw [HA.out] at kB; have r0 := cellJ ho.hR (j := 0) rfl; have r1 := cellJ ho.hR (j := 1) rfl; have r2 := cellJ ho.hR (j := 2) rfl; have r3 := cellJ ho.hR (j := 3) rfl; have f0 := freeJ ho.hR 0; have f1 := freeJ ho.hR 1; have f2 := freeJ ho.hR 2; have f3 := freeJ ho.hR 3; have HO := Lib.hid ho; clear ho)
  refine bodyPost_ret (results_row4 rfl _ _ (w.heap.size + 1) _ _ _ _ rfl (set4_at HO.out.hR _ _ _ _) Try.underlying25 rfl sz_ans) rfl ?_
  exact ⟨rfl, (set4_ne (by have := HBw.out; omega) _ _ _ _).trans HO.out.op, but_set4 HO.out.but (.inr (by omega)) _ _ _ _⟩
set_option maxHeartbeats 2000000 in
set_option maxRecDepth 100000 in
theorem poll_bad (s : ByteArray) (w : World) (o : Value) (ho : o = .nilIface ∨ ∃ t x, o = .iface t x) (X : World → Prop) (hX : ∀ w2 x0 x1 x2 x3, X w2 → X ((((w2.setCell ⟨w.heap.size + 1, 0, none⟩ x0).setCell ⟨w.heap.size + 1, 1, none⟩ x1).setCell ⟨w.heap.size + 1, 2, none⟩ x2).setCell ⟨w.heap.size + 1, 3, none⟩ x3))
    (HG : ∀ W, PollG w W o → Calls Try.prog 25 #[.string s, .func (.func 34) #[] #[.pointer (some ⟨w.heap.size, 0, none⟩), .pointer (some ⟨w.heap.size + 2, 0, none⟩), .pointer (some ⟨w.heap.size + 3, 0, none⟩), .pointer (some ⟨w.heap.size + 4, 0, none⟩), .pointer (some ⟨w.heap.size + 5, 0, none⟩)]] W
      fun e w2 => ∃ er, e = .returned er ∧ ErrS w2 [s] 2 er ∧ w2.heap[w.heap.size + 1]? = some (.cells #[.slice none 0 0, .slice none 0 0, .int .i64 0, .int .i64 0] 25 (0, 0)) ∧ X w2) :
    Calls Try.prog 15 #[.string s, o] w fun e w' => ∃ er, e = .returned (.tuple #[zAns, .slice none 0 0, er, .bool true]) ∧ ErrS w' [s] 2 er ∧ X w' := by
  obtain ⟨W, hW, hPG⟩ := six_new w o
  have HG2 := Lib.hid (HG W hPG)
  have HW := Lib.hid hW
  have HX := Lib.hid hX
  have hmf := mfn
  have n1 := nilNe
  clear HG hPG hW hX
  rcases ho with rfl | ⟨tv, x, rfl⟩
  all_goals
    go_enter Try.func15, Try.ntmps15
    go_upto_region 5 with (fail)
    rw [HW.out]
    go_wp2_with (go_at_call 25; refine HG2.out.mono ?_; rintro e w2 ⟨er, rfl, her, hr, hx⟩; have r0 := cellJ hr (j := 0) rfl; have r1 := cellJ hr (j := 1) rfl; have r2 := cellJ hr (j := 2) rfl; have r3 := cellJ hr (j := 3) rfl; have f0 := freeJ hr 0; have f1 := freeJ hr 1; have f2 := freeJ hr 2; have f3 := freeJ hr 3; have HR := Lib.hid hr; have HEr := Lib.hid her; have HXx := Lib.hid hx; have hsh := her.iface; clear hr her hx; obtain ⟨te, xe, rfl⟩ := hsh)
    refine bodyPost_ret (results_row4 rfl _ _ (w.heap.size + 1) _ _ _ _ rfl (set4_at HR.out _ _ _ _) Try.underlying25 rfl sz_ans) rfl ?_
    exact ⟨_, rfl, ErrS.keep (fun k c fr hk => set4_ne (ne_of_ty hk HR.out (by decide)) _ _ _ _) HEr.out, HX.out _ _ _ _ _ HXx.out⟩
end Go.Proofs.Ytpdkjifalgeodaa
