/- Contracts: the closure of Poll. -/
import Derived.Test.YtpdkjifalgeodaaSr
namespace Go.Proofs.Ytpdkjifalgeodaa
open Go.RowKit Go.Extern.Stop Go.Stop Go.Extern Go.Lib Go.Tx
theorem ErrS.keep {w w' : World} {c : Int} (hh : ∀ (b : Nat) cs fr, w.heap[b]? = some (.cells cs 79 fr) → w'.heap[b]? = w.heap[b]?) : ∀ {L : List ByteArray} {v : Value}, ErrS w L c v → ErrS w' L c v
  | [], v, h => h
  | s :: L, v, ⟨b, u, h, hb, hu⟩ => ⟨b, u, h, (hh b _ _ hb).trans hb, ErrS.keep hh hu⟩
/-- No error, or one that is a code wrapped so. -/
def ErrO (w : World) (o : Option (List ByteArray × Int)) (v : Value) : Prop := match o with
  | none => v = .nilIface
  | some x => ErrS w x.1 x.2 v
theorem ErrO.shape {w : World} {o : Option (List ByteArray × Int)} {v : Value} (h : ErrO w o v) : v = .nilIface ∨ ∃ t x, v = .iface t x := by
  cases o with
  | none => exact .inl h
  | some x => exact .inr (ErrS.iface h)
theorem ErrO.keep {w w' : World} {o : Option (List ByteArray × Int)} {v : Value} (h : ErrO w o v) (hh : ∀ (b : Nat) cs fr, w.heap[b]? = some (.cells cs 79 fr) → w'.heap[b]? = w.heap[b]?) : ErrO w' o v := by
  cases o with
  | none => exact h
  | some x => exact ErrS.keep hh h
theorem ErrO.below {w w' : World} {o : Option (List ByteArray × Int)} {v : Value} (h : ErrO w o v) (hb : Below w.heap.size w w') : ErrO w' o v := h.keep (fun b cs fr hc => hb.block b (lt_of hc))
/-- What a question's Poll answers. -/
structure PollA where
  p1 : Option Addr
  n1 : Nat
  c1 : Nat
  p2 : Option Addr
  n2 : Nat
  c2 : Nat
  po : Int
  li : Int
  dp : Option Addr
  dn : Nat
  dc : Nat
  err : Option (List ByteArray × Int)
  done : Bool
def PollRes (w : World) (b : Nat) (cs : Array Value) (t : TypeId) (a : PollA) (e : Ending) (w' : World) : Prop :=
  (∃ er, e = .returned (.tuple #[.agg #[.slice a.p1 a.n1 a.c1, .slice a.p2 a.n2 a.c2, .int .i64 a.po, .int .i64 a.li], .slice a.dp a.dn a.dc, er, .bool a.done]) ∧ ErrO w' a.err er) ∧ w'.heap[b]? = some (.cells cs t (0, 0)) ∧ ButL w.heap.size [b] w w'
/-- The boxes that Poll makes. -/
structure PollBox (w : World) (ov : Value) (O A D E B : Nat) : Prop where
  hO : w.heap[O]? = some (.cells #[ov] 33 (0, 0))
  hA : w.heap[A]? = some (.cells #[.slice none 0 0, .slice none 0 0, .int .i64 0, .int .i64 0] 25 (0, 0))
  hD : w.heap[D]? = some (.cells #[.slice none 0 0] 26 (0, 0))
  hE : w.heap[E]? = some (.cells #[.nilIface] 35 (0, 0))
  hB : w.heap[B]? = some (.cells #[.bool false] 4 (0, 0))
theorem PollBox.keep {w w' : World} {ov : Value} {O A D E B : Nat} (h : PollBox w ov O A D E B) (hh : ∀ k, k = O ∨ k = A ∨ k = D ∨ k = E ∨ k = B → w'.heap[k]? = w.heap[k]?) : PollBox w' ov O A D E B :=
  ⟨(hh _ (.inl rfl)).trans h.hO, (hh _ (.inr (.inl rfl))).trans h.hA, (hh _ (.inr (.inr (.inl rfl)))).trans h.hD, (hh _ (.inr (.inr (.inr (.inl rfl))))).trans h.hE, (hh _ (.inr (.inr (.inr (.inr rfl))))).trans h.hB⟩
theorem metPO (n : Nat) (v : Value) (w : World) : (Go.method (n + 1) 159 v "Poll").run Try.prog w = .ok (93, v) w := by kernel_rfl
theorem metPH (n b : Nat) (w : World) : (Go.method (n + 2) 154 (.pointer (some ⟨b, 0, none⟩)) "Poll").run Try.prog w = .ok (93, .pointer (some ⟨b, 0, none⟩)) w := by kernel_rfl
theorem op_meth {w : World} {d : DefL} {n h : Int} {b : Nat} {v : Value} (hO : OpAt w d n h b v) : ∃ t, v = .iface t (.pointer (some ⟨b, 0, none⟩)) ∧ ∀ n w, (Go.method (n + 2) t (.pointer (some ⟨b, 0, none⟩)) "Poll").run Try.prog w = .ok (93, .pointer (some ⟨b, 0, none⟩)) w := by
  rcases hO with ⟨_, e, _⟩ | ⟨_, e, _⟩
  · exact ⟨_, e, fun n w => metPO (n + 1) _ w⟩
  · exact ⟨_, e, fun n w => metPH n b w⟩
theorem pollC_end {w w2 : World} {A D E B b : Nat} {x0 x1 x2 x3 xd xe xb y0 y1 y2 y3 yd yb er : Value} {cs : Array Value} {t : TypeId} {err : Option (List ByteArray × Int)}
    (hA : w2.heap[A]? = some (.cells #[x0, x1, x2, x3] 25 (0, 0))) (hD : w2.heap[D]? = some (.cells #[xd] 26 (0, 0))) (hE : w2.heap[E]? = some (.cells #[xe] 35 (0, 0))) (hB : w2.heap[B]? = some (.cells #[xb] 4 (0, 0)))
    (hb : w2.heap[b]? = some (.cells cs t (0, 0))) (her : ErrO w2 err er) (hbl : ButL w.heap.size [b] w w2) (nA : A ≠ b) (nD : D ≠ b) (nE : E ≠ b) (nB : B ≠ b) (nAD : D ≠ A) (nAE : E ≠ A) (nAB : B ≠ A) (nDE : E ≠ D) (nDB : B ≠ D) (nEB : B ≠ E) :
    let W := (((((((w2.setCell ⟨A, 0, none⟩ y0).setCell ⟨A, 1, none⟩ y1).setCell ⟨A, 2, none⟩ y2).setCell ⟨A, 3, none⟩ y3).setCell ⟨D, 0, none⟩ yd).setCell ⟨E, 0, none⟩ er).setCell ⟨B, 0, none⟩ yb)
    W.heap[A]? = some (.cells #[y0, y1, y2, y3] 25 (0, 0)) ∧ W.heap[D]? = some (.cells #[yd] 26 (0, 0)) ∧ (∃ er, W.heap[E]? = some (.cells #[er] 35 (0, 0)) ∧ ErrO W err er) ∧ W.heap[B]? = some (.cells #[yb] 4 (0, 0)) ∧ W.heap[b]? = some (.cells cs t (0, 0)) ∧ ButL w.heap.size [b, A, D, E, B] w W := by
  intro W
  have oth : ∀ k, k ≠ A → k ≠ D → k ≠ E → k ≠ B → W.heap[k]? = w2.heap[k]? := fun k h1 h2 h3 h4 =>
    (setN h4).trans ((setN h3).trans ((setN h2).trans (set4_ne h1 _ _ _ _)))
  refine ⟨?_, ?_, ⟨er, ?_, her.keep (fun k c fr hk => oth k ?_ ?_ ?_ ?_)⟩, ?_, (oth b (Ne.symm nA) (Ne.symm nD) (Ne.symm nE) (Ne.symm nB)).trans hb, ?_⟩
  · exact (setN (Ne.symm nAB)).trans ((setN (Ne.symm nAE)).trans ((setN (Ne.symm nAD)).trans (set4_at hA _ _ _ _)))
  · exact (setN (Ne.symm nDB)).trans ((setN (Ne.symm nDE)).trans (set1 ((set4_ne nAD _ _ _ _).trans hD)))
  · exact (setN (Ne.symm nEB)).trans (set1 ((setN nDE).trans ((set4_ne nAE _ _ _ _).trans hE)))
  · exact ne_of_ty hk hA (by decide)
  · exact ne_of_ty hk hD (by decide)
  · exact ne_of_ty hk hE (by decide)
  · exact ne_of_ty hk hB (by decide)
  · exact set1 ((setN nEB).trans ((setN nDB).trans ((set4_ne nAB _ _ _ _).trans hB)))
  · have h0 : ButL w.heap.size [b, A, D, E, B] w w2 := ⟨hbl.os, hbl.tape, hbl.output, hbl.size, fun k hk hn => hbl.block k hk (by intro hm; rw [List.mem_singleton] at hm; exact hn (by rw [hm]; simp))⟩
    exact (((but_set4 h0 (.inl (by simp)) _ _ _ _).set (.inl (by simp)) _ _).set (.inl (by simp)) _ _).set (.inl (by simp)) _ _
set_option maxHeartbeats 2000000 in
set_option maxRecDepth 100000 in
theorem pollC_ret (w : World) (tv : TypeId) (b : Nat) (cs : Array Value) (t : TypeId) (a : PollA) (O A D E B : Nat) (hBx : PollBox w (.iface tv (.pointer (some ⟨b, 0, none⟩))) O A D E B) (hm : ∀ n w, (Go.method (n + 2) tv (.pointer (some ⟨b, 0, none⟩)) "Poll").run Try.prog w = .ok (93, .pointer (some ⟨b, 0, none⟩)) w)
    (hb : ∃ cs0 fr, w.heap[b]? = some (.cells cs0 t fr)) (ht : t ≠ 33 ∧ t ≠ 25 ∧ t ≠ 26 ∧ t ≠ 35 ∧ t ≠ 4)
    (HPl : Calls Try.prog 93 #[.pointer (some ⟨b, 0, none⟩)] w (PollRes w b cs t a)) :
    Calls Try.prog 34 #[.pointer (some ⟨O, 0, none⟩), .pointer (some ⟨A, 0, none⟩), .pointer (some ⟨D, 0, none⟩), .pointer (some ⟨E, 0, none⟩), .pointer (some ⟨B, 0, none⟩)] w fun e w' => e = .returned (.tuple #[]) ∧
      w'.heap[A]? = some (.cells #[.slice a.p1 a.n1 a.c1, .slice a.p2 a.n2 a.c2, .int .i64 a.po, .int .i64 a.li] 25 (0, 0)) ∧ w'.heap[D]? = some (.cells #[.slice a.dp a.dn a.dc] 26 (0, 0)) ∧ (∃ er, w'.heap[E]? = some (.cells #[er] 35 (0, 0)) ∧ ErrO w' a.err er) ∧ w'.heap[B]? = some (.cells #[.bool a.done] 4 (0, 0)) ∧
      w'.heap[b]? = some (.cells cs t (0, 0)) ∧ ButL w.heap.size [b, A, D, E, B] w w' := by
  have kO := cell1 hBx.hO
  obtain ⟨cs0, fr0, hb0⟩ := hb
  have nA : A ≠ b := ne_of_ty hBx.hA hb0 (Ne.symm ht.2.1)
  have nD : D ≠ b := ne_of_ty hBx.hD hb0 (Ne.symm ht.2.2.1)
  have nE : E ≠ b := ne_of_ty hBx.hE hb0 (Ne.symm ht.2.2.2.1)
  have nB : B ≠ b := ne_of_ty hBx.hB hb0 (Ne.symm ht.2.2.2.2)
  have nAD : D ≠ A := ne_of_ty hBx.hD hBx.hA (by decide)
  have nAE : E ≠ A := ne_of_ty hBx.hE hBx.hA (by decide)
  have nAB : B ≠ A := ne_of_ty hBx.hB hBx.hA (by decide)
  have nDE : E ≠ D := ne_of_ty hBx.hE hBx.hD (by decide)
  have nDB : B ≠ D := ne_of_ty hBx.hB hBx.hD (by decide)
  have nEB : B ≠ E := ne_of_ty hBx.hB hBx.hE (by decide)
  have HN := Lib.hid (And.intro nA (And.intro nD (And.intro nE nB)))
  have HN2 := Lib.hid (And.intro nAD (And.intro nAE (And.intro nAB (And.intro nDE (And.intro nDB nEB)))))
  have HBx : Hid (∀ w2, ButL w.heap.size [b] w w2 → w2.heap[A]? = some (.cells #[.slice none 0 0, .slice none 0 0, .int .i64 0, .int .i64 0] 25 (0, 0)) ∧ w2.heap[D]? = some (.cells #[.slice none 0 0] 26 (0, 0)) ∧ w2.heap[E]? = some (.cells #[.nilIface] 35 (0, 0)) ∧ w2.heap[B]? = some (.cells #[.bool false] 4 (0, 0))) := Lib.hid (fun w2 h2 =>
    ⟨(h2.block A (lt_of hBx.hA) (by rw [List.mem_singleton]; exact nA)).trans hBx.hA, (h2.block D (lt_of hBx.hD) (by rw [List.mem_singleton]; exact nD)).trans hBx.hD, (h2.block E (lt_of hBx.hE) (by rw [List.mem_singleton]; exact nE)).trans hBx.hE, (h2.block B (lt_of hBx.hB) (by rw [List.mem_singleton]; exact nB)).trans hBx.hB⟩)
  have HP := Lib.hid HPl
  clear hBx HPl nA nD nE nB hb0 ht
  obtain ⟨p1, n1, c1, p2, n2, c2, po, li, dp, dn, dc, err, done⟩ := a
  dsimp only at *
  go_enter Try.func34, Try.ntmps34
  go_wp2_with (go_at_call 93; refine HP.out.mono ?_; rintro e w2 ⟨⟨er, rfl, her⟩, hcb, hbl⟩; obtain ⟨xA, xD, xE, xB⟩ := HBx.out w2 hbl; have r0 := cellJ xA (j := 0) rfl; have r1 := cellJ xA (j := 1) rfl; have r2 := cellJ xA (j := 2) rfl; have r3 := cellJ xA (j := 3) rfl; have f0 := freeJ xA 0; have f1 := freeJ xA 1; have f2 := freeJ xA 2; have f3 := freeJ xA 3; have kD := cell1 xD; have fD := freeJ xD 0; have kE := cell1 xE; have fE := freeJ xE 0; have kB := cell1 xB; have fB := freeJ xB 0; have HXA := Lib.hid xA; have HXD := Lib.hid xD; have HXE := Lib.hid xE; have HXB := Lib.hid xB; have HC := Lib.hid hcb; have HL := Lib.hid hbl; have HEr := Lib.hid her; have hsh := her.shape; clear xA xD xE xB hcb hbl her; dsimp only at HEr; rcases hsh with rfl | ⟨te, xe, rfl⟩)
  all_goals
    go_end0
    refine ⟨rfl, ?_⟩
    obtain ⟨mA, mD, mE, mB⟩ := HN.out
    obtain ⟨mAD, mAE, mAB, mDE, mDB, mEB⟩ := HN2.out
    exact pollC_end HXA.out HXD.out HXE.out HXB.out HC.out HEr.out HL.out mA mD mE mB mAD mAE mAB mDE mDB mEB
set_option maxHeartbeats 1000000 in
set_option maxRecDepth 100000 in
theorem pollC_boom (w : World) (tv : TypeId) (b O A D E B : Nat) (R : World → Prop) (hO : w.heap[O]? = some (.cells #[.iface tv (.pointer (some ⟨b, 0, none⟩))] 33 (0, 0))) (hm : ∀ n w, (Go.method (n + 2) tv (.pointer (some ⟨b, 0, none⟩)) "Poll").run Try.prog w = .ok (93, .pointer (some ⟨b, 0, none⟩)) w)
    (HPl : Calls Try.prog 93 #[.pointer (some ⟨b, 0, none⟩)] w fun e w' => Boom e ∧ R w') :
    Calls Try.prog 34 #[.pointer (some ⟨O, 0, none⟩), .pointer (some ⟨A, 0, none⟩), .pointer (some ⟨D, 0, none⟩), .pointer (some ⟨E, 0, none⟩), .pointer (some ⟨B, 0, none⟩)] w fun e w' => Boom e ∧ R w' := by
  have kO := cell1 hO
  have HP := Lib.hid HPl
  clear hO HPl
  go_enter Try.func34, Try.ntmps34
  go_wp2_with (go_at_call 93; refine HP.out.mono ?_; rintro e w2 ⟨⟨u, pv, rfl⟩, hr⟩; have HR := Lib.hid hr; clear hr)
  exact ⟨rfl, ⟨_, _, rfl⟩, HR.out⟩
set_option maxHeartbeats 1000000 in
set_option maxRecDepth 100000 in
theorem pollC_nil (w : World) (O A D E B : Nat) (hO : w.heap[O]? = some (.cells #[.nilIface] 33 (0, 0))) :
    Calls Try.prog 34 #[.pointer (some ⟨O, 0, none⟩), .pointer (some ⟨A, 0, none⟩), .pointer (some ⟨D, 0, none⟩), .pointer (some ⟨E, 0, none⟩), .pointer (some ⟨B, 0, none⟩)] w fun e w' => Boom e ∧ w = w' := by
  have kO := cell1 hO
  clear hO
  go_enter Try.func34, Try.ntmps34
  go_wp2
  exact ⟨rfl, ⟨_, _, rfl⟩, rfl⟩
end Go.Proofs.Ytpdkjifalgeodaa
