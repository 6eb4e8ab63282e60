/- Contracts: the closure of Begin; Begin. -/
import Derived.Test.YtpdkjifalgeodaaSh
namespace Go.Proofs.Ytpdkjifalgeodaa
open Go.RowKit Go.Extern.Stop Go.Stop Go.Extern Go.Lib
theorem src_meth (d : DefL) : ∃ t, srcV d = .iface t (defV d) ∧ (∀ n w, (Go.method (n + 2) t (defV d) "Name").run Try.prog w = .ok (86, defV d) w) ∧ (∀ n w, (Go.method (n + 2) t (defV d) "Begin").run Try.prog w = .ok (85, defV d) w) := by
  cases h : d.wild
  · exact ⟨_, srcV_able h, fun n w => metNA n d w, fun n w => metBA n d w⟩
  · exact ⟨_, srcV_wild h, fun n w => metNP (n + 1) _ w, fun n w => metBP (n + 1) _ w⟩
/-- A question at such a source, as a value, and where it lies. -/
def OpAt (w : World) (d : DefL) (n h : Int) (b : Nat) (v : Value) : Prop :=
  (d.hears = false ∧ v = .iface 159 (.pointer (some ⟨b, 0, none⟩)) ∧ w.heap[b]? = some (.cells (opC d n) 156 (0, 0))) ∨
  (d.hears = true ∧ v = .iface 154 (.pointer (some ⟨b, 0, none⟩)) ∧ w.heap[b]? = some (.cells (heC d n h) 158 (0, 0)))
theorem OpAt.iface {w : World} {d : DefL} {n h : Int} {b : Nat} {v : Value} (hO : OpAt w d n h b v) : ∃ t, v = .iface t (.pointer (some ⟨b, 0, none⟩)) := by
  rcases hO with ⟨_, e, _⟩ | ⟨_, e, _⟩
  · exact ⟨_, e⟩
  · exact ⟨_, e⟩
theorem OpAt.lt {w : World} {d : DefL} {n h : Int} {b : Nat} {v : Value} (hO : OpAt w d n h b v) : b < w.heap.size := by
  rcases hO with ⟨_, _, e⟩ | ⟨_, _, e⟩
  · exact lt_of e
  · exact lt_of e
theorem OpAt.same {w w' : World} {d : DefL} {n h : Int} {b : Nat} {v : Value} (hO : OpAt w d n h b v) (hb : w'.heap[b]? = w.heap[b]?) : OpAt w' d n h b v := by
  rcases hO with ⟨h1, e, h2⟩ | ⟨h1, e, h2⟩
  · exact .inl ⟨h1, e, hb.trans h2⟩
  · exact .inr ⟨h1, e, hb.trans h2⟩
theorem pbegin_ok (d : DefL) (db : Int) (n p : ByteArray) (port : Int) (w : World) (h1 : ¬ d.beg = 1) (h2 : ¬ d.beg = 2) :
    Calls Try.prog 85 #[defV d, qryV db n p port] w fun e w' => ∃ b v, e = .returned v ∧ OpAt w' d 0 0 b v ∧ w.heap.size ≤ b ∧ Below w.heap.size w w' := by
  cases hh : d.hears
  · refine (pbegin_op d db n p port w h1 h2 hh).mono ?_
    rintro e w' ⟨b, he, hb, hc, hB⟩
    exact ⟨b, _, he, .inl ⟨hh, rfl, hc⟩, hb, hB⟩
  · refine (pbegin_he d db n p port w h1 h2 hh).mono ?_
    rintro e w' ⟨b, he, hb, hc, hB⟩
    exact ⟨b, _, he, .inr ⟨hh, rfl, hc⟩, hb, hB⟩
/-- The boxes that Begin makes: the source, the name, the query, the answer. -/
structure BegBox (w : World) (s : Value) (nm : ByteArray) (db : Int) (n p : ByteArray) (port : Int) (ov : Value) (S N Q O : Nat) : Prop where
  hs : w.heap[S]? = some (.cells #[s] 39 (0, 0))
  hn : w.heap[N]? = some (.cells #[.string nm] 9 (0, 0))
  hq : w.heap[Q]? = some (.cells #[.int .i64 db, .string n, .string p, .int .i64 port] 42 (0, 0))
  ho : w.heap[O]? = some (.cells #[ov] 33 (0, 0))
  sn : S ≠ N
  qn : Q ≠ N
  on : O ≠ N
  qo : Q ≠ O
  so : S ≠ O
theorem BegBox.below {w w' : World} {s : Value} {nm : ByteArray} {db : Int} {n p : ByteArray} {port : Int} {ov : Value} {S N Q O : Nat} (h : BegBox w s nm db n p port ov S N Q O) (hb : Below w.heap.size w w') : BegBox w' s nm db n p port ov S N Q O :=
  ⟨(hb.block _ (lt_of h.hs)).trans h.hs, (hb.block _ (lt_of h.hn)).trans h.hn, (hb.block _ (lt_of h.hq)).trans h.hq, (hb.block _ (lt_of h.ho)).trans h.ho, h.sn, h.qn, h.on, h.qo, h.so⟩
theorem BegBox.setN {w : World} {s : Value} {nm : ByteArray} {db : Int} {n p : ByteArray} {port : Int} {ov : Value} {S N Q O : Nat} (h : BegBox w s nm db n p port ov S N Q O) (nm' : ByteArray) : BegBox (w.setCell ⟨N, 0, none⟩ (.string nm')) s nm' db n p port ov S N Q O :=
  ⟨(Proofs.Ytpdkjifalgeodaa.setN h.sn).trans h.hs, set1 h.hn, (Proofs.Ytpdkjifalgeodaa.setN h.qn).trans h.hq, (Proofs.Ytpdkjifalgeodaa.setN h.on).trans h.ho, h.sn, h.qn, h.on, h.qo, h.so⟩
set_option maxHeartbeats 1000000 in
set_option maxRecDepth 100000 in
/-- The closure's first part: the name is told, and whether the database is taken. -/
theorem beginC_no (d : DefL) (db : Int) (n p : ByteArray) (port : Int) (w : World) (S N Q O : Nat) (h : BegBox w (srcV d) ⟨#[]⟩ db n p port .nilIface S N Q O) (hk : takes d db = false) :
    Calls Try.prog 26 #[.pointer (some ⟨S, 0, none⟩), .pointer (some ⟨N, 0, none⟩), .pointer (some ⟨Q, 0, none⟩), .pointer (some ⟨O, 0, none⟩)] w fun e w' => e = .returned (.tuple #[]) ∧ ButL w.heap.size [N, O] w w' ∧ w'.heap[N]? = some (.cells #[.string d.label] 9 (0, 0)) ∧ w'.heap[O]? = some (.cells #[.nilIface] 33 (0, 0)) := by
  have hb := al_bel w (.cells (defC d) 71)
  have h2 := h.below hb
  have h3 := h2.setN d.label
  obtain ⟨w3, hw3⟩ : ∃ W, (w.alloc (.cells (defC d) 71)).setCell ⟨N, 0, none⟩ (.string d.label) = W := ⟨_, rfl⟩
  rw [hw3] at h3
  have HB : Hid (ButL w.heap.size [N, O] w w3) := Lib.hid (by rw [← hw3]; exact (ButL.of_below hb).set (.inl (by simp)) _ _)
  have HZ : Hid (w.heap.size ≤ w3.heap.size) := Lib.hid HB.out.size
  have k1 := cell1 h.hs
  have kN := cell1 h2.hn
  have fN := freeJ h2.hn 0
  have k3 := cell1 h3.hs
  have q3 := cellJ h3.hq (j := 0) rfl
  have HM := Lib.hid (pname_any d w)
  have HK := Lib.hid (knows_any d db w3)
  have H3 := Lib.hid h3
  obtain ⟨t, ht, mN, mB⟩ := src_meth d
  rw [ht] at k1 k3 HK
  rw [hk] at HK
  have HW3 := Lib.hid hw3
  clear h h2 h3 hb hk ht hw3
  have HFin : Hid (∀ w4, Below w3.heap.size w3 w4 → ButL w.heap.size [N, O] w w4 ∧ w4.heap[N]? = some (.cells #[.string d.label] 9 (0, 0)) ∧ w4.heap[O]? = some (.cells #[.nilIface] 33 (0, 0))) := Lib.hid (fun w4 hb4 => ⟨HB.out.trans HZ.out hb4, (hb4.block _ (lt_of H3.out.hn)).trans H3.out.hn, (hb4.block _ (lt_of H3.out.ho)).trans H3.out.ho⟩)
  clear HB HZ H3
  generalize d.label = lb at *
  generalize defC d = cs at *
  generalize defV d = v at *
  go_enter Try.func26, Try.ntmps26
  go_upto_region 1 with (go_at_call 86; refine HM.out.mono ?_; rintro e w2 ⟨rfl, rfl⟩)
  rw [HW3.out]
  go_wp2_with (go_at_call 27; refine HK.out.mono ?_; rintro e w4 ⟨rfl, hb⟩; have HB4 := Lib.hid hb; clear hb)
  go_end0
  exact ⟨rfl, HFin.out _ HB4.out⟩
/-- What Begin of a source gives that begins, or gives nothing. -/
def OpRes (w : World) (d : DefL) (B : Nat) (v : Value) : Prop := (d.beg = 1 ∧ v = .nilIface) ∨ (¬ d.beg = 1 ∧ ¬ d.beg = 2 ∧ ∃ b, OpAt w d 0 0 b v ∧ B ≤ b)
theorem OpRes.shape {w : World} {d : DefL} {B : Nat} {v : Value} (h : OpRes w d B v) : v = .nilIface ∨ ∃ t x, v = .iface t x := by
  rcases h with ⟨_, e⟩ | ⟨_, _, b, h, _⟩
  · exact .inl e
  · obtain ⟨t, e⟩ := h.iface; exact .inr ⟨t, _, e⟩
theorem OpRes.same {w w' : World} {d : DefL} {B : Nat} {v : Value} (h : OpRes w d B v) (hb : ∀ k, B ≤ k → k < w.heap.size → w'.heap[k]? = w.heap[k]?) : OpRes w' d B v := by
  rcases h with h | ⟨h1, h2, b, h, hB⟩
  · exact .inl h
  · exact .inr ⟨h1, h2, b, h.same (hb b hB h.lt), hB⟩
theorem OpRes.mono {w : World} {d : DefL} {B B' : Nat} {v : Value} (h : OpRes w d B v) (hB : B' ≤ B) : OpRes w d B' v := by
  rcases h with h | ⟨h1, h2, b, h, hb⟩
  · exact .inl h
  · exact .inr ⟨h1, h2, b, h, by omega⟩
theorem pbegin_res (d : DefL) (db : Int) (n p : ByteArray) (port : Int) (w : World) (h2 : ¬ d.beg = 2) :
    Calls Try.prog 85 #[defV d, qryV db n p port] w fun e w' => ∃ v, e = .returned v ∧ OpRes w' d w.heap.size v ∧ Below w.heap.size w w' := by
  by_cases h1 : d.beg = 1
  · refine (pbegin_nil d db n p port w h1).mono ?_
    rintro e w' ⟨he, hB⟩
    exact ⟨_, he, .inl ⟨h1, rfl⟩, hB⟩
  · refine (pbegin_ok d db n p port w h1 h2).mono ?_
    rintro e w' ⟨b, v, he, ho, hb, hB⟩
    exact ⟨v, he, .inr ⟨h1, h2, b, ho, hb⟩, hB⟩
set_option maxHeartbeats 1000000 in
set_option maxRecDepth 100000 in
theorem beginC_res (d : DefL) (db : Int) (n p : ByteArray) (port : Int) (w : World) (S N Q O : Nat) (h : BegBox w (srcV d) ⟨#[]⟩ db n p port .nilIface S N Q O) (hk : takes d db = true) (hbg : ¬ d.beg = 2) :
    Calls Try.prog 26 #[.pointer (some ⟨S, 0, none⟩), .pointer (some ⟨N, 0, none⟩), .pointer (some ⟨Q, 0, none⟩), .pointer (some ⟨O, 0, none⟩)] w fun e w' => e = .returned (.tuple #[]) ∧ ButL w.heap.size [N, O] w w' ∧ w'.heap[N]? = some (.cells #[.string d.label] 9 (0, 0)) ∧ ∃ ov, w'.heap[O]? = some (.cells #[ov] 33 (0, 0)) ∧ OpRes w' d w.heap.size ov := by
  have hb := al_bel w (.cells (defC d) 71)
  have h2 := h.below hb
  have h3 := h2.setN d.label
  obtain ⟨w3, hw3⟩ : ∃ W, (w.alloc (.cells (defC d) 71)).setCell ⟨N, 0, none⟩ (.string d.label) = W := ⟨_, rfl⟩
  rw [hw3] at h3
  have HB : Hid (ButL w.heap.size [N, O] w w3) := Lib.hid (by rw [← hw3]; exact (ButL.of_below hb).set (.inl (by simp)) _ _)
  have HZ : Hid (w.heap.size ≤ w3.heap.size) := Lib.hid HB.out.size
  have k1 := cell1 h.hs
  have kN := cell1 h2.hn
  have fN := freeJ h2.hn 0
  have k3 := cell1 h3.hs
  have q3 := cellJ h3.hq (j := 0) rfl
  have HM := Lib.hid (pname_any d w)
  have HK := Lib.hid (knows_any d db w3)
  have H3 := Lib.hid h3
  obtain ⟨t, ht, mN, mB⟩ := src_meth d
  rw [ht] at k1 k3 HK
  rw [hk] at HK
  have HW3 := Lib.hid hw3
  have HT := Lib.hid ht
  have HOl := Lib.hid (lt_of h.ho)
  clear h h2 h3 hb hk ht hw3
  have hOn : O < w.heap.size := HOl.out
  have HBg : Hid (∀ W, Calls Try.prog 85 #[defV d, qryV db n p port] W fun e w' => ∃ v, e = .returned v ∧ OpRes w' d W.heap.size v ∧ Below W.heap.size W w') := Lib.hid (fun W => pbegin_res d db n p port W hbg)
  have HFin : Hid (∀ w4 w5 ov, Below w3.heap.size w3 w4 → Below w4.heap.size w4 w5 → OpRes w5 d w4.heap.size ov → ButL w.heap.size [N, O] w (w5.setCell ⟨O, 0, none⟩ ov) ∧ (w5.setCell ⟨O, 0, none⟩ ov).heap[N]? = some (.cells #[.string d.label] 9 (0, 0)) ∧ ∃ ov', (w5.setCell ⟨O, 0, none⟩ ov).heap[O]? = some (.cells #[ov'] 33 (0, 0)) ∧ OpRes (w5.setCell ⟨O, 0, none⟩ ov) d w.heap.size ov') := Lib.hid (fun w4 w5 ov hb4 hb5 ho => by
    have hb := keepE hb4 hb5
    have z4 := hb4.size
    have z3 := HZ.out
    refine ⟨(HB.out.trans HZ.out hb).set (.inl (by simp)) _ _, ?_, ov, set1 ((hb.block _ (lt_of H3.out.ho)).trans H3.out.ho), (ho.mono (by omega)).same (fun k hk _ => Proofs.Ytpdkjifalgeodaa.setN (by omega))⟩
    exact (Proofs.Ytpdkjifalgeodaa.setN (Ne.symm H3.out.on)).trans ((hb.block _ (lt_of H3.out.hn)).trans H3.out.hn))
  clear HB HZ
  generalize d.label = lb at *
  generalize defC d = cs at *
  generalize defV d = v at *
  go_enter Try.func26, Try.ntmps26
  go_upto_region 1 with (go_at_call 86; refine HM.out.mono ?_; rintro e w2 ⟨rfl, rfl⟩)
  rw [HW3.out]
  go_upto_region 2 with (go_at_call 27; refine HK.out.mono ?_; rintro e w4 ⟨rfl, hb⟩; have hx := H3.out.below hb; have k4 := cell1 hx.hs; rw [HT.out] at k4; have q0 := cellJ hx.hq (j := 0) rfl; have q1 := cellJ hx.hq (j := 1) rfl; have q2 := cellJ hx.hq (j := 2) rfl; have q3 := cellJ hx.hq (j := 3) rfl; have HX := Lib.hid hx; have HB4 := Lib.hid hb; clear hb hx)
  go_wp2_with (go_at_call 85; refine (HBg.out _).mono ?_; rintro e w5 ⟨ov, rfl, hor, hb⟩; have hx := HX.out.below hb; have o5 := cell1 hx.ho; have f5 := freeJ hx.ho 0; have hsh := hor.shape; have HOr := Lib.hid hor; have HB5 := Lib.hid hb; clear hb hx hor; rcases hsh with rfl | ⟨tt, xx, rfl⟩)
  all_goals
    go_end0
    exact ⟨rfl, HFin.out _ _ _ HB4.out HB5.out HOr.out⟩
set_option maxHeartbeats 1000000 in
set_option maxRecDepth 100000 in
theorem beginC_bad (d : DefL) (db : Int) (n p : ByteArray) (port : Int) (w : World) (S N Q O : Nat) (h : BegBox w (srcV d) ⟨#[]⟩ db n p port .nilIface S N Q O) (hk : takes d db = true) (hbg : d.beg = 2) :
    Calls Try.prog 26 #[.pointer (some ⟨S, 0, none⟩), .pointer (some ⟨N, 0, none⟩), .pointer (some ⟨Q, 0, none⟩), .pointer (some ⟨O, 0, none⟩)] w fun e w' => Boom e ∧ ButL w.heap.size [N, O] w w' ∧ w'.heap[N]? = some (.cells #[.string d.label] 9 (0, 0)) ∧ w'.heap[O]? = some (.cells #[.nilIface] 33 (0, 0)) := by
  have hb := al_bel w (.cells (defC d) 71)
  have h2 := h.below hb
  have h3 := h2.setN d.label
  obtain ⟨w3, hw3⟩ : ∃ W, (w.alloc (.cells (defC d) 71)).setCell ⟨N, 0, none⟩ (.string d.label) = W := ⟨_, rfl⟩
  rw [hw3] at h3
  have HB : Hid (ButL w.heap.size [N, O] w w3) := Lib.hid (by rw [← hw3]; exact (ButL.of_below hb).set (.inl (by simp)) _ _)
  have HZ : Hid (w.heap.size ≤ w3.heap.size) := Lib.hid HB.out.size
  have k1 := cell1 h.hs
  have kN := cell1 h2.hn
  have fN := freeJ h2.hn 0
  have k3 := cell1 h3.hs
  have q3 := cellJ h3.hq (j := 0) rfl
  have HM := Lib.hid (pname_any d w)
  have HK := Lib.hid (knows_any d db w3)
  have H3 := Lib.hid h3
  obtain ⟨t, ht, mN, mB⟩ := src_meth d
  rw [ht] at k1 k3 HK
  rw [hk] at HK
  have HW3 := Lib.hid hw3
  have HT := Lib.hid ht
  have HOl := Lib.hid (lt_of h.ho)
  clear h h2 h3 hb hk ht hw3
  have HBg : Hid (∀ W, Calls Try.prog 85 #[defV d, qryV db n p port] W fun e w' => Boom e ∧ Below W.heap.size W w') := Lib.hid (fun W => pbegin_bad d db n p port W hbg)
  have HFin : Hid (∀ w4 w5, Below w3.heap.size w3 w4 → Below w4.heap.size w4 w5 → ButL w.heap.size [N, O] w w5 ∧ w5.heap[N]? = some (.cells #[.string d.label] 9 (0, 0)) ∧ w5.heap[O]? = some (.cells #[.nilIface] 33 (0, 0))) := Lib.hid (fun w4 w5 hb4 hb5 => by
    have hb := keepE hb4 hb5
    exact ⟨HB.out.trans HZ.out hb, (hb.block _ (lt_of H3.out.hn)).trans H3.out.hn, (hb.block _ (lt_of H3.out.ho)).trans H3.out.ho⟩)
  clear HB HZ
  generalize d.label = lb at *
  generalize defC d = cs at *
  generalize defV d = v at *
  go_enter Try.func26, Try.ntmps26
  go_upto_region 1 with (go_at_call 86; refine HM.out.mono ?_; rintro e w2 ⟨rfl, rfl⟩)
  rw [HW3.out]
  go_upto_region 2 with (go_at_call 27; refine HK.out.mono ?_; rintro e w4 ⟨rfl, hb⟩; have hx := H3.out.below hb; have k4 := cell1 hx.hs; rw [HT.out] at k4; have q0 := cellJ hx.hq (j := 0) rfl; have q1 := cellJ hx.hq (j := 1) rfl; have q2 := cellJ hx.hq (j := 2) rfl; have q3 := cellJ hx.hq (j := 3) rfl; have HX := Lib.hid hx; have HB4 := Lib.hid hb; clear hb hx)
  go_wp2_with (go_at_call 85; refine (HBg.out _).mono ?_; rintro e w5 ⟨⟨u, pv, rfl⟩, hb⟩; have HB5 := Lib.hid hb; clear hb)
  exact ⟨rfl, ⟨_, _, rfl⟩, HFin.out _ _ HB4.out HB5.out⟩
set_option maxHeartbeats 1000000 in
set_option maxRecDepth 100000 in
theorem beginC_nil (w : World) (S N Q O : Nat) (hS : w.heap[S]? = some (.cells #[.nilIface] 39 (0, 0))) :
    Calls Try.prog 26 #[.pointer (some ⟨S, 0, none⟩), .pointer (some ⟨N, 0, none⟩), .pointer (some ⟨Q, 0, none⟩), .pointer (some ⟨O, 0, none⟩)] w fun e w' => Boom e ∧ w = w' := by
  have k1 := cell1 hS
  clear hS
  go_enter Try.func26, Try.ntmps26
  go_wp2
  exact ⟨rfl, ⟨_, _, rfl⟩, rfl⟩
end Go.Proofs.Ytpdkjifalgeodaa
