/- Sources called: what panics; Begin that panics; knows; the closure of nameOf. -/
import Derived.Test.YtpdkjifalgeodaaSd
import Derived.Laws.BitsLemmas
namespace Go.Proofs.Ytpdkjifalgeodaa
open Go.RowKit Go.Extern.Stop Go.Stop Go.Extern Go.Lib
/-- A panic of one value that nobody has recovered. -/
def Boom (e : Ending) : Prop := ∃ u pv, e = .panicked [{ v := .iface u pv, recovered := false }]
theorem bp {α : Type} {P : Program} {w : World} (k : IntKind) (x y : Int) (code : BoundsCode) :
    ∃ s w', (boundsPanic k x y code : Sem α).run P w = .halt (.panic (boundsValue P (IntKind.i64.wrap x) y s code.toNat)) w' ∧ (w' = w ∨ w' = w.drew) := by
  unfold boundsPanic boundsValue
  split
  · simp [runtimePanic, goPanic, go_sem]
    by_cases hq : (Question.extern "runtime.boundsError.signed" 2).cut (w.tape w.drawn (Question.extern "runtime.boundsError.signed" 2)) = 1
    · exact .inr ⟨_, ⟨hq, rfl⟩, .inr rfl⟩
    · exact .inl ⟨_, ⟨hq, rfl⟩, .inr rfl⟩
  · simp [runtimePanic, goPanic, go_sem]
    by_cases hk : k = .u64
    · exact .inl ⟨_, ⟨hk, rfl⟩, .inl rfl⟩
    · exact .inr ⟨_, ⟨hk, rfl⟩, .inl rfl⟩
set_option maxRecDepth 100000 in
theorem outI {w : World} (a : Addr) (n c : Nat) (i : Int) (h : ¬ (0 ≤ i ∧ i < n)) : ∃ u pv w', (Instr.indexAt 153 (.slice (some a) n c) (.int .i64 i)).run Try.prog w = .halt (.panic (.iface u pv)) w' ∧ (w' = w ∨ w' = w.drew) := by
  rw [run_indexAt_slice (h := Try.underlying153), if_neg h]
  obtain ⟨s, w', h1, h2⟩ := bp (α := Value) (P := Try.prog) (w := w) .i64 i n .index
  exact ⟨_, _, w', h1, h2⟩
set_option maxRecDepth 100000 in
theorem outN {w : World} (i : Int) : ∃ u pv w', (Instr.indexAt 153 (.slice none 0 0) (.int .i64 i)).run Try.prog w = .halt (.panic (.iface u pv)) w' ∧ (w' = w ∨ w' = w.drew) := by
  obtain ⟨s, w', h1, h2⟩ := bp (α := Value) (P := Try.prog) (w := w) .i64 i 0 .index
  have e : (Instr.indexAt 153 (.slice none 0 0) (.int .i64 i)).run Try.prog w = (boundsPanic .i64 i 0 .index : Sem Value).run Try.prog w := by
    simp [Instr.indexAt, run_underlying Try.underlying153, asIntOf]
  exact ⟨_, _, w', e.trans h1, h2⟩
set_option maxRecDepth 100000 in
theorem outB {w : World} (a : Addr) (c : Nat) : ∃ u pv w', (Instr.indexAt 29 (.slice (some a) 0 c) (.int .i64 0)).run Try.prog w = .halt (.panic (.iface u pv)) w' ∧ (w' = w ∨ w' = w.drew) := by
  rw [run_indexAt_slice (h := Try.underlying29), if_neg (by omega)]
  obtain ⟨s, w', h1, h2⟩ := bp (α := Value) (P := Try.prog) (w := w) .i64 0 (0 : Nat) .index
  exact ⟨_, _, w', h1, h2⟩
theorem infoInt : (Try.prog.info? 3).map (fun i => (i.zero, i.size, i.bytes)) = some (some (.int .i64 0), 1, 8) := by kernel_rfl
theorem wrap_one (db : Int) : wrap64 (wrap64 (1 + db) - db) = 1 := by
  unfold wrap64
  omega
theorem own_one {w : World} {B : Nat} {e : TypeId} {n : Nat} {v : Value} {xs : List Value} (h : w.ownsRow B e 1 v (n + 1) xs) : ∃ g cap, v = .slice (some ⟨g, 0, none⟩) (n + 1) cap := by
  rcases h.2 with ⟨_, b⟩ | ⟨g, cap, cur, a, _⟩
  · cases b
  · exact ⟨g, cap, a⟩
set_option maxHeartbeats 1000000 in
set_option maxRecDepth 100000 in
theorem pbegin_bad (d : DefL) (db : Int) (n p : ByteArray) (port : Int) (w : World) (h1 : d.beg = 2) :
    Calls Try.prog 85 #[defV d, qryV db n p port] w fun e w' => Boom e ∧ Below w.heap.size w w' := by
  obtain ⟨W, hW, hA, hQ, hs, hB⟩ := two_new w (.cells (defC d) 71) (.cells #[.int .i64 db, .string n, .string p, .int .i64 port] 42)
  have c7 : W.cell? ⟨w.heap.size, 7, none⟩ = some (.int .i64 2) := by rw [← h1]; exact cellJ hA (defC_at rfl)
  have HQ := Lib.hid hQ
  have HB := Lib.hid hB
  have HS := Lib.hid hs
  have hw1 := wrap_one db
  obtain ⟨i3, hi, hz0, hz1, hz2⟩ := info_parts infoInt
  clear hB hA hs hQ
  simp only [defV, qryV]
  generalize defC d = cs at *
  clear h1 d
  go_enter Try.func85, Try.ntmps85
  go_upto_region 1 with (fail)
  clear hW
  go_upto_region 7 with (at_builtin; refine wpList_append_own _ rfl _ _ 153 rfl W.heap.size 3 i3 (.int .i64 0) 1 8 Try.underlying153 hi hz0 hz1 hz2 rfl (by decide) _ 0 [] rfl (World.ownsRow_nil _ _ _ _) _ 1 1 [.int .i64 1] rfl rfl (by intro j u hj; match j, hj with | 0, hj => (cases hj; rw [Addr.add_mid]; exact cellJ (heap_alloc_new W _) rfl) | (k + 1), hj => (simp at hj)) (by intro u hu; rw [List.mem_singleton] at hu; subst hu; rfl) (by unfold maxLen; omega) (by omega) (by simp) ?_; intro v' w1 hown hg hnil; obtain ⟨g, cap, rfl⟩ := own_one hown; have HG := Lib.hid hg; clear hown hg hnil)
  have hbel : Below W.heap.size W w1 := ((Below.refl _ _).alloc (Nat.le_refl _) _).grown HG.out (by rw [al_size]; omega) (fun k hk => by cases hk)
  have cq : w1.cell? ⟨w.heap.size + 1, 0, none⟩ = some (.int .i64 db) := (hbel.cell (p := ⟨w.heap.size + 1, 0, none⟩) (by rw [HS.out]; exact Nat.lt_succ_self _)).trans (cellJ HQ.out rfl)
  obtain ⟨u, pv, w2, hrun, hw2⟩ := outI (w := w1) ⟨g, 0, none⟩ 1 cap 1 (by omega)
  have HE : Hid (Below w.heap.size w w2) := Lib.hid (by
    have h1 := keepE HB.out hbel
    rcases hw2 with rfl | rfl
    · exact h1
    · exact h1.drew)
  clear hbel hw2
  go_wp2
  exact ⟨rfl, ⟨_, _, rfl⟩, HE.out⟩
theorem srcV_wild {d : DefL} (h : d.wild = true) : srcV d = .iface 71 (defV d) := by unfold srcV; rw [if_pos h]
theorem srcV_able {d : DefL} (h : d.wild = false) : srcV d = .iface 73 (defV d) := by unfold srcV; rw [if_neg (by rw [h]; decide)]
theorem srcV_iface (d : DefL) : ∃ t, srcV d = .iface t (defV d) := by
  cases h : d.wild
  · exact ⟨_, srcV_able h⟩
  · exact ⟨_, srcV_wild h⟩
set_option maxHeartbeats 1000000 in
set_option maxRecDepth 100000 in
theorem knows_any (d : DefL) (db : Int) (w : World) : Calls Try.prog 27 #[srcV d, .int .i64 db] w fun e w' => e = .returned (.bool (takes d db)) ∧ Below w.heap.size w w' := by
  have HA : Hid (∀ W, Calls Try.prog 87 #[defV d, .int .i64 db] W fun e w' => e = .returned (.bool (kn d db)) ∧ Below W.heap.size W w') := Lib.hid (fun W => able_any d db W)
  have a1 := asPA (defV d)
  have a2 := asAA (defV d)
  have m1 := metAA
  cases h : d.wild
  · rw [srcV_able h, show takes d db = kn d db from by unfold takes; rw [h]; rfl]
    clear h
    generalize kn d db = r at *
    generalize defV d = v at *
    clear d
    go_enter Try.func27, Try.ntmps27
    go_wp2_with (go_at_call 87; refine (HA.out _).mono ?_; rintro e w2 ⟨rfl, hb⟩; have HB := Lib.hid hb; clear hb)
    go_ret
    exact ⟨rfl, HB.out⟩
  · rw [srcV_wild h, show takes d db = true from by unfold takes; rw [h]; rfl]
    clear h
    generalize defV d = v at *
    clear HA d
    go_enter Try.func27, Try.ntmps27
    go_wp2
    go_ret
    exact ⟨rfl, Below.refl _ _⟩
/-! ### The closure of nameOf. -/
set_option maxHeartbeats 1000000 in
set_option maxRecDepth 100000 in
theorem nameC_any (d : DefL) (w : World) (S N : Nat) (hS : w.heap[S]? = some (.cells #[srcV d] 39 (0, 0))) (hN : w.heap[N]? = some (.cells #[.string ⟨#[]⟩] 9 (0, 0))) :
    Calls Try.prog 43 #[.pointer (some ⟨S, 0, none⟩), .pointer (some ⟨N, 0, none⟩)] w fun e w' => e = .returned (.tuple #[]) ∧ ButL w.heap.size [N] w w' ∧ w'.heap[N]? = some (.cells #[.string d.label] 9 (0, 0)) := by
  have k1 := cell1 hS
  have HN := Lib.hid hN
  have HM := Lib.hid (pname_any d w)
  have m1 := metNP
  have m2 := metNA
  have hb := al_bel w (.cells (defC d) 71)
  have hN2 := al_keep (x := .cells (defC d) 71) hN
  have kN := cell1 hN2
  have fN := freeJ hN2 0
  have HB := Lib.hid hb
  have HN2 := Lib.hid hN2
  clear hS hN hb hN2
  cases h : d.wild
  · rw [srcV_able h] at k1
    have m3 := fun n => m2 n d
    clear h m2
    generalize hl : d.label = lb at *
    generalize hc : defC d = cs at *
    generalize hd : defV d = v at *
    clear hl hc hd d
    go_enter Try.func43, Try.ntmps43
    go_wp2_with (go_at_call 86; refine HM.out.mono ?_; rintro e w2 ⟨rfl, rfl⟩)
    go_end0
    exact ⟨rfl, (ButL.of_below HB.out).set (.inl (List.mem_singleton.2 rfl)) _ _, set1 HN2.out⟩
  · rw [srcV_wild h] at k1
    clear h m2
    generalize hl : d.label = lb at *
    generalize hc : defC d = cs at *
    generalize hd : defV d = v at *
    clear hl hc hd d
    go_enter Try.func43, Try.ntmps43
    go_wp2_with (go_at_call 86; refine HM.out.mono ?_; rintro e w2 ⟨rfl, rfl⟩)
    go_end0
    exact ⟨rfl, (ButL.of_below HB.out).set (.inl (List.mem_singleton.2 rfl)) _ _, set1 HN2.out⟩
set_option maxHeartbeats 1000000 in
set_option maxRecDepth 100000 in
theorem nameC_nil (w : World) (S N : Nat) (hS : w.heap[S]? = some (.cells #[.nilIface] 39 (0, 0))) :
    Calls Try.prog 43 #[.pointer (some ⟨S, 0, none⟩), .pointer (some ⟨N, 0, none⟩)] w fun e w' => Boom e ∧ w = w' := by
  have k1 := cell1 hS
  clear hS
  go_enter Try.func43, Try.ntmps43
  go_wp2
  exact ⟨rfl, ⟨_, _, rfl⟩, rfl⟩
end Go.Proofs.Ytpdkjifalgeodaa
