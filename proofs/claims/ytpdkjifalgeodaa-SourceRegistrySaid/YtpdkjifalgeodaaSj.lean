/- Contracts: Begin. -/
import Derived.Test.YtpdkjifalgeodaaSi
namespace Go.Proofs.Ytpdkjifalgeodaa
open Go.RowKit Go.Extern.Stop Go.Stop Go.Extern Go.Lib
theorem opE (t : TypeId) (x : Value) (w : World) : (binOp .eql 33 (.iface t x) .nilIface).run Try.prog w = .ok (.bool false) w := run_eql_iface_nil w _ (by kernel_rfl) _ _
theorem opN (w : World) : (binOp .eql 33 .nilIface .nilIface).run Try.prog w = .ok (.bool true) w := by kernel_rfl
theorem four_new (w : World) (A B C D : Obj) : ∃ W, (((w.alloc A).alloc B).alloc C).alloc D = W ∧ W.heap[w.heap.size]? = some A ∧ W.heap[w.heap.size + 1]? = some B ∧ W.heap[w.heap.size + 2]? = some C ∧ W.heap[w.heap.size + 3]? = some D ∧ W.heap.size = w.heap.size + 4 ∧ Below w.heap.size w W := by
  have s1 := al_size w A
  have s2 := al_size (w.alloc A) B
  have s3 := al_size ((w.alloc A).alloc B) C
  have s4 := al_size (((w.alloc A).alloc B).alloc C) D
  refine ⟨_, rfl, al_keep (al_keep (heap_alloc2_old w A B)), al_keep (al_keep (heap_alloc2_new w A B)), ?_, ?_, by omega, keepE (keepE (keepE (al_bel w A) (al_bel _ B)) (al_bel _ C)) (al_bel _ D)⟩
  · have := heap_alloc2_old ((w.alloc A).alloc B) C D
    rwa [s2, s1] at this
  · have := heap_alloc2_new ((w.alloc A).alloc B) C D
    rwa [s2, s1] at this
/-- The world in which Begin calls Guard. -/
structure BegW (w W : World) (s : Value) (db : Int) (n p : ByteArray) (port : Int) : Prop where
  box : BegBox W s ⟨#[]⟩ db n p port .nilIface w.heap.size (w.heap.size + 2) (w.heap.size + 1) (w.heap.size + 3)
  size : W.heap.size = w.heap.size + 4
  below : Below w.heap.size w W
set_option maxHeartbeats 1000000 in
set_option maxRecDepth 100000 in
theorem begin_core (s : Value) (hs : s = .nilIface ∨ ∃ t x, s = .iface t x) (db : Int) (n p : ByteArray) (port : Int) (w : World) (lb : ByteArray) (X : World → Value → Prop) (hX : ∀ w v, X w v → v = .nilIface ∨ ∃ t x, v = .iface t x)
    (HG : ∀ W, BegW w W s db n p port → Calls Try.prog 25 #[.string ⟨#[]⟩, .func (.func 26) #[] #[.pointer (some ⟨w.heap.size, 0, none⟩), .pointer (some ⟨w.heap.size + 2, 0, none⟩), .pointer (some ⟨w.heap.size + 1, 0, none⟩), .pointer (some ⟨w.heap.size + 3, 0, none⟩)]] W
      fun e w2 => (∃ ev, e = .returned ev) ∧ w2.heap[w.heap.size + 2]? = some (.cells #[.string lb] 9 (0, 0)) ∧ (∃ ov, w2.heap[w.heap.size + 3]? = some (.cells #[ov] 33 (0, 0)) ∧ X w2 ov) ∧ Below w.heap.size w w2) :
    Calls Try.prog 9 #[s, qryV db n p port] w fun e w' => ∃ ov w2, X w2 ov ∧ Below w.heap.size w w2 ∧
      ((ov = .nilIface ∧ e = .returned (.tuple #[.nilIface, .iface 76 (.pointer (some ⟨w2.heap.size, 0, none⟩))]) ∧ w' = w2.alloc (.cells #[.string lb, .iface 43 (.int .i64 2)] 79)) ∨
       (ov ≠ .nilIface ∧ e = .returned (.tuple #[ov, .nilIface]) ∧ w' = w2)) := by
  obtain ⟨W, hW, hA, hQ, hN, hO, hz, hB⟩ := four_new w (.cells #[s] 39) (.cells #[.int .i64 db, .string n, .string p, .int .i64 port] 42) (.cells #[.string ⟨#[]⟩] 9) (.cells #[.nilIface] 33)
  have HG2 := Lib.hid (HG W ⟨⟨hA, hN, hQ, hO, by omega, by omega, by omega, by omega, by omega⟩, hz, hB⟩)
  have HW := Lib.hid hW
  have HX := Lib.hid hX
  have hmf := mfn
  have e1 := opE
  have e2 := opN
  clear HG hA hQ hN hO hz hB hW hX
  unfold qryV
  rcases hs with rfl | ⟨t, x, rfl⟩
  all_goals
    go_enter Try.func9, Try.ntmps9
    go_upto_region 3 with (fail)
    rw [HW.out]
    go_upto_region 4 with (go_at_call 25; refine HG2.out.mono ?_; rintro e w2 ⟨⟨ev, rfl⟩, hn2, ⟨ov, ho2, hx⟩, hb⟩; have kn := cell1 hn2; have ko := cell1 ho2; have hsh := HX.out _ _ hx; have HXx := Lib.hid hx; have HB2 := Lib.hid hb; clear hn2 ho2 hx hb)
    rcases hsh with rfl | ⟨t2, x2, rfl⟩
    · go_wp2_with (go_at_call 28; refine (wrap_at _ _ _ _).mono ?_; rintro e w5 ⟨rfl, he⟩; have HE := Lib.hid he; clear he)
      go_ret2
      exact ⟨_, w2, HXx.out, HB2.out, .inl ⟨rfl, rfl, HE.out⟩⟩
    · go_wp2
      go_ret2
      exact ⟨_, w2, HXx.out, HB2.out, .inr ⟨(fun h => by cases h), rfl, rfl⟩⟩
theorem begin_guard {w W w3 : World} {s : Value} {db : Int} {n p : ByteArray} {port : Int} (h : BegW w W s db n p port) (hb : ButL (W.alloc gbox).heap.size [w.heap.size + 2, w.heap.size + 3] (W.alloc gbox) w3) (v : Value) : Below w.heap.size w (w3.setCell ⟨W.heap.size, 0, none⟩ v) :=
  (guard_but (T := []) (ButL.of_below h.below) (by have := h.size; omega) hb (by intro b hm; simp at hm; right; omega) v).toBelow
theorem begin_gbox {w W w3 : World} {s : Value} {db : Int} {n p : ByteArray} {port : Int} (h : BegW w W s db n p port) (hb : ButL (W.alloc gbox).heap.size [w.heap.size + 2, w.heap.size + 3] (W.alloc gbox) w3) : w3.heap[W.heap.size]? = some (.cells #[.bool false] 4 (0, 0)) :=
  (hb.block _ (by rw [al_size]; omega) (by have := h.size; simp; omega)).trans (heap_alloc_new W _)
set_option maxHeartbeats 1000000 in
theorem begin_ok (d : DefL) (db : Int) (n p : ByteArray) (port : Int) (w : World) (hk : takes d db = true) (h1 : ¬ d.beg = 1) (h2 : ¬ d.beg = 2) :
    Calls Try.prog 9 #[srcV d, qryV db n p port] w fun e w' => ∃ b ov, e = .returned (.tuple #[ov, .nilIface]) ∧ OpAt w' d 0 0 b ov ∧ w.heap.size ≤ b ∧ Below w.heap.size w w' := by
  refine (begin_core (srcV d) (by obtain ⟨t, e⟩ := srcV_iface d; exact .inr ⟨t, _, e⟩) db n p port w d.label (fun w2 ov => OpRes w2 d w.heap.size ov) (fun w v h => h.shape) (fun W hW => ?_)).mono ?_
  · have hG := guard_ok 26 _ W ⟨#[]⟩ _ (fun w => by kernel_rfl) (beginC_res d db n p port (W.alloc gbox) _ _ _ _ (hW.box.below (al_bel W gbox)) hk h2)
      (fun w' ⟨hb, _⟩ => begin_gbox hW hb)
    refine hG.mono ?_
    rintro e w2 ⟨he, w3, ⟨hb, hn, ov, ho, hr⟩, rfl⟩
    have hz := hW.size
    refine ⟨⟨_, he⟩, (setN (by omega)).trans hn, ⟨ov, (setN (by omega)).trans ho, ?_⟩, begin_guard hW hb _⟩
    exact (hr.same (fun k hk1 _ => setN (by rw [al_size] at hk1; omega))).mono (by rw [al_size]; omega)
  · rintro e w' ⟨ov, w2, hr, hb, h⟩
    rcases hr with ⟨h3, _⟩ | ⟨_, _, b, ho, hB⟩
    · exact absurd h3 h1
    · rcases h with ⟨e0, _⟩ | ⟨_, he, rfl⟩
      · obtain ⟨t, e⟩ := ho.iface
        rw [e] at e0
        cases e0
      · exact ⟨b, ov, he, ho, hB, hb⟩
/-- The error of a source that gave nothing. -/
theorem err_two (w2 : World) (lb : ByteArray) : ErrS (w2.alloc (.cells #[.string lb, .iface 43 (.int .i64 2)] 79)) [lb] 2 (.iface 76 (.pointer (some ⟨w2.heap.size, 0, none⟩))) :=
  ErrS.wrap (w := w2) (L := []) (k := 2) rfl lb
set_option maxHeartbeats 1000000 in
theorem begin_err (d : DefL) (db : Int) (n p : ByteArray) (port : Int) (w : World) (hbad : takes d db = false ∨ d.beg = 1 ∨ d.beg = 2) :
    Calls Try.prog 9 #[srcV d, qryV db n p port] w fun e w' => ∃ er, e = .returned (.tuple #[.nilIface, er]) ∧ ErrS w' [d.label] 2 er ∧ Below w.heap.size w w' := by
  refine (begin_core (srcV d) (by obtain ⟨t, e⟩ := srcV_iface d; exact .inr ⟨t, _, e⟩) db n p port w d.label (fun _ ov => ov = .nilIface) (fun w v h => .inl h) (fun W hW => ?_)).mono ?_
  · have hz := hW.size
    cases hk : takes d db
    · have hG := guard_ok 26 _ W ⟨#[]⟩ _ (fun w => by kernel_rfl) (beginC_no d db n p port (W.alloc gbox) _ _ _ _ (hW.box.below (al_bel W gbox)) hk)
        (fun w' ⟨hb, _⟩ => begin_gbox hW hb)
      refine hG.mono ?_
      rintro e w2 ⟨he, w3, ⟨hb, hn, ho⟩, rfl⟩
      exact ⟨⟨_, he⟩, (setN (by omega)).trans hn, ⟨_, (setN (by omega)).trans ho, rfl⟩, begin_guard hW hb _⟩
    · by_cases h2 : d.beg = 2
      · have hG := guard_bad 26 _ W ⟨#[]⟩ _ (fun w => by kernel_rfl) (beginC_bad d db n p port (W.alloc gbox) _ _ _ _ (hW.box.below (al_bel W gbox)) hk h2)
          (fun w' ⟨hb, _⟩ => begin_gbox hW hb)
        refine hG.mono ?_
        rintro e w2 ⟨w3, ⟨hb, hn, ho⟩, rfl, he⟩
        exact ⟨⟨_, he⟩, al_keep hn, ⟨_, al_keep ho, rfl⟩, keepE (((ButL.of_below hW.below).alloc (by omega) gbox).but (S := []) (S1 := [w.heap.size + 2, w.heap.size + 3]) hb (by rw [al_size]; omega) (by intro b hm; simp at hm; right; omega)).toBelow (al_bel _ _)⟩
      · have h1 : d.beg = 1 := by
          rcases hbad with h | h | h
          · rw [h] at hk; cases hk
          · exact h
          · exact absurd h h2
        have hG := guard_ok 26 _ W ⟨#[]⟩ _ (fun w => by kernel_rfl) (beginC_res d db n p port (W.alloc gbox) _ _ _ _ (hW.box.below (al_bel W gbox)) hk h2)
          (fun w' ⟨hb, _⟩ => begin_gbox hW hb)
        refine hG.mono ?_
        rintro e w2 ⟨he, w3, ⟨hb, hn, ov, ho, hr⟩, rfl⟩
        rcases hr with ⟨_, e0⟩ | ⟨h3, _⟩
        · exact ⟨⟨_, he⟩, (setN (by omega)).trans hn, ⟨ov, (setN (by omega)).trans ho, e0⟩, begin_guard hW hb _⟩
        · exact absurd h1 h3
  · rintro e w' ⟨ov, w2, hr, hb, h⟩
    rcases h with ⟨_, he, rfl⟩ | ⟨e0, _⟩
    · exact ⟨_, he, err_two w2 _, keepE hb (al_bel _ _)⟩
    · exact absurd hr e0
set_option maxHeartbeats 1000000 in
theorem begin_nil (db : Int) (n p : ByteArray) (port : Int) (w : World) :
    Calls Try.prog 9 #[.nilIface, qryV db n p port] w fun e w' => ∃ er, e = .returned (.tuple #[.nilIface, er]) ∧ ErrS w' [⟨#[]⟩] 2 er ∧ Below w.heap.size w w' := by
  refine (begin_core .nilIface (.inl rfl) db n p port w ⟨#[]⟩ (fun _ ov => ov = .nilIface) (fun w v h => .inl h) (fun W hW => ?_)).mono ?_
  · have hz := hW.size
    have hG := guard_bad 26 _ W ⟨#[]⟩ _ (fun w => by kernel_rfl) (beginC_nil (W.alloc gbox) w.heap.size (w.heap.size + 2) (w.heap.size + 1) (w.heap.size + 3) (hW.box.below (al_bel W gbox)).hs)
      (fun w' h => h ▸ heap_alloc_new W _)
    refine hG.mono ?_
    rintro e w2 ⟨w3, rfl, rfl, he⟩
    exact ⟨⟨_, he⟩, al_keep (al_keep hW.box.hn), ⟨_, al_keep (al_keep hW.box.ho), rfl⟩, keepE (keepE hW.below (al_bel _ _)) (al_bel _ _)⟩
  · rintro e w' ⟨ov, w2, hr, hb, h⟩
    rcases h with ⟨_, he, rfl⟩ | ⟨e0, _⟩
    · exact ⟨_, he, err_two w2 _, keepE hb (al_bel _ _)⟩
    · exact absurd hr e0
end Go.Proofs.Ytpdkjifalgeodaa
