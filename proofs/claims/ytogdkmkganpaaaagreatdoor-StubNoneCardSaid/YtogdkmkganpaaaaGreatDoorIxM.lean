/- A lookup is polled. -/
import Derived.Test.YtogdkmkganpaaaaGreatDoorSnCc
import Derived.Test.YtogdkmkganpaaaaGreatDoorSnCd
import Derived.Test.YtogdkmkganpaaaaGreatDoorShelf
namespace Go.Proofs.YtogdkmkganpaaaaGreatDoor
open Go.RowKit Go.Mp Go.Rb Go.Lib Go.Wi
abbrev dnsB : ByteArray := ⟨#[100, 110, 115]⟩
theorem results_r4 {P : Program} {fn : Func} {p u z y : Tmp} {ty : TypeId} (h : fn.results = #[.cell p ty, .tmp u, .tmp z, .tmp y]) (tmps : Array Value) (w : World) (g : Nat) (t : TypeId) (cs : Array Value) (fr : Nat × Nat) (d : TypeDesc)
    (hp : tmps.getD p undef = .pointer (some ⟨g, 0, none⟩)) (hg : w.heap[g]? = some (.cells cs t fr))
    (hu : P.underlying ty = some d) (hd : (match d with | .struct _ | .array _ _ => true | _ => false) = true) (hi : (P.info? ty).map (·.size) = some cs.size) :
    (results fn tmps).run P w = .ok (.tuple #[.agg cs, tmps.getD u undef, tmps.getD z undef, tmps.getD y undef]) w := by
  have hp' : tmps[p]?.getD undef = .pointer (some ⟨g, 0, none⟩) := by rw [← hp]; simp [Array.getD_eq_getD_getElem?]
  simp only [results, h]
  simp [Sem.run_bind, hp', asAddr, run_loadVar_row w g t ty cs fr d hg hu hd hi, Result.andThen]
theorem sz_ans : (Tryz.prog.info? 72).map (·.size) = some 4 := by kernel_rfl
section
variable {W0 c : Nat} {col col' : Nat → Nat} {w w' : World} {sb lb wb : Nat} {l l' : LkL} {V V' : LkV} {cs : Nat → Prop} {id bg : Int} {w0 : World}
theorem AllIn.s {m : MS} (h : AllIn w0 W0 c col w wb sb lb m bg l V) : AllS w0 W0 c col w wb sb lb m bg (.on l) := ⟨h.ok, h.base, h.bel, h.net, h.stb, V, h.lk⟩
theorem LkEnd.keep {E : EndL} (h : LkEnd c col w lb E) (hc : ColOk W0 col w) (hf : Fr cs col col' w w') (h0 : c ≠ 0) (hcs : ¬ cs c ∧ ¬ cs 6) : LkEnd c col' w' lb E := by
  obtain ⟨⟨vn, va, h1, h2, h3⟩, h4⟩ := h
  have hk : ∀ k, (col k = 6 ∨ col k = c) → (col' k = 6 ∨ col' k = c) ∧ w'.heap[k]? = w.heap[k]? := fun k e => by
    rcases e with e | e
    · have hlt := col_new hc (by decide) k e
      exact ⟨.inl ((hf.old k hlt).trans e), hf.keep k hlt (by rw [e]; exact hcs.2)⟩
    · have hlt := col_new hc h0 k e
      exact ⟨.inr ((hf.old k hlt).trans e), hf.keep k hlt (by rw [e]; exact hcs.1)⟩
  have hlt := col_new hc h0 lb h4
  exact ⟨⟨vn, va, (hk lb (.inr h4)).2.trans h1, h2.same hk, h3.same hk⟩, (hf.old lb hlt).trans h4⟩
theorem failure_nil (w : World) : Calls Tryz.prog 255 #[.int .i64 0] w fun e w' => e = .returned .nilIface ∧ w' = w := by
  go_enter Tryz.func255, Tryz.ntmps255
  go_wp2
  go_ret
  exact ⟨rfl, rfl⟩
set_option maxRecDepth 100000 in
theorem failure_any (w : World) (k : Int) (hk : k ≠ 0) : Calls Tryz.prog 255 #[.int .i64 k] w fun e w' => ∃ ev, e = .returned ev ∧ ErrS w' [dnsB] k ev ∧ Below w.heap.size w w' := by
  have hk2 : (k == 0) = false := beq_eq_false_iff_ne.2 hk
  have HW := Lib.hid (fun W => wrap_at W dnsB 79 (.int .i64 k))
  go_enter Tryz.func255, Tryz.ntmps255
  go_wp2_with (go_at_call 262; refine (HW.out _).mono ?_; rintro e w3 ⟨rfl, rfl⟩)
  go_ret
  exact ⟨_, rfl, ⟨_, _, rfl, heap_alloc_new _ _, rfl⟩, (Below.refl _ _).alloc (Nat.le_refl _) _⟩
theorem cloneC {S : Nat → Prop} {v : Value} {L : List ByteArray} (h : CsIn S w v (L.map .string)) (hl : L.length ≤ 100) :
    Calls Tryz.prog 254 #[v] w fun e w' => ∃ v', e = .returned v' ∧ w'.ownsRow w.heap.size 9 1 v' L.length (L.map .string) ∧ Below w.heap.size w w' := by
  obtain ⟨a, cc, rfl, h1, h2, h3⟩ := h
  rw [List.length_map] at *
  cases a with
  | none =>
    have h0 : L = [] := by
      cases L with
      | nil => rfl
      | cons x T => obtain ⟨g, o, e, _⟩ := h3 0 (.string x) rfl; cases e
    subst h0
    refine (Tryz.slices_Clone_string_nil 0 cc w).mono ?_
    rintro e w' ⟨rfl, rfl⟩
    exact ⟨_, rfl, World.ownsRow_nil _ _ _ _, Below.refl _ _⟩
  | some ad =>
    by_cases h0 : L = []
    · subst h0
      refine (Tryz.slices_Clone_string_zero ad cc w).mono ?_
      rintro e w' ⟨v', rfl, h1, _, h2⟩
      exact ⟨v', rfl, h1, h2⟩
    · have hpos : 0 < L.length := List.length_pos_iff.2 h0
      obtain ⟨g, o, e, hs, _⟩ := h3 0 (.string L[0]) (by rw [List.getElem?_map, List.getElem?_eq_getElem hpos]; rfl)
      cases e
      refine (Tryz.slices_Clone_string g o L.length cc L w (Nat.le_refl _) (by omega) fun j hj => ?_).mono ?_
      · obtain ⟨g', o', e, _, h4⟩ := h3 j (.string L[j]) (by rw [List.getElem?_map, List.getElem?_eq_getElem hj]; rfl)
        cases e
        rw [h4, List.getD_eq_getElem?_getD, List.getElem?_eq_getElem hj]
        rfl
      · rintro e w' ⟨v', rfl, h1, _, h2⟩
        rw [List.take_length] at h1
        exact ⟨v', rfl, h1, h2⟩
/-- What a Poll tells. -/
def AnsAt (B : Nat) (w' : World) (E : EndL) (vn va vd ev : Value) : Prop :=
  w'.ownsRow B 9 1 vn E.names.length (E.names.map .string) ∧ w'.ownsRow B 9 1 va E.addrs.length (E.addrs.map .string) ∧ (∃ g cc, vd = .slice (some ⟨g, 0, none⟩) 1 cc ∧ B ≤ g ∧ w'.heap[g]? = some (.cells #[.string pathR, .int .i64 E.stamp] 116 (0, 0))) ∧ (E.code = 0 ∧ ev = .nilIface ∨ E.code ≠ 0 ∧ ErrS w' [dnsB] E.code ev)
def PollR (w0 : World) (W0 c : Nat) (col : Nat → Nat) (w : World) (wb sb lb : Nat) (r : MS × LkS) (bg : Int) (e : Ending) (w' : World) : Prop :=
  (∃ col', AllS w0 W0 c col' w' wb sb lb r.1 bg r.2 ∧ Fr (LC c) col col' w w') ∧ match r.2 with
    | .on _ => e = .returned (.tuple #[.agg #[.slice none 0 0, .slice none 0 0, .int .i64 0, .int .i64 0], .slice none 0 0, .nilIface, .bool false])
    | .off E => ∃ vn va vd ev, e = .returned (.tuple #[.agg #[vn, va, .int .i64 0, .int .i64 E.life], vd, ev, .bool true]) ∧ AnsAt w.heap.size w' E vn va vd ev
set_option maxHeartbeats 1000000 in
set_option maxRecDepth 100000 in
theorem poll_wait {m : MS} (h : AllIn w0 W0 c col w wb sb lb m bg l V) (h100 : 100 ≤ c) (hn : m.net.now < l.til) :
    Calls Tryz.prog 248 #[.pointer (some ⟨lb, 0, none⟩)] w (PollR w0 W0 c col w wb sb lb (m, .on l) bg) := by
  obtain ⟨W, hW⟩ : ∃ W, w.alloc (.cells #[.slice none 0 0, .slice none 0 0, .int .i64 0, .int .i64 0] 72) = W := ⟨_, rfl⟩
  have hb1 : Below w.heap.size w W := by rw [← hW]; exact (Below.refl _ w).alloc (Nat.le_refl _) _
  have hr : W.heap[w.heap.size]? = some (.cells #[.slice none 0 0, .slice none 0 0, .int .i64 0, .int .i64 0] 72 (0, 0)) := by rw [← hW]; exact heap_alloc_new w _
  have hA := h.below (by omega) hb1
  have k18 := hA.lk.c18
  have k0 := hA.lk.c0
  have k13 := hA.lk.c13
  have s0 : W.cell? ⟨sb, 0, none⟩ = some (.pointer (some ⟨wb, 0, none⟩)) := cell_of hA.stb.1 rfl
  have HN : Hid (∀ n, Calls Tryz.prog 110 #[.pointer (some ⟨wb, 0, none⟩)] (W.drewN n) fun e w' => e = .returned (.int .i64 m.net.now) ∧ w' = W.drewN n) := Lib.hid (fun n => (hA.net.below hA.ok (bel_drewN (Below.refl W.heap.size W) n)).now_)
  have hni : ¬ m.net.now ≥ l.til := by omega
  have HR := Lib.hid hr
  have y0 := cell_of (j := 0) (v := .slice none 0 0) hr rfl
  have y1 := cell_of (j := 1) (v := .slice none 0 0) hr rfl
  have y2 := cell_of (j := 2) (v := .int .i64 0) hr rfl
  have y3 := cell_of (j := 3) (v := .int .i64 0) hr rfl
  have f0 := free_of hr 0
  have f1 := free_of hr 1
  have f2 := free_of hr 2
  have f3 := free_of hr 3
  have H := Lib.hid h
  have HB := Lib.hid hb1
  clear h hA hb1 hr
  go_enter Tryz.func248, Tryz.ntmps248
  go_upto_region 1 with (fail)
  go_quiet ((go_at_call 110; exact Calls.quiet_of_same (HN.out _)))
  go_wp2
  refine bodyPost_ret (results_r4 rfl _ _ w.heap.size _ _ _ _ rfl (heap_setCell_eq _ _ _ _ _ _ _ (heap_setCell_eq _ _ _ _ _ _ _ (heap_setCell_eq _ _ _ _ _ _ _ (heap_setCell_eq _ _ _ _ _ _ _ (show (W.drewN nq).heap[w.heap.size]? = _ from HR.out))))) Tryz.underlying72 rfl sz_ans) rfl ?_
  have hbf : Below w.heap.size w (((((W.drewN nq).setCell ⟨w.heap.size, 0, none⟩ (.slice none 0 0)).setCell ⟨w.heap.size, 1, none⟩ (.slice none 0 0)).setCell ⟨w.heap.size, 2, none⟩ (.int .i64 0)).setCell ⟨w.heap.size, 3, none⟩ (.int .i64 0)) := ((((bel_drewN HB.out nq).setCell (p := ⟨w.heap.size, 0, none⟩) (Nat.le_refl _) _).setCell (p := ⟨w.heap.size, 1, none⟩) (Nat.le_refl _) _).setCell (p := ⟨w.heap.size, 2, none⟩) (Nat.le_refl _) _).setCell (p := ⟨w.heap.size, 3, none⟩) (Nat.le_refl _) _
  exact ⟨⟨col, (H.out.below (by omega) hbf).s, Fr.below hbf⟩, rfl⟩
/-- The state stays where a block of nobody's changes. -/
theorem AllS.but {m : MS} {s : LkS} {wy : World} {rb : Nat} (h : AllS w0 W0 c col w wb sb lb m bg s) (h0 : c ≠ 0) (hrb : col rb = 0) (hrb2 : W0 ≤ rb) (ho : wy.os = w.os ∧ wy.tape = w.tape ∧ wy.output = w.output) (hs : w.heap.size ≤ wy.heap.size) (hh : ∀ k, k < w.heap.size → k ≠ rb → wy.heap[k]? = w.heap[k]?) :
    AllS w0 W0 c col wy wb sb lb m bg s ∧ Fr (fun x => x = 0) col col w wy := by
  have hf : Fr (fun x => x = 0) col col w wy := ⟨ho.1, ho.2.1, ho.2.2, hs, fun _ _ => rfl, fun k hk hn => hh k hk (fun e => hn (by rw [e]; exact hrb)), fun k hk h8 _ => hh k hk (fun e => by rw [e, hrb] at h8; omega)⟩
  refine ⟨⟨⟨Nat.le_trans h.ok.base hs, fun k hk => ⟨(h.ok.lo k hk).1, Nat.lt_of_lt_of_le (h.ok.lo k hk).2 hs⟩, fun k hk => ?_⟩, h.base, ⟨ho.1.trans h.bel.os, ho.2.1.trans h.bel.tape, ho.2.2.trans h.bel.output, Nat.le_trans h.bel.size hs, fun k hk => (hh k (Nat.lt_of_lt_of_le hk h.ok.base) (by omega)).trans (h.bel.block k hk)⟩, h.net.keep h.ok hf ⟨by decide, by decide, by decide, by decide⟩, h.stb.keep h.ok hf (by decide), ?_⟩, hf⟩
  · obtain ⟨cs, fr, e⟩ := h.ok.u8 k hk
    exact ⟨cs, fr, (hh k (col_new h.ok (by decide) k hk) (fun e2 => by rw [e2, hrb] at hk; omega)).trans e⟩
  · cases s with
    | on l =>
      obtain ⟨V, hl⟩ := h.lk
      exact ⟨V, hl.keep h.ok hf h0 ⟨h0, by decide⟩⟩
    | off E => exact LkEnd.keep h.lk h.ok hf h0 ⟨h0, by decide⟩
theorem ownR {B B' : Nat} {e : TypeId} {sz n : Nat} {v : Value} {xs : List Value} (h : w.ownsRow B e sz v n xs) (hB : B' ≤ B) (hh : ∀ k, B ≤ k → k < w.heap.size → w'.heap[k]? = w.heap[k]?) : w'.ownsRow B' e sz v n xs :=
  ⟨h.1, h.2.imp id (fun ⟨g, cp, cur, e1, h1, h2, h3⟩ => ⟨g, cp, cur, e1, Nat.le_trans hB h1, (hh g h1 (Array.getElem?_eq_some_iff.1 h2).1).trans h2, h3⟩)⟩
/-- The answer's copy, its rows its own. -/
def K7 (w4 : World) (nn na : Nat) (E : EndL) (wx : World) : Prop :=
  ∃ pn cn' pa ca', wx.heap[w4.heap.size]? = some (.cells #[.slice pn nn cn', .slice pa na ca', .int .i64 0, .int .i64 E.life] 72 (0, 0)) ∧ wx.ownsRow (w4.heap.size + 1) 9 1 (.slice pn nn cn') nn (E.names.map .string) ∧ wx.ownsRow (w4.heap.size + 1) 9 1 (.slice pa na ca') na (E.addrs.map .string) ∧ Below w4.heap.size w4 wx
theorem K7.mk {w4 w5 w6 w7 : World} {W6 W7 nn na : Nat} {E : EndL} {x0 x1 : Value} {pn pa : Option Addr} {cn' ca' : Nat} (hs5 : w5.heap.size = w4.heap.size + 1) (hb5 : Below w4.heap.size w4 w5) (ht5 : w5.heap[w4.heap.size]? = some (.cells #[x0, x1, .int .i64 0, .int .i64 E.life] 72 (0, 0)))
    (ho6 : w6.ownsRow W6 9 1 (.slice pn nn cn') nn (E.names.map .string)) (hc7 : Below w6.heap.size w6 w7) (hb7 : Below w5.heap.size w5 w7) (ho7 : w7.ownsRow W7 9 1 (.slice pa na ca') na (E.addrs.map .string)) (hW6 : w4.heap.size + 1 ≤ W6) (hW7 : w4.heap.size + 1 ≤ W7) :
    K7 w4 nn na E ((w7.setCell ⟨w4.heap.size, 0, none⟩ (.slice pn nn cn')).setCell ⟨w4.heap.size, 1, none⟩ (.slice pa na ca')) := by
  have ht7 := (hb7.block w4.heap.size (by omega)).trans ht5
  have hne : ∀ k, k ≠ w4.heap.size → ((w7.setCell ⟨w4.heap.size, 0, none⟩ (.slice pn nn cn')).setCell ⟨w4.heap.size, 1, none⟩ (.slice pa na ca')).heap[k]? = w7.heap[k]? := fun k hk => by
    rw [heap_setCell_ne _ _ _ _ _ hk, heap_setCell_ne _ _ _ _ _ hk]
  refine ⟨pn, cn', pa, ca', heap_setCell_eq _ _ _ _ _ _ _ (heap_setCell_eq _ _ _ _ _ _ _ ht7), ownR ho6 hW6 (fun k h1 h2 => (hne k (by omega)).trans (hc7.block k h2)), ownR ho7 hW7 (fun k h1 _ => hne k (by omega)), ?_⟩
  have hb : Below w4.heap.size w4 w7 := hb5.trans (hb7.mono hb5.size)
  exact (hb.setCell (p := ⟨w4.heap.size, 0, none⟩) (Nat.le_refl _) _).setCell (p := ⟨w4.heap.size, 1, none⟩) (Nat.le_refl _) _
/-- What failure answers. -/
def FlAt (w' : World) (E : EndL) (ev : Value) : Prop := E.code = 0 ∧ ev = .nilIface ∨ E.code ≠ 0 ∧ ∃ b, ev = .iface 185 (.pointer (some ⟨b, 0, none⟩)) ∧ w'.heap[b]? = some (.cells #[.string dnsB, .iface 79 (.int .i64 E.code)] 188 (0, 0))
theorem FlAt.same {E : EndL} {ev : Value} (h : FlAt w E ev) (hh : ∀ (b : Nat) (cs : Array Value) (fr : Nat × Nat), w.heap[b]? = some (Obj.cells cs 188 fr) → w'.heap[b]? = w.heap[b]?) : FlAt w' E ev :=
  h.imp id (fun ⟨h1, b, h2, h3⟩ => ⟨h1, b, h2, (hh b _ _ h3).trans h3⟩)
theorem FlAt.below {E : EndL} {ev : Value} (h : FlAt w E ev) (hb : Below w.heap.size w w') : FlAt w' E ev := h.same (fun b _ _ q => hb.block b (Array.getElem?_eq_some_iff.1 q).1)
theorem FlAt.err {E : EndL} {ev : Value} (h : FlAt w E ev) : E.code = 0 ∧ ev = .nilIface ∨ E.code ≠ 0 ∧ ErrS w [dnsB] E.code ev := h.imp id (fun ⟨h1, b, h2, h3⟩ => ⟨h1, b, _, h2, h3, rfl⟩)
theorem failure_at (w : World) (E : EndL) : Calls Tryz.prog 255 #[.int .i64 E.code] w fun e w' => ∃ ev, e = .returned ev ∧ FlAt w' E ev ∧ Below w.heap.size w w' := by
  by_cases h : E.code = 0
  · rw [h]
    refine (failure_nil w).mono ?_
    rintro e w' ⟨rfl, rfl⟩
    exact ⟨_, rfl, .inl ⟨h, rfl⟩, Below.refl _ _⟩
  · refine (failure_any w E.code h).mono ?_
    rintro e w' ⟨ev, he, ⟨b, u, h1, h3, h4⟩, h2⟩
    exact ⟨ev, he, .inr ⟨h, b, h1, by rw [h3]; have : u = _ := h4; rw [this]⟩, h2⟩
/-- All that stood is as it was, but for one block. -/
structure Kb (wc : World) (rb : Nat) (V : World) : Prop where
  o : V.os = wc.os ∧ V.tape = wc.tape ∧ V.output = wc.output
  size : wc.heap.size ≤ V.heap.size
  keep : ∀ k, k < wc.heap.size → k ≠ rb → V.heap[k]? = wc.heap[k]?
theorem Kb.below {wc V V' : World} {rb : Nat} (h : Kb wc rb V) (hb : Below V.heap.size V V') : Kb wc rb V' :=
  ⟨⟨hb.os.trans h.o.1, hb.tape.trans h.o.2.1, hb.output.trans h.o.2.2⟩, Nat.le_trans h.size hb.size, fun k hk hn => (hb.block k (Nat.lt_of_lt_of_le hk h.size)).trans (h.keep k hk hn)⟩
def set4 (w : World) (b : Nat) (x0 x1 x2 x3 : Value) : World := (((w.setCell ⟨b, 0, none⟩ x0).setCell ⟨b, 1, none⟩ x1).setCell ⟨b, 2, none⟩ x2).setCell ⟨b, 3, none⟩ x3
theorem set4_ne {w : World} {b : Nat} {x0 x1 x2 x3 : Value} {k : Nat} (h : k ≠ b) : (set4 w b x0 x1 x2 x3).heap[k]? = w.heap[k]? := by
  unfold set4
  rw [heap_setCell_ne _ _ _ _ _ h, heap_setCell_ne _ _ _ _ _ h, heap_setCell_ne _ _ _ _ _ h, heap_setCell_ne _ _ _ _ _ h]
theorem set4_size {w : World} {b : Nat} {x0 x1 x2 x3 : Value} : (set4 w b x0 x1 x2 x3).heap.size = w.heap.size := by
  unfold set4
  rw [size_setCell', size_setCell', size_setCell', size_setCell']
theorem set4_eq {w : World} {b : Nat} {x0 x1 x2 x3 y0 y1 y2 y3 : Value} {t : TypeId} {fr : Nat × Nat} (h : w.heap[b]? = some (.cells #[y0, y1, y2, y3] t fr)) : (set4 w b x0 x1 x2 x3).heap[b]? = some (.cells #[x0, x1, x2, x3] t fr) :=
  heap_setCell_eq _ _ _ _ _ _ _ (heap_setCell_eq _ _ _ _ _ _ _ (heap_setCell_eq _ _ _ _ _ _ _ (heap_setCell_eq _ _ _ _ _ _ _ h)))
theorem Kb.set {wc V : World} {rb : Nat} (h : Kb wc rb V) (x0 x1 x2 x3 : Value) : Kb wc rb (set4 V rb x0 x1 x2 x3) :=
  ⟨h.o, by rw [set4_size]; exact h.size, fun k hk hn => (set4_ne hn).trans (h.keep k hk hn)⟩
/-- Behind the last statement. -/
def K8 (wc : World) (tb rb nn na : Nat) (E : EndL) (pn : Option Addr) (cn' : Nat) (pa : Option Addr) (ca' : Nat) (v3 v4 v5 : Value) (wx : World) : Prop :=
  wx.heap[rb]? = some (.cells #[.slice pn nn cn', .slice pa na ca', .int .i64 0, .int .i64 E.life] 72 (0, 0)) ∧ v5 = .bool true ∧ FlAt wx E v4 ∧ (∃ g, v3 = .slice (some ⟨g, 0, none⟩) 1 1 ∧ wc.heap.size ≤ g ∧ wx.heap[g]? = some (.cells #[.string pathR, .int .i64 E.stamp] 116 (0, 0))) ∧ Kb wc rb wx ∧
    (wc.ownsRow (tb + 1) 9 1 (.slice pn nn cn') nn (E.names.map .string) ∧ wc.ownsRow (tb + 1) 9 1 (.slice pa na ca') na (E.addrs.map .string) ∧ True)
theorem AllS.below {m : MS} {s : LkS} (h : AllS w0 W0 c col w wb sb lb m bg s) (h0 : c ≠ 0) (hb : Below w.heap.size w w') : AllS w0 W0 c col w' wb sb lb m bg s := by
  have hf : Fr (fun _ => False) col col w w' := Fr.below hb
  refine ⟨h.ok.below hb, h.base, Below.fr h.bel h.ok hf id, h.net.below h.ok hb, h.stb.keep h.ok hf id, ?_⟩
  cases s with
  | on l =>
    obtain ⟨V, hl⟩ := h.lk
    exact ⟨V, hl.below h.ok h0 hb⟩
  | off E => exact LkEnd.keep h.lk h.ok hf h0 ⟨id, id⟩
set_option maxHeartbeats 1000000 in
set_option maxRecDepth 100000 in
theorem poll_off {m : MS} {E : EndL} (h : AllS w0 W0 c col w wb sb lb m bg (.off E)) (h100 : 100 ≤ c) (hsm : E.names.length ≤ 100 ∧ E.addrs.length ≤ 100) :
    Calls Tryz.prog 248 #[.pointer (some ⟨lb, 0, none⟩)] w (PollR w0 W0 c col w wb sb lb (m, .off E) bg) := by
  obtain ⟨W, hW⟩ : ∃ W, w.alloc (.cells #[.slice none 0 0, .slice none 0 0, .int .i64 0, .int .i64 0] 72) = W := ⟨_, rfl⟩
  have hb1 : Below w.heap.size w W := by rw [← hW]; exact (Below.refl _ w).alloc (Nat.le_refl _) _
  have hr : W.heap[w.heap.size]? = some (.cells #[.slice none 0 0, .slice none 0 0, .int .i64 0, .int .i64 0] 72 (0, 0)) := by rw [← hW]; exact heap_alloc_new w _
  have hA := h.below (by omega) hb1
  have k18 : W.cell? ⟨lb, 18, none⟩ = some (.bool true) := by
    obtain ⟨⟨vn, va, hblk, _⟩, _⟩ := hA.lk
    exact cell_of hblk rfl
  have hcr : col w.heap.size = 0 := Classical.byContradiction fun hn => by have := (h.ok.lo _ hn).2; omega
  have HLl : Hid (lb < w.heap.size) := Lib.hid (col_new (c := c) h.ok (by omega) lb h.lk.own)
  have HSm : Hid (E.names.length ≤ 100 ∧ E.addrs.length ≤ 100) := Lib.hid hsm
  have HA0 : Hid (∀ n, AllS w0 W0 c col (W.drewN n) wb sb lb m bg (.off E)) := Lib.hid (fun n => hA.below (by omega) (bel_drewN (Below.refl W.heap.size W) n))
  have H := Lib.hid h
  have HB1 := Lib.hid hb1
  have HR1 := Lib.hid hr
  clear h hA hb1 hr hsm
  go_enter Tryz.func248, Tryz.ntmps248
  go_upto_region 1 with (fail)
  go_quiet (fail)
  go_upto_region 4 with (fail)
  have HA4 := Lib.hid (HA0.out nq)
  have HF4 : Hid (Fr (LC c) col col w (W.drewN nq)) := Lib.hid (Fr.below (bel_drewN HB1.out nq))
  have HC4 : Hid (col w.heap.size = 0) := Lib.hid hcr
  have hr4 : (W.drewN nq).heap[w.heap.size]? = some (.cells #[.slice none 0 0, .slice none 0 0, .int .i64 0, .int .i64 0] 72 (0, 0)) := HR1.out
  obtain ⟨w4, hw4⟩ : ∃ w4, W.drewN nq = w4 := ⟨_, rfl⟩
  rw [hw4] at HA4 HF4 hr4 ⊢
  clear hw4 HA0 HB1 HR1 k18
  obtain ⟨⟨vn, va, hblk, hcn, hca⟩, hown⟩ := HA4.out.lk
  have hcn2 := hcn
  have hca2 := hca
  obtain ⟨an, cn, e5, _⟩ := hcn
  obtain ⟨aa, ca, e6, _⟩ := hca
  subst e5 e6
  simp only [List.length_map] at hblk hcn2 hca2
  have hsz := HSm.out
  obtain ⟨nn, hnn⟩ : ∃ n, E.names.length = n := ⟨_, rfl⟩
  obtain ⟨na, hna⟩ : ∃ n, E.addrs.length = n := ⟨_, rfl⟩
  rw [hnn] at hcn2 hblk
  rw [hna] at hca2 hblk
  have z18 := cell_of (j := 18) (v := .bool true) hblk rfl
  have z1 := cell_of (j := 1) (v := .string pathR) hblk rfl
  have z2 := cell_of (j := 2) (v := .int .i64 E.stamp) hblk rfl
  have z19 := cell_of (j := 19) (v := .int .i64 E.code) hblk rfl
  have z20 := cell_of (j := 20) (v := .slice an nn cn) hblk rfl
  have z21 := cell_of (j := 21) (v := .slice aa na ca) hblk rfl
  have z22 := cell_of (j := 22) (v := .int .i64 0) hblk rfl
  have z23 := cell_of (j := 23) (v := .int .i64 E.life) hblk rfl
  have hlb4 := (Array.getElem?_eq_some_iff.1 hblk).1
  obtain ⟨w5, hw5⟩ : ∃ w5, w4.alloc (.cells #[.slice an nn cn, .slice aa na ca, .int .i64 0, .int .i64 E.life] 72) = w5 := ⟨_, rfl⟩
  have hb5 : Below w4.heap.size w4 w5 := by rw [← hw5]; exact (Below.refl _ w4).alloc (Nat.le_refl _) _
  have ht5 : w5.heap[w4.heap.size]? = some (.cells #[.slice an nn cn, .slice aa na ca, .int .i64 0, .int .i64 E.life] 72 (0, 0)) := by rw [← hw5]; exact heap_alloc_new w4 _
  have hs5 : w5.heap.size = w4.heap.size + 1 := by rw [← hw5]; show (w4.heap.push _).size = _; simp
  have t0 := cell_of (j := 0) (v := .slice an nn cn) ht5 rfl
  have t1 := cell_of (j := 1) (v := .slice aa na ca) ht5 rfl
  have HCl : Hid (∀ (W : World) (v : Value) (L : List ByteArray), Below w5.heap.size w5 W → CsIn (fun k => col k = 6 ∨ col k = c) w4 v (L.map .string) → L.length ≤ 100 → Calls Tryz.prog 254 #[v] W fun e w' => ∃ pp cc, e = .returned (.slice pp L.length cc) ∧ w'.cell? ⟨w4.heap.size, 0, none⟩ = some (.slice an nn cn) ∧ w'.cell? ⟨w4.heap.size, 1, none⟩ = some (.slice aa na ca) ∧ w'.frozen? ⟨w4.heap.size, 0, none⟩ = false ∧ w'.frozen? ⟨w4.heap.size, 1, none⟩ = false ∧ Hid (w'.ownsRow W.heap.size 9 1 (.slice pp L.length cc) L.length (L.map .string)) ∧ Hid (Below w5.heap.size w5 w') ∧ Hid (Below W.heap.size W w')) := Lib.hid (fun W v L hW hv hL => by
    refine (cloneC (hv.same (S' := fun _ => True) (fun k hk => ⟨trivial, (hW.block k (by
      have : k < w4.heap.size := hk.elim (fun e => col_new HA4.out.ok (by decide) k e) (fun e => col_new HA4.out.ok (by omega) k e)
      omega)).trans (hb5.block k (hk.elim (fun e => col_new HA4.out.ok (by decide) k e) (fun e => col_new HA4.out.ok (by omega) k e)))⟩)) hL).mono ?_
    rintro e w' ⟨v', he, ho, hb⟩
    obtain ⟨pp, cc, e2⟩ : ∃ pp cc, v' = .slice pp L.length cc := by
      rcases ho.2 with ⟨e1, e2⟩ | ⟨g, cap, cur, e1, _⟩
      · exact ⟨none, 0, by rw [e1, e2]⟩
      · exact ⟨_, _, e1⟩
    subst e2
    have hb2 : Below w5.heap.size w5 w' := hW.trans (hb.mono hW.size)
    have ht' := (hb2.block w4.heap.size (by omega)).trans ht5
    exact ⟨pp, cc, he, cell_of ht' rfl, cell_of ht' rfl, free_of ht' 0, free_of ht' 1, Lib.hid ho, Lib.hid hb2, Lib.hid hb⟩)
  have HN1 : Hid (∀ W, Below w5.heap.size w5 W → _) := Lib.hid (fun W hW => HCl.out W (.slice an nn cn) E.names hW hcn2 hsz.1)
  have HA1 : Hid (∀ W, Below w5.heap.size w5 W → _) := Lib.hid (fun W hW => HCl.out W (.slice aa na ca) E.addrs hW hca2 hsz.2)
  rw [hnn] at HN1
  rw [hna] at HA1
  have HEn := Lib.hid (And.intro hnn hna)
  have HB5 := Lib.hid hb5
  have HT5 := Lib.hid ht5
  have HS5 := Lib.hid hs5
  have HR4 := Lib.hid hr4
  have HBk := Lib.hid hblk
  have HB50 : Hid (Below w5.heap.size w5 w5) := Lib.hid (Below.refl _ _)
  clear hcn2 hca2 hblk hb5 ht5 hs5 hr4 HCl hnn hna hsz
  go_upto_region 7 with (fail)
  go_cut [] from 41 to 48 (fun wx => K7 w4 nn na E wx)
  · go_region_law (first | (go_simp; go_at_call 254; with_reducible refine (HN1.out _ (by first | exact HB50.out | exact HB50.out.drew | exact HB50.out.drew.drew)).mono ?_; rintro e w6 ⟨pn, cn', rfl, u0, u1, v0, v1, HO6, HB6, HC6⟩) | (go_simp; go_at_call 254; with_reducible refine (HA1.out _ (by first | exact HB6.out | exact HB6.out.drew)).mono ?_; rintro e w7 ⟨pa, ca', rfl, u2, u3, v2, v3, HO7, HB7, HC7⟩))
    all_goals (
      go_wp2
      go_meet
      exact K7.mk HS5.out HB5.out HT5.out HO6.out HC7.out HB7.out HO7.out (by show w4.heap.size + 1 ≤ w5.heap.size; have := HS5.out; omega) (by have := HS5.out; have := HB6.out.size; first | (show w4.heap.size + 1 ≤ w6.heap.size; omega) | omega))
  obtain ⟨pn, cn', pa, ca', hk1, hk2, hk3, hk4⟩ := hcut
  obtain ⟨wd, rfl⟩ : ∃ wd, wd = wc := ⟨_, rfl⟩
  have x1 := (hk4.cell (p := ⟨lb, 1, none⟩) hlb4).trans z1
  have x2 := (hk4.cell (p := ⟨lb, 2, none⟩) hlb4).trans z2
  have x19 := (hk4.cell (p := ⟨lb, 19, none⟩) hlb4).trans z19
  have a0 := cell_of (j := 0) (v := .slice pn nn cn') hk1 rfl
  have a1 := cell_of (j := 1) (v := .slice pa na ca') hk1 rfl
  have a2 := cell_of (j := 2) (v := .int .i64 0) hk1 rfl
  have a3 := cell_of (j := 3) (v := .int .i64 E.life) hk1 rfl
  have hrl : w.heap.size < w4.heap.size := (Array.getElem?_eq_some_iff.1 HR4.out).1
  have hrw := (hk4.block w.heap.size hrl).trans HR4.out
  have r0 := cell_of (j := 0) (v := .slice none 0 0) hrw rfl
  have r1 := cell_of (j := 1) (v := .slice none 0 0) hrw rfl
  have r2 := cell_of (j := 2) (v := .int .i64 0) hrw rfl
  have r3 := cell_of (j := 3) (v := .int .i64 0) hrw rfl
  have f0 := free_of hrw 0
  have f1 := free_of hrw 1
  have f2 := free_of hrw 2
  have f3 := free_of hrw 3
  have HRW := Lib.hid hrw
  have hlbc : lb < wd.heap.size := Nat.lt_of_lt_of_le hlb4 hk4.size
  have hrbc : w.heap.size < wd.heap.size := Nat.lt_of_lt_of_le hrl hk4.size
  have htbc : w4.heap.size < wd.heap.size := (Array.getElem?_eq_some_iff.1 hk1).1
  have hn1 : lb ≠ w.heap.size := by have := HLl.out; omega
  have hn2 : w.heap.size ≠ lb := fun e => hn1 e.symm
  have hn3 : w.heap.size ≠ w4.heap.size := by omega
  have hn4 : w4.heap.size ≠ w.heap.size := by omega
  have HS0 : Hid (∀ V : World, Kb wd w.heap.size V → (V.cell? ⟨w4.heap.size, 0, none⟩ = some (.slice pn nn cn') ∧ V.cell? ⟨w4.heap.size, 1, none⟩ = some (.slice pa na ca') ∧ V.cell? ⟨w4.heap.size, 2, none⟩ = some (.int .i64 0) ∧ V.cell? ⟨w4.heap.size, 3, none⟩ = some (.int .i64 E.life)) ∧ V.cell? ⟨lb, 1, none⟩ = some (.string pathR) ∧ V.cell? ⟨lb, 2, none⟩ = some (.int .i64 E.stamp) ∧ V.cell? ⟨lb, 19, none⟩ = some (.int .i64 E.code)) := Lib.hid (fun V hV => by
    have hA := hV.keep w4.heap.size htbc hn4
    have hB := hV.keep lb hlbc hn1
    exact ⟨⟨(World.cell?_of_block (w := wd) hA).trans a0, (World.cell?_of_block (w := wd) hA).trans a1, (World.cell?_of_block (w := wd) hA).trans a2, (World.cell?_of_block (w := wd) hA).trans a3⟩, (World.cell?_of_block (w := wd) hB).trans x1, (World.cell?_of_block (w := wd) hB).trans x2, (World.cell?_of_block (w := wd) hB).trans x19⟩)
  have HFl : Hid (∀ V : World, Calls Tryz.prog 255 #[.int .i64 E.code] V fun e w' => ∃ ev, e = .returned ev ∧ FlAt w' E ev ∧ Below V.heap.size V w') := Lib.hid (fun V => failure_at V E)
  have HK4 := Lib.hid hk4
  have HK : Hid (wd.ownsRow (w4.heap.size + 1) 9 1 (.slice pn nn cn') nn (E.names.map .string) ∧ wd.ownsRow (w4.heap.size + 1) 9 1 (.slice pa na ca') na (E.addrs.map .string) ∧ True) := Lib.hid ⟨hk2, hk3, trivial⟩
  have hkb0 : Hid (Kb wd w.heap.size wd.drew) := Lib.hid ⟨⟨rfl, rfl, rfl⟩, Nat.le_refl _, fun _ _ _ => rfl⟩
  have hrb0 : Hid (wd.drew.heap[w.heap.size]? = some (.cells #[.slice none 0 0, .slice none 0 0, .int .i64 0, .int .i64 0] 72 (0, 0))) := Lib.hid hrw
  clear hk1 hk2 hk3 hk4 hrw z1 z2 z18 z19 z20 z21 z22 z23 t0 t1 HN1 HA1 a0 a1 a2 a3 x1 x2 x19 r0 r1 r2 r3 f0 f1 f2 f3
  go_upto_region 8 with (fail)
  go_cut [3, 4, 5] from 49 to 59 (fun v3 v4 v5 wx => K8 wd w4.heap.size w.heap.size nn na E pn cn' pa ca' v3 v4 v5 wx)
  · skip
    refine wp_region_held_drew (S := fun V => (V.cell? ⟨w4.heap.size, 0, none⟩ = some (.slice pn nn cn') ∧ V.cell? ⟨w4.heap.size, 1, none⟩ = some (.slice pa na ca') ∧ V.cell? ⟨w4.heap.size, 2, none⟩ = some (.int .i64 0) ∧ V.cell? ⟨w4.heap.size, 3, none⟩ = some (.int .i64 E.life)) ∧ V.cell? ⟨lb, 1, none⟩ = some (.string pathR) ∧ V.cell? ⟨lb, 2, none⟩ = some (.int .i64 E.stamp) ∧ V.cell? ⟨lb, 19, none⟩ = some (.int .i64 E.code)) (by kernel_rfl) (HS0.out _ hkb0.out) (fun hHeld => ?_)
    try simp only [Act.put, List.setIfInBounds_toArray, List.set_cons_zero, List.set_cons_succ]
    clear hHeld
    obtain ⟨V0, hV0⟩ : ∃ V, wd.drew = V := ⟨_, rfl⟩
    rw [hV0] at hkb0 hrb0 ⊢
    have hHeld := HS0.out _ hkb0.out
    clear hV0
    refine wpAnyH_take (i := 0) (oi := { dst := some 49, op := Op.load 72 (Operand.tmp 6), type := 72, pos := "lookup.go:61", after := #[], guard := none }) (v := ?_) rfl (by kernel_rfl) (by kernel_rfl) (by kernel_rfl) (fun _ _ _ h => h) (Or.inl ⟨by rfl, ?_⟩) (by assumption) ?_
    rotate_left 1
    · (intro w hSw; (try dsimp only at hSw); go_simp; all_goals (first | with_reducible rfl | (simp; done)))
    try simp only [Act.put, List.setIfInBounds_toArray, List.set_cons_zero, List.set_cons_succ]
    refine wpAnyH_take (i := 1) (oi := { dst := some 50, op := Op.move (Operand.tmp 0), type := 114, pos := "lookup.go:61", after := #[{ on := 11, ground := Ground.gcOnly Departure.lateStores }], guard := none }) (v := ?_) rfl (by kernel_rfl) (by kernel_rfl) (by kernel_rfl) (fun _ _ _ h => h) (Or.inl ⟨by rfl, ?_⟩) (by assumption) ?_
    rotate_left 1
    · (intro w hSw; (try dsimp only at hSw); go_simp; all_goals (first | with_reducible rfl | (simp; done)))
    try simp only [Act.put, List.setIfInBounds_toArray, List.set_cons_zero, List.set_cons_succ]
    refine wpAnyH_take (i := 2) (oi := { dst := some 51, op := Op.nilCheck (Operand.tmp 50), type := 0, pos := "lookup.go:61", after := #[{ on := 1, ground := Ground.data }, { on := 11, ground := Ground.gcOnly Departure.lateStores }], guard := none }) (v := ?_) rfl (by kernel_rfl) (by kernel_rfl) (by kernel_rfl) (fun _ _ _ h => h) (Or.inl ⟨by rfl, ?_⟩) (by assumption) ?_
    rotate_left 1
    · (intro w hSw; (try dsimp only at hSw); go_simp; all_goals (first | with_reducible rfl | (simp; done)))
    try simp only [Act.put, List.setIfInBounds_toArray, List.set_cons_zero, List.set_cons_succ]
    refine wpAnyH_take (i := 3) (oi := { dst := some 52, op := Op.fieldAddr 120 (Operand.tmp 51) 1, type := 0, pos := "lookup.go:61", after := #[{ on := 2, ground := Ground.data }, { on := 11, ground := Ground.gcOnly Departure.lateStores }], guard := none }) (v := ?_) rfl (by kernel_rfl) (by kernel_rfl) (by kernel_rfl) (fun _ _ _ h => h) (Or.inl ⟨by rfl, ?_⟩) (by assumption) ?_
    rotate_left 1
    · (intro w hSw; (try dsimp only at hSw); go_simp; all_goals (first | with_reducible rfl | (simp; done)))
    try simp only [Act.put, List.setIfInBounds_toArray, List.set_cons_zero, List.set_cons_succ]
    refine wpAnyH_take (i := 4) (oi := { dst := some 53, op := Op.load 116 (Operand.tmp 52), type := 116, pos := "lookup.go:61", after := #[{ on := 3, ground := Ground.data }, { on := 11, ground := Ground.gcOnly Departure.lateStores }], guard := none }) (v := ?_) rfl (by kernel_rfl) (by kernel_rfl) (by kernel_rfl) (fun _ _ _ h => h) (Or.inl ⟨by rfl, ?_⟩) (by assumption) ?_
    rotate_left 1
    · (intro w hSw; (try dsimp only at hSw); go_simp; all_goals (first | with_reducible rfl | (simp; done)))
    try simp only [Act.put, List.setIfInBounds_toArray, List.set_cons_zero, List.set_cons_succ]
    refine wpAnyH_take (i := 6) (oi := { dst := some 55, op := Op.move (Operand.tmp 0), type := 114, pos := "lookup.go:61", after := #[], guard := none }) (v := ?_) rfl (by kernel_rfl) (by kernel_rfl) (by kernel_rfl) (fun _ _ _ h => h) (Or.inl ⟨by rfl, ?_⟩) (by assumption) ?_
    rotate_left 1
    · (intro w hSw; (try dsimp only at hSw); go_simp; all_goals (first | with_reducible rfl | (simp; done)))
    try simp only [Act.put, List.setIfInBounds_toArray, List.set_cons_zero, List.set_cons_succ]
    refine wpAnyH_take (i := 7) (oi := { dst := some 56, op := Op.nilCheck (Operand.tmp 55), type := 0, pos := "lookup.go:61", after := #[{ on := 6, ground := Ground.data }], guard := none }) (v := ?_) rfl (by kernel_rfl) (by kernel_rfl) (by kernel_rfl) (fun _ _ _ h => h) (Or.inl ⟨by rfl, ?_⟩) (by assumption) ?_
    rotate_left 1
    · (intro w hSw; (try dsimp only at hSw); go_simp; all_goals (first | with_reducible rfl | (simp; done)))
    try simp only [Act.put, List.setIfInBounds_toArray, List.set_cons_zero, List.set_cons_succ]
    refine wpAnyH_take (i := 8) (oi := { dst := some 57, op := Op.fieldAddr 120 (Operand.tmp 56) 13, type := 0, pos := "lookup.go:61", after := #[{ on := 7, ground := Ground.data }], guard := none }) (v := ?_) rfl (by kernel_rfl) (by kernel_rfl) (by kernel_rfl) (fun _ _ _ h => h) (Or.inl ⟨by rfl, ?_⟩) (by assumption) ?_
    rotate_left 1
    · (intro w hSw; (try dsimp only at hSw); go_simp; all_goals (first | with_reducible rfl | (simp; done)))
    try simp only [Act.put, List.setIfInBounds_toArray, List.set_cons_zero, List.set_cons_succ]
    refine wpAnyH_take (i := 9) (oi := { dst := some 58, op := Op.load 79 (Operand.tmp 57), type := 79, pos := "lookup.go:61", after := #[{ on := 8, ground := Ground.data }], guard := none }) (v := ?_) rfl (by kernel_rfl) (by kernel_rfl) (by kernel_rfl) (fun _ _ _ h => h) (Or.inl ⟨by rfl, ?_⟩) (by assumption) ?_
    rotate_left 1
    · (intro w hSw; (try dsimp only at hSw); go_simp; all_goals (first | with_reducible rfl | (simp; done)))
    try simp only [Act.put, List.setIfInBounds_toArray, List.set_cons_zero, List.set_cons_succ]
    refine wpAnyH_ready (rs := [5, 10]) (by kernel_rfl) (by simp) ?_
    refine (AllReadyH.cons (o := { dst := some 54, op := Op.buildSlice 73 1 #[(0, Operand.tmp 53)], type := 73, pos := "lookup.go:61", after := #[{ on := 4, ground := Ground.data }, { on := 11, ground := Ground.gcOnly Departure.lateStores }], guard := none }) rfl (fun K hK => ?_) (AllReadyH.cons (o := { dst := some 59, op := Op.call { callee := Callee.value (Operand.func 255), args := #[Operand.tmp 58], argTypes := #[79] }, type := 75, pos := "lookup.go:61", after := #[{ on := 9, ground := Ground.data }], guard := none }) rfl (fun K hK => ?_) AllReadyH.nil))
    · skip
      go_simp
      have hb := (Below.refl V0.heap.size V0).alloc (Nat.le_refl _) (.cells #[.string pathR, .int .i64 E.stamp] 116)
      have hkb1 := Lib.hid (Kb.below hkb0.out hb)
      have hrb1 := Lib.hid ((hb.block w.heap.size (Array.getElem?_eq_some_iff.1 hrb0.out).1).trans hrb0.out)
      have hdp1 := Lib.hid (And.intro (heap_alloc_new V0 (.cells #[.string pathR, .int .i64 E.stamp] 116)) hkb0.out.size)
      clear hb
      obtain ⟨V1, hV⟩ : ∃ V, World.alloc V0 (.cells #[.string pathR, .int .i64 E.stamp] 116) = V := ⟨_, rfl⟩
      rw [hV] at hkb1 hrb1 hdp1
      rw [hV]
      clear hV
      refine hK.out _ _ ?_ (fun hHeld => ?_)
      · ((try dsimp only); exact HS0.out _ hkb1.out)
      clear hK K
      try dsimp only at hHeld
      try simp only [Act.put, List.setIfInBounds_toArray, List.set_cons_zero, List.set_cons_succ]
      refine wpAnyH_ready (rs := [10]) (by kernel_rfl) (by simp) ?_
      refine (AllReadyH.cons (o := { dst := some 59, op := Op.call { callee := Callee.value (Operand.func 255), args := #[Operand.tmp 58], argTypes := #[79] }, type := 75, pos := "lookup.go:61", after := #[{ on := 9, ground := Ground.data }], guard := none }) rfl (fun K hK => ?_) AllReadyH.nil)
      · skip
        go_simp
        go_at_call 255
        refine (HFl.out _).mono ?_
        rintro e V2 ⟨ev, rfl, hf, hb⟩
        have hkb2 := Lib.hid (Kb.below hkb1.out hb)
        have hrb2 := Lib.hid ((hb.block w.heap.size (Array.getElem?_eq_some_iff.1 hrb1.out).1).trans hrb1.out)
        have hdp2 := Lib.hid (And.intro ((hb.block _ (Array.getElem?_eq_some_iff.1 hdp1.out.1).1).trans hdp1.out.1) hdp1.out.2)
        have hfl2 := Lib.hid hf
        clear hf hb
        try go_wp2_with fail
        refine hK.out _ _ ?_ (fun hHeld => ?_)
        · ((try dsimp only); exact HS0.out _ hkb2.out)
        clear hK K
        try dsimp only at hHeld
        try simp only [Act.put, List.setIfInBounds_toArray, List.set_cons_zero, List.set_cons_succ]
        refine wpAnyH_ready (rs := [11]) (by kernel_rfl) (by simp) ?_
        refine (AllReadyH.cons (o := { dst := none, op := Op.store 72 (Operand.tmp 2) (Operand.tmp 49), type := 0, pos := "lookup.go:61", after := #[{ on := 0, ground := Ground.data }, { on := 10, ground := Ground.chain }, { on := 0, ground := Ground.phase }, { on := 1, ground := Ground.textOnly Departure.lateStores }, { on := 2, ground := Ground.textOnly Departure.lateStores }, { on := 3, ground := Ground.textOnly Departure.lateStores }, { on := 4, ground := Ground.textOnly Departure.lateStores }, { on := 5, ground := Ground.textOnly Departure.lateStores }, { on := 6, ground := Ground.textOnly Departure.lateStores }, { on := 7, ground := Ground.textOnly Departure.lateStores }, { on := 8, ground := Ground.textOnly Departure.lateStores }, { on := 9, ground := Ground.textOnly Departure.lateStores }, { on := 10, ground := Ground.textOnly Departure.lateStoresUnsure }], guard := none }) rfl (fun K hK => ?_) AllReadyH.nil)
        · skip
          have r0 := cell_of (j := 0) (v := .slice none 0 0) hrb2.out rfl
          have r1 := cell_of (j := 1) (v := .slice none 0 0) hrb2.out rfl
          have r2 := cell_of (j := 2) (v := .int .i64 0) hrb2.out rfl
          have r3 := cell_of (j := 3) (v := .int .i64 0) hrb2.out rfl
          have f0 := free_of hrb2.out 0
          have f1 := free_of hrb2.out 1
          have f2 := free_of hrb2.out 2
          have f3 := free_of hrb2.out 3
          have hkb3 := Lib.hid (Kb.set hkb2.out (.slice pn nn cn') (.slice pa na ca') (.int .i64 0) (.int .i64 E.life))
          have hrb3 : Hid ((set4 V2 w.heap.size (.slice pn nn cn') (.slice pa na ca') (.int .i64 0) (.int .i64 E.life)).heap[w.heap.size]? = some (.cells #[.slice pn nn cn', .slice pa na ca', .int .i64 0, .int .i64 E.life] 72 (0, 0))) := Lib.hid (set4_eq hrb2.out)
          have hfl3 : Hid (FlAt (set4 V2 w.heap.size (.slice pn nn cn') (.slice pa na ca') (.int .i64 0) (.int .i64 E.life)) E ev) := Lib.hid (FlAt.same hfl2.out (fun b cs fr q => set4_ne (fun e => by rw [e, hrb2.out] at q; injection q with q; injection q with _ q; exact absurd q (by decide))))
          have hdp3 := Lib.hid (And.intro ((set4_ne (w := V2) (b := w.heap.size) (x0 := .slice pn nn cn') (x1 := .slice pa na ca') (x2 := .int .i64 0) (x3 := .int .i64 E.life) (by have := hdp2.out.2; omega)).trans hdp2.out.1) hdp2.out.2)
          go_simp
          obtain ⟨V3, hV⟩ : ∃ V, set4 V2 w.heap.size (.slice pn nn cn') (.slice pa na ca') (.int .i64 0) (.int .i64 E.life) = V := ⟨_, rfl⟩
          rw [hV] at hkb3 hrb3 hfl3 hdp3
          unfold set4 at hV
          rw [hV]
          clear hV r0 r1 r2 r3 f0 f1 f2 f3
          refine hK.out _ _ ?_ (fun hHeld => ?_)
          · ((try dsimp only); exact HS0.out _ hkb3.out)
          clear hK K
          try dsimp only at hHeld
          try simp only [Act.put, List.setIfInBounds_toArray, List.set_cons_zero, List.set_cons_succ]
          refine wpAnyH_take (i := 12) (oi := { dst := some 3, op := Op.assign (Operand.tmp 54), type := 73, pos := "lookup.go:61", after := #[{ on := 5, ground := Ground.data }, { on := 11, ground := Ground.chain }, { on := 0, ground := Ground.phase }, { on := 1, ground := Ground.phase }, { on := 2, ground := Ground.phase }, { on := 3, ground := Ground.phase }, { on := 4, ground := Ground.phase }, { on := 5, ground := Ground.phase }, { on := 6, ground := Ground.textOnly Departure.lateStores }, { on := 7, ground := Ground.textOnly Departure.lateStores }, { on := 8, ground := Ground.textOnly Departure.lateStores }, { on := 9, ground := Ground.textOnly Departure.lateStores }, { on := 10, ground := Ground.textOnly Departure.lateStoresUnsure }, { on := 11, ground := Ground.phase }], guard := none }) (v := ?_) rfl (by kernel_rfl) (by kernel_rfl) (by kernel_rfl) (fun _ _ _ h => h) (Or.inl ⟨by rfl, ?_⟩) (by assumption) ?_
          rotate_left 1
          · (intro w hSw; (try dsimp only at hSw); go_simp; all_goals (first | with_reducible rfl | (simp; done)))
          try simp only [Act.put, List.setIfInBounds_toArray, List.set_cons_zero, List.set_cons_succ]
          refine wpAnyH_take (i := 13) (oi := { dst := some 4, op := Op.assign (Operand.tmp 59), type := 75, pos := "lookup.go:61", after := #[{ on := 10, ground := Ground.data }, { on := 12, ground := Ground.chain }, { on := 0, ground := Ground.phase }, { on := 1, ground := Ground.phase }, { on := 2, ground := Ground.phase }, { on := 3, ground := Ground.phase }, { on := 4, ground := Ground.phase }, { on := 5, ground := Ground.phase }, { on := 6, ground := Ground.phase }, { on := 7, ground := Ground.phase }, { on := 8, ground := Ground.phase }, { on := 9, ground := Ground.phase }, { on := 10, ground := Ground.phase }, { on := 11, ground := Ground.phase }, { on := 12, ground := Ground.phase }], guard := none }) (v := ?_) rfl (by kernel_rfl) (by kernel_rfl) (by kernel_rfl) (fun _ _ _ h => h) (Or.inl ⟨by rfl, ?_⟩) (by assumption) ?_
          rotate_left 1
          · (intro w hSw; (try dsimp only at hSw); go_simp; all_goals (first | with_reducible rfl | (simp; done)))
          try simp only [Act.put, List.setIfInBounds_toArray, List.set_cons_zero, List.set_cons_succ]
          refine wpAnyH_take (i := 14) (oi := { dst := some 5, op := Op.assign (Operand.const (Value.bool true)), type := 4, pos := "lookup.go:61", after := #[{ on := 13, ground := Ground.chain }, { on := 0, ground := Ground.phase }, { on := 1, ground := Ground.phase }, { on := 2, ground := Ground.phase }, { on := 3, ground := Ground.phase }, { on := 4, ground := Ground.phase }, { on := 5, ground := Ground.phase }, { on := 6, ground := Ground.phase }, { on := 7, ground := Ground.phase }, { on := 8, ground := Ground.phase }, { on := 9, ground := Ground.phase }, { on := 10, ground := Ground.phase }, { on := 11, ground := Ground.phase }, { on := 12, ground := Ground.phase }, { on := 13, ground := Ground.phase }], guard := none }) (v := ?_) rfl (by kernel_rfl) (by kernel_rfl) (by kernel_rfl) (fun _ _ _ h => h) (Or.inl ⟨by rfl, ?_⟩) (by assumption) ?_
          rotate_left 1
          · (intro w hSw; (try dsimp only at hSw); go_simp; all_goals (first | with_reducible rfl | (simp; done)))
          try simp only [Act.put, List.setIfInBounds_toArray, List.set_cons_zero, List.set_cons_succ]
          refine wpAnyH_done (by kernel_rfl) ?_ _
          go_wp2
          go_meet
          exact ⟨hrb3.out, rfl, hfl3.out, ⟨_, rfl, hdp3.out.2, hdp3.out.1⟩, hkb3.out, HK.out⟩
    · skip
      go_simp
      go_at_call 255
      refine (HFl.out _).mono ?_
      rintro e V4 ⟨ev, rfl, hf, hb⟩
      have hkb4 := Lib.hid (Kb.below hkb0.out hb)
      have hrb4 := Lib.hid ((hb.block w.heap.size (Array.getElem?_eq_some_iff.1 hrb0.out).1).trans hrb0.out)
      have hfl4 := Lib.hid hf
      clear hf hb
      try go_wp2_with fail
      refine hK.out _ _ ?_ (fun hHeld => ?_)
      · ((try dsimp only); exact HS0.out _ hkb4.out)
      clear hK K
      try dsimp only at hHeld
      try simp only [Act.put, List.setIfInBounds_toArray, List.set_cons_zero, List.set_cons_succ]
      refine wpAnyH_ready (rs := [5, 11]) (by kernel_rfl) (by simp) ?_
      refine (AllReadyH.cons (o := { dst := some 54, op := Op.buildSlice 73 1 #[(0, Operand.tmp 53)], type := 73, pos := "lookup.go:61", after := #[{ on := 4, ground := Ground.data }, { on := 11, ground := Ground.gcOnly Departure.lateStores }], guard := none }) rfl (fun K hK => ?_) (AllReadyH.cons (o := { dst := none, op := Op.store 72 (Operand.tmp 2) (Operand.tmp 49), type := 0, pos := "lookup.go:61", after := #[{ on := 0, ground := Ground.data }, { on := 10, ground := Ground.chain }, { on := 0, ground := Ground.phase }, { on := 1, ground := Ground.textOnly Departure.lateStores }, { on := 2, ground := Ground.textOnly Departure.lateStores }, { on := 3, ground := Ground.textOnly Departure.lateStores }, { on := 4, ground := Ground.textOnly Departure.lateStores }, { on := 5, ground := Ground.textOnly Departure.lateStores }, { on := 6, ground := Ground.textOnly Departure.lateStores }, { on := 7, ground := Ground.textOnly Departure.lateStores }, { on := 8, ground := Ground.textOnly Departure.lateStores }, { on := 9, ground := Ground.textOnly Departure.lateStores }, { on := 10, ground := Ground.textOnly Departure.lateStoresUnsure }], guard := none }) rfl (fun K hK => ?_) AllReadyH.nil))
      · skip
        go_simp
        have hb := (Below.refl V4.heap.size V4).alloc (Nat.le_refl _) (.cells #[.string pathR, .int .i64 E.stamp] 116)
        have hkb5 := Lib.hid (Kb.below hkb4.out hb)
        have hrb5 := Lib.hid ((hb.block w.heap.size (Array.getElem?_eq_some_iff.1 hrb4.out).1).trans hrb4.out)
        have hdp5 := Lib.hid (And.intro (heap_alloc_new V4 (.cells #[.string pathR, .int .i64 E.stamp] 116)) hkb4.out.size)
        have hfl5 := Lib.hid (FlAt.below hfl4.out hb)
        clear hb
        obtain ⟨V5, hV⟩ : ∃ V, World.alloc V4 (.cells #[.string pathR, .int .i64 E.stamp] 116) = V := ⟨_, rfl⟩
        rw [hV] at hkb5 hrb5 hdp5 hfl5
        rw [hV]
        clear hV
        refine hK.out _ _ ?_ (fun hHeld => ?_)
        · ((try dsimp only); exact HS0.out _ hkb5.out)
        clear hK K
        try dsimp only at hHeld
        try simp only [Act.put, List.setIfInBounds_toArray, List.set_cons_zero, List.set_cons_succ]
        refine wpAnyH_ready (rs := [11]) (by kernel_rfl) (by simp) ?_
        refine (AllReadyH.cons (o := { dst := none, op := Op.store 72 (Operand.tmp 2) (Operand.tmp 49), type := 0, pos := "lookup.go:61", after := #[{ on := 0, ground := Ground.data }, { on := 10, ground := Ground.chain }, { on := 0, ground := Ground.phase }, { on := 1, ground := Ground.textOnly Departure.lateStores }, { on := 2, ground := Ground.textOnly Departure.lateStores }, { on := 3, ground := Ground.textOnly Departure.lateStores }, { on := 4, ground := Ground.textOnly Departure.lateStores }, { on := 5, ground := Ground.textOnly Departure.lateStores }, { on := 6, ground := Ground.textOnly Departure.lateStores }, { on := 7, ground := Ground.textOnly Departure.lateStores }, { on := 8, ground := Ground.textOnly Departure.lateStores }, { on := 9, ground := Ground.textOnly Departure.lateStores }, { on := 10, ground := Ground.textOnly Departure.lateStoresUnsure }], guard := none }) rfl (fun K hK => ?_) AllReadyH.nil)
        · skip
          have r0 := cell_of (j := 0) (v := .slice none 0 0) hrb5.out rfl
          have r1 := cell_of (j := 1) (v := .slice none 0 0) hrb5.out rfl
          have r2 := cell_of (j := 2) (v := .int .i64 0) hrb5.out rfl
          have r3 := cell_of (j := 3) (v := .int .i64 0) hrb5.out rfl
          have f0 := free_of hrb5.out 0
          have f1 := free_of hrb5.out 1
          have f2 := free_of hrb5.out 2
          have f3 := free_of hrb5.out 3
          have hkb6 := Lib.hid (Kb.set hkb5.out (.slice pn nn cn') (.slice pa na ca') (.int .i64 0) (.int .i64 E.life))
          have hrb6 : Hid ((set4 V5 w.heap.size (.slice pn nn cn') (.slice pa na ca') (.int .i64 0) (.int .i64 E.life)).heap[w.heap.size]? = some (.cells #[.slice pn nn cn', .slice pa na ca', .int .i64 0, .int .i64 E.life] 72 (0, 0))) := Lib.hid (set4_eq hrb5.out)
          have hfl6 : Hid (FlAt (set4 V5 w.heap.size (.slice pn nn cn') (.slice pa na ca') (.int .i64 0) (.int .i64 E.life)) E ev) := Lib.hid (FlAt.same hfl5.out (fun b cs fr q => set4_ne (fun e => by rw [e, hrb5.out] at q; injection q with q; injection q with _ q; exact absurd q (by decide))))
          have hdp6 := Lib.hid (And.intro ((set4_ne (w := V5) (b := w.heap.size) (x0 := .slice pn nn cn') (x1 := .slice pa na ca') (x2 := .int .i64 0) (x3 := .int .i64 E.life) (by have := hdp5.out.2; omega)).trans hdp5.out.1) hdp5.out.2)
          go_simp
          obtain ⟨V6, hV⟩ : ∃ V, set4 V5 w.heap.size (.slice pn nn cn') (.slice pa na ca') (.int .i64 0) (.int .i64 E.life) = V := ⟨_, rfl⟩
          rw [hV] at hkb6 hrb6 hfl6 hdp6
          unfold set4 at hV
          rw [hV]
          clear hV r0 r1 r2 r3 f0 f1 f2 f3
          refine hK.out _ _ ?_ (fun hHeld => ?_)
          · ((try dsimp only); exact HS0.out _ hkb6.out)
          clear hK K
          try dsimp only at hHeld
          try simp only [Act.put, List.setIfInBounds_toArray, List.set_cons_zero, List.set_cons_succ]
          refine wpAnyH_take (i := 12) (oi := { dst := some 3, op := Op.assign (Operand.tmp 54), type := 73, pos := "lookup.go:61", after := #[{ on := 5, ground := Ground.data }, { on := 11, ground := Ground.chain }, { on := 0, ground := Ground.phase }, { on := 1, ground := Ground.phase }, { on := 2, ground := Ground.phase }, { on := 3, ground := Ground.phase }, { on := 4, ground := Ground.phase }, { on := 5, ground := Ground.phase }, { on := 6, ground := Ground.textOnly Departure.lateStores }, { on := 7, ground := Ground.textOnly Departure.lateStores }, { on := 8, ground := Ground.textOnly Departure.lateStores }, { on := 9, ground := Ground.textOnly Departure.lateStores }, { on := 10, ground := Ground.textOnly Departure.lateStoresUnsure }, { on := 11, ground := Ground.phase }], guard := none }) (v := ?_) rfl (by kernel_rfl) (by kernel_rfl) (by kernel_rfl) (fun _ _ _ h => h) (Or.inl ⟨by rfl, ?_⟩) (by assumption) ?_
          rotate_left 1
          · (intro w hSw; (try dsimp only at hSw); go_simp; all_goals (first | with_reducible rfl | (simp; done)))
          try simp only [Act.put, List.setIfInBounds_toArray, List.set_cons_zero, List.set_cons_succ]
          refine wpAnyH_take (i := 13) (oi := { dst := some 4, op := Op.assign (Operand.tmp 59), type := 75, pos := "lookup.go:61", after := #[{ on := 10, ground := Ground.data }, { on := 12, ground := Ground.chain }, { on := 0, ground := Ground.phase }, { on := 1, ground := Ground.phase }, { on := 2, ground := Ground.phase }, { on := 3, ground := Ground.phase }, { on := 4, ground := Ground.phase }, { on := 5, ground := Ground.phase }, { on := 6, ground := Ground.phase }, { on := 7, ground := Ground.phase }, { on := 8, ground := Ground.phase }, { on := 9, ground := Ground.phase }, { on := 10, ground := Ground.phase }, { on := 11, ground := Ground.phase }, { on := 12, ground := Ground.phase }], guard := none }) (v := ?_) rfl (by kernel_rfl) (by kernel_rfl) (by kernel_rfl) (fun _ _ _ h => h) (Or.inl ⟨by rfl, ?_⟩) (by assumption) ?_
          rotate_left 1
          · (intro w hSw; (try dsimp only at hSw); go_simp; all_goals (first | with_reducible rfl | (simp; done)))
          try simp only [Act.put, List.setIfInBounds_toArray, List.set_cons_zero, List.set_cons_succ]
          refine wpAnyH_take (i := 14) (oi := { dst := some 5, op := Op.assign (Operand.const (Value.bool true)), type := 4, pos := "lookup.go:61", after := #[{ on := 13, ground := Ground.chain }, { on := 0, ground := Ground.phase }, { on := 1, ground := Ground.phase }, { on := 2, ground := Ground.phase }, { on := 3, ground := Ground.phase }, { on := 4, ground := Ground.phase }, { on := 5, ground := Ground.phase }, { on := 6, ground := Ground.phase }, { on := 7, ground := Ground.phase }, { on := 8, ground := Ground.phase }, { on := 9, ground := Ground.phase }, { on := 10, ground := Ground.phase }, { on := 11, ground := Ground.phase }, { on := 12, ground := Ground.phase }, { on := 13, ground := Ground.phase }], guard := none }) (v := ?_) rfl (by kernel_rfl) (by kernel_rfl) (by kernel_rfl) (fun _ _ _ h => h) (Or.inl ⟨by rfl, ?_⟩) (by assumption) ?_
          rotate_left 1
          · (intro w hSw; (try dsimp only at hSw); go_simp; all_goals (first | with_reducible rfl | (simp; done)))
          try simp only [Act.put, List.setIfInBounds_toArray, List.set_cons_zero, List.set_cons_succ]
          refine wpAnyH_done (by kernel_rfl) ?_ _
          go_wp2
          go_meet
          exact ⟨hrb6.out, rfl, hfl6.out, ⟨_, rfl, hdp6.out.2, hdp6.out.1⟩, hkb6.out, HK.out⟩
      · skip
        have r0 := cell_of (j := 0) (v := .slice none 0 0) hrb4.out rfl
        have r1 := cell_of (j := 1) (v := .slice none 0 0) hrb4.out rfl
        have r2 := cell_of (j := 2) (v := .int .i64 0) hrb4.out rfl
        have r3 := cell_of (j := 3) (v := .int .i64 0) hrb4.out rfl
        have f0 := free_of hrb4.out 0
        have f1 := free_of hrb4.out 1
        have f2 := free_of hrb4.out 2
        have f3 := free_of hrb4.out 3
        have hkb7 := Lib.hid (Kb.set hkb4.out (.slice pn nn cn') (.slice pa na ca') (.int .i64 0) (.int .i64 E.life))
        have hrb7 : Hid ((set4 V4 w.heap.size (.slice pn nn cn') (.slice pa na ca') (.int .i64 0) (.int .i64 E.life)).heap[w.heap.size]? = some (.cells #[.slice pn nn cn', .slice pa na ca', .int .i64 0, .int .i64 E.life] 72 (0, 0))) := Lib.hid (set4_eq hrb4.out)
        have hfl7 : Hid (FlAt (set4 V4 w.heap.size (.slice pn nn cn') (.slice pa na ca') (.int .i64 0) (.int .i64 E.life)) E ev) := Lib.hid (FlAt.same hfl4.out (fun b cs fr q => set4_ne (fun e => by rw [e, hrb4.out] at q; injection q with q; injection q with _ q; exact absurd q (by decide))))
        go_simp
        obtain ⟨V7, hV⟩ : ∃ V, set4 V4 w.heap.size (.slice pn nn cn') (.slice pa na ca') (.int .i64 0) (.int .i64 E.life) = V := ⟨_, rfl⟩
        rw [hV] at hkb7 hrb7 hfl7
        unfold set4 at hV
        rw [hV]
        clear hV r0 r1 r2 r3 f0 f1 f2 f3
        refine hK.out _ _ ?_ (fun hHeld => ?_)
        · ((try dsimp only); exact HS0.out _ hkb7.out)
        clear hK K
        try dsimp only at hHeld
        try simp only [Act.put, List.setIfInBounds_toArray, List.set_cons_zero, List.set_cons_succ]
        refine wpAnyH_ready (rs := [5]) (by kernel_rfl) (by simp) ?_
        refine (AllReadyH.cons (o := { dst := some 54, op := Op.buildSlice 73 1 #[(0, Operand.tmp 53)], type := 73, pos := "lookup.go:61", after := #[{ on := 4, ground := Ground.data }, { on := 11, ground := Ground.gcOnly Departure.lateStores }], guard := none }) rfl (fun K hK => ?_) AllReadyH.nil)
        · skip
          go_simp
          have hb := (Below.refl V7.heap.size V7).alloc (Nat.le_refl _) (.cells #[.string pathR, .int .i64 E.stamp] 116)
          have hkb8 := Lib.hid (Kb.below hkb7.out hb)
          have hrb8 := Lib.hid ((hb.block w.heap.size (Array.getElem?_eq_some_iff.1 hrb7.out).1).trans hrb7.out)
          have hdp8 := Lib.hid (And.intro (heap_alloc_new V7 (.cells #[.string pathR, .int .i64 E.stamp] 116)) hkb7.out.size)
          have hfl8 := Lib.hid (FlAt.below hfl7.out hb)
          clear hb
          obtain ⟨V8, hV⟩ : ∃ V, World.alloc V7 (.cells #[.string pathR, .int .i64 E.stamp] 116) = V := ⟨_, rfl⟩
          rw [hV] at hkb8 hrb8 hdp8 hfl8
          rw [hV]
          clear hV
          refine hK.out _ _ ?_ (fun hHeld => ?_)
          · ((try dsimp only); exact HS0.out _ hkb8.out)
          clear hK K
          try dsimp only at hHeld
          try simp only [Act.put, List.setIfInBounds_toArray, List.set_cons_zero, List.set_cons_succ]
          refine wpAnyH_take (i := 12) (oi := { dst := some 3, op := Op.assign (Operand.tmp 54), type := 73, pos := "lookup.go:61", after := #[{ on := 5, ground := Ground.data }, { on := 11, ground := Ground.chain }, { on := 0, ground := Ground.phase }, { on := 1, ground := Ground.phase }, { on := 2, ground := Ground.phase }, { on := 3, ground := Ground.phase }, { on := 4, ground := Ground.phase }, { on := 5, ground := Ground.phase }, { on := 6, ground := Ground.textOnly Departure.lateStores }, { on := 7, ground := Ground.textOnly Departure.lateStores }, { on := 8, ground := Ground.textOnly Departure.lateStores }, { on := 9, ground := Ground.textOnly Departure.lateStores }, { on := 10, ground := Ground.textOnly Departure.lateStoresUnsure }, { on := 11, ground := Ground.phase }], guard := none }) (v := ?_) rfl (by kernel_rfl) (by kernel_rfl) (by kernel_rfl) (fun _ _ _ h => h) (Or.inl ⟨by rfl, ?_⟩) (by assumption) ?_
          rotate_left 1
          · (intro w hSw; (try dsimp only at hSw); go_simp; all_goals (first | with_reducible rfl | (simp; done)))
          try simp only [Act.put, List.setIfInBounds_toArray, List.set_cons_zero, List.set_cons_succ]
          refine wpAnyH_take (i := 13) (oi := { dst := some 4, op := Op.assign (Operand.tmp 59), type := 75, pos := "lookup.go:61", after := #[{ on := 10, ground := Ground.data }, { on := 12, ground := Ground.chain }, { on := 0, ground := Ground.phase }, { on := 1, ground := Ground.phase }, { on := 2, ground := Ground.phase }, { on := 3, ground := Ground.phase }, { on := 4, ground := Ground.phase }, { on := 5, ground := Ground.phase }, { on := 6, ground := Ground.phase }, { on := 7, ground := Ground.phase }, { on := 8, ground := Ground.phase }, { on := 9, ground := Ground.phase }, { on := 10, ground := Ground.phase }, { on := 11, ground := Ground.phase }, { on := 12, ground := Ground.phase }], guard := none }) (v := ?_) rfl (by kernel_rfl) (by kernel_rfl) (by kernel_rfl) (fun _ _ _ h => h) (Or.inl ⟨by rfl, ?_⟩) (by assumption) ?_
          rotate_left 1
          · (intro w hSw; (try dsimp only at hSw); go_simp; all_goals (first | with_reducible rfl | (simp; done)))
          try simp only [Act.put, List.setIfInBounds_toArray, List.set_cons_zero, List.set_cons_succ]
          refine wpAnyH_take (i := 14) (oi := { dst := some 5, op := Op.assign (Operand.const (Value.bool true)), type := 4, pos := "lookup.go:61", after := #[{ on := 13, ground := Ground.chain }, { on := 0, ground := Ground.phase }, { on := 1, ground := Ground.phase }, { on := 2, ground := Ground.phase }, { on := 3, ground := Ground.phase }, { on := 4, ground := Ground.phase }, { on := 5, ground := Ground.phase }, { on := 6, ground := Ground.phase }, { on := 7, ground := Ground.phase }, { on := 8, ground := Ground.phase }, { on := 9, ground := Ground.phase }, { on := 10, ground := Ground.phase }, { on := 11, ground := Ground.phase }, { on := 12, ground := Ground.phase }, { on := 13, ground := Ground.phase }], guard := none }) (v := ?_) rfl (by kernel_rfl) (by kernel_rfl) (by kernel_rfl) (fun _ _ _ h => h) (Or.inl ⟨by rfl, ?_⟩) (by assumption) ?_
          rotate_left 1
          · (intro w hSw; (try dsimp only at hSw); go_simp; all_goals (first | with_reducible rfl | (simp; done)))
          try simp only [Act.put, List.setIfInBounds_toArray, List.set_cons_zero, List.set_cons_succ]
          refine wpAnyH_done (by kernel_rfl) ?_ _
          go_wp2
          go_meet
          exact ⟨hrb8.out, rfl, hfl8.out, ⟨_, rfl, hdp8.out.2, hdp8.out.1⟩, hkb8.out, HK.out⟩
  obtain ⟨q1, rfl, q3, ⟨g, rfl, q4, q5⟩, q6, q7⟩ := hcut
  have hu4 : ∃ y, y = u4 := ⟨_, rfl⟩
  go_wp2
  refine bodyPost_ret (results_r4 rfl _ _ w.heap.size _ _ _ _ rfl q1 Tryz.underlying72 rfl sz_ans) rfl ?_
  have hk4 := HK4.out
  have hne : ∀ k, k < w4.heap.size → k ≠ w.heap.size → wc.heap[k]? = w4.heap[k]? := fun k h1 h2 => (q6.keep k (Nat.lt_of_lt_of_le h1 hk4.size) h2).trans (hk4.block k h1)
  obtain ⟨hS, hFz⟩ := HA4.out.but (rb := w.heap.size) (wy := wc) (by omega) HC4.out H.out.ok.base ⟨q6.o.1.trans hk4.os, q6.o.2.1.trans hk4.tape, q6.o.2.2.trans hk4.output⟩ (Nat.le_trans hk4.size q6.size) hne
  refine ⟨⟨col, hS, ?_⟩, ?_⟩
  · exact ⟨hFz.os.trans HF4.out.os, hFz.tape.trans HF4.out.tape, hFz.output.trans HF4.out.output, Nat.le_trans HF4.out.size hFz.size, HF4.out.old, fun k hk hn => (hne k (by omega) (by omega)).trans (HF4.out.keep k hk hn), fun k hk h8 hu => (hne k (by omega) (by omega)).trans (HF4.out.bod k hk h8 hu)⟩
  · refine ⟨_, _, _, _, rfl, ?_, ?_, ⟨g, 1, rfl, by have := hk4.size; omega, q5⟩, q3.err⟩
    · rw [HEn.out.1]
      exact ownR q7.1 (by omega) (fun k h1 h2 => q6.keep k h2 (by omega))
    · rw [HEn.out.2]
      exact ownR q7.2.1 (by omega) (fun k h1 h2 => q6.keep k h2 (by omega))
end
end Go.Proofs.YtogdkmkganpaaaaGreatDoor
