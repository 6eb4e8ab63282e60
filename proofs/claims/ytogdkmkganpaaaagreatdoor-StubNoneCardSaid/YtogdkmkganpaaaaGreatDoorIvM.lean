/- A try is sent. -/
import Derived.Test.YtogdkmkganpaaaaGreatDoorSnCb
namespace Go.Proofs.YtogdkmkganpaaaaGreatDoor
open Go.RowKit Go.Mp Go.Rb Go.Lib Go.Wi
section
variable {W0 c : Nat} {col col' : Nat → Nat} {w w' : World} {sb lb wb : Nat} {l l' : LkL} {V V' : LkV} {cs : Nat → Prop} {id bg : Int}
theorem infoTry : (Tryz.prog.info? 162).map (fun i => (i.zero, i.size, i.bytes)) = some (some (.agg #[.int .i64 0, .string ⟨#[]⟩]), 2, 24) := by kernel_rfl
/-- Behind an append to the tries, and its store. -/
theorem LkIn.tries_ (h : LkIn c col w sb lb l V) (hc : ColOk W0 col w) (h100 : 100 ≤ c) {w4 : World} {g4 cap4 : Nat} (t : Int × ByteArray) (hg : w.grownBy w4 V.tri.ownBlock) (hown : w4.ownsRow 0 162 2 (.slice (some ⟨g4, 0, none⟩) (l.tries.length + 1) cap4) (l.tries.length + 1) (l.tries.flatMap triC ++ triC t)) (hat : V.tri.ownBlock = some g4 ∨ w.heap.size ≤ g4) (hlt : g4 < w4.heap.size) :
    LkIn c (paint w w4 c col) (w4.setCell ⟨lb, 12, none⟩ (.slice (some ⟨g4, 0, none⟩) (l.tries.length + 1) cap4)) sb lb { l with tries := l.tries ++ [t] } { V with tri := .slice (some ⟨g4, 0, none⟩) (l.tries.length + 1) cap4 } ∧
    ColOk W0 (paint w w4 c col) (w4.setCell ⟨lb, 12, none⟩ (.slice (some ⟨g4, 0, none⟩) (l.tries.length + 1) cap4)) ∧ Fr (fun x => x = c) col (paint w w4 c col) w (w4.setCell ⟨lb, 12, none⟩ (.slice (some ⟨g4, 0, none⟩) (l.tries.length + 1) cap4)) := by
  -- what is not of the row's type is as it was
  have hT : ∀ (t : TypeId) k, k < w.heap.size → t ≠ 162 → (∃ (cs : Array Value) (fr : Nat × Nat), w.heap[k]? = some (Obj.cells cs t fr)) → w4.heap[k]? = w.heap[k]? := fun t k hk ht ⟨cs, fr, e⟩ => hg.block k hk (fun e2 => by
    rcases h.tri.1.2 with ⟨e3, _⟩ | ⟨g, cp, cur, e3, _, hgg, _⟩
    · rw [e3] at e2; cases e2
    · rw [e3] at e2
      have : g = k := by first | (injection e2 with e2; exact e2) | (injection e2 with e2; exact e2.symm)
      rw [this, e] at hgg
      injection hgg with hgg
      injection hgg with _ hgg
      exact ht hgg)
  have h6 : ∀ k, col k = 6 → w4.heap[k]? = w.heap[k]? := fun k e => hg.block k (col_new hc (by decide) k e) (fun e2 => by
    have := h.tri.2 k (by first | exact e2 | exact e2.symm)
    omega)
  have hp : ∀ k x, x ≠ 0 → col k = x → paint w w4 c col k = x := fun k x hx e => by rw [paint_old (col_new hc hx k e), e]
  have hbl : w4.heap[lb]? = w.heap[lb]? := hT _ lb h.lt (by decide) ⟨_, _, h.blk⟩
  have hok4 : ColOk W0 (paint w w4 c col) w4 := hc.paint (by omega) hg.size (fun k e => hg.block k (col_new hc (by decide) k e) (fun e2 => by
    have := h.tri.2 k (by first | exact e2 | exact e2.symm)
    omega))
  have hrow : RowIn (fun k => paint w w4 c col k = c) w4 162 2 (.slice (some ⟨g4, 0, none⟩) (l.tries.length + 1) cap4) (l.tries ++ [t]).length ((l.tries ++ [t]).flatMap triC) := by
    refine ⟨?_, fun q e => ?_⟩
    · rw [List.length_append, List.flatMap_append]
      exact hown
    · have e1 : g4 = q := by injection e
      subst e1
      rcases hat with h1 | h1
      · exact hp _ _ (by omega) (h.tri.2 g4 h1)
      · exact paint_new ⟨h1, hlt⟩
  have hcs : ∀ {v : Value} {L : List Value}, CsIn (fun k => col k = 6) w v L → CsIn (fun k => paint w w4 c col k = 6) w4 v L := fun h => h.same (fun k e => ⟨hp k 6 (by decide) e, h6 k e⟩)
  have hd : RowIn (fun k => paint w w4 c col k = c) w4 9 1 V.dat l.data.length (l.data.map .string) := h.dat.same (fun k e => ⟨hp k c (by omega) e, fun q => hT _ k (col_new hc (by omega) k e) (by decide) q⟩)
  have hst : StIn (fun k => paint w w4 c col k = c) w4 V.str l.strm := h.str.same (fun k e => ⟨hp k c (by omega) e, fun ⟨cs, fr, q⟩ => q.elim (fun q => hT _ k (col_new hc (by omega) k e) (by decide) ⟨_, _, q⟩) (fun q => hT _ k (col_new hc (by omega) k e) (by decide) ⟨_, _, q⟩)⟩)
  have hlb : paint w w4 c col lb = c := hp lb c (by omega) h.own
  have hne : ∀ k, k ≠ lb → (w4.setCell ⟨lb, 12, none⟩ (.slice (some ⟨g4, 0, none⟩) (l.tries.length + 1) cap4)).heap[k]? = w4.heap[k]? := fun k hk => heap_setCell_ne _ _ _ _ _ hk
  have hfs := fr_set (lb := lb) hok4 (.inl (by rw [hlb]; exact h100)) 12 (.slice (some ⟨g4, 0, none⟩) (l.tries.length + 1) cap4)
  rw [hlb] at hfs
  refine ⟨?_, hfs.1, ?_⟩
  · have hN : ∀ k, (∃ (cs : Array Value) (t : TypeId) (fr : Nat × Nat), w4.heap[k]? = some (Obj.cells cs t fr) ∧ t ≠ 120) → (w4.setCell ⟨lb, 12, none⟩ (.slice (some ⟨g4, 0, none⟩) (l.tries.length + 1) cap4)).heap[k]? = w4.heap[k]? := fun k ⟨cs, t, fr, e, ht⟩ => hne k (fun e2 => by
      rw [e2, hbl, h.blk] at e
      injection e with e
      injection e with _ e
      exact ht e.symm)
    have hn6 : ∀ k, paint w w4 c col k = 6 → (w4.setCell ⟨lb, 12, none⟩ (.slice (some ⟨g4, 0, none⟩) (l.tries.length + 1) cap4)).heap[k]? = w4.heap[k]? := fun k e => hne k (fun e2 => by rw [e2, hlb] at e; omega)
    refine ⟨?_, hlb, (hcs h.srv).same (fun k e => ⟨e, hn6 k e⟩), (hcs h.sub).same (fun k e => ⟨e, hn6 k e⟩), (hcs h.kin).same (fun k e => ⟨e, hn6 k e⟩), hrow.same (fun k e => ⟨e, fun ⟨cs, fr, q⟩ => hN k ⟨cs, _, fr, q, by decide⟩⟩), hst.same (fun k e => ⟨e, fun ⟨cs, fr, q⟩ => q.elim (fun q => hN k ⟨cs, _, fr, q, by decide⟩) (fun q => hN k ⟨cs, _, fr, q, by decide⟩)⟩), hd.same (fun k e => ⟨e, fun ⟨cs, fr, q⟩ => hN k ⟨cs, _, fr, q, by decide⟩⟩)⟩
    exact heap_setCell_eq _ _ _ _ _ _ _ (hbl.trans h.blk)
  · refine ⟨hg.os, hg.tape, hg.output, by rw [size_setCell']; exact hg.size, fun k hk => paint_old hk, fun k hk hn => ?_, fun k hk h8 _ => ?_⟩
    · rw [hne k (fun e => hn (by rw [e]; exact h.own))]
      exact hg.block k hk (fun e => hn (h.tri.2 k (by first | exact e | exact e.symm)))
    · rw [hne k (fun e => by rw [e, h.own] at h8; omega)]
      exact hg.block k hk (fun e => by have := h.tri.2 k (by first | exact e | exact e.symm); omega)
/-- The lookup, its resolver and the world. -/
structure AllIn (w0 : World) (W0 c : Nat) (col : Nat → Nat) (w : World) (wb sb lb : Nat) (m : MS) (bg : Int) (l : LkL) (V : LkV) : Prop where
  ok : ColOk W0 col w
  base : W0 = w0.heap.size
  bel : Below W0 w0 w
  net : PW col w wb m.net
  stb : SbIn col w sb wb m.id bg
  lk : LkIn c col w sb lb l V
theorem Below.fr {w0 : World} (h : Below W0 w0 w) (hc : ColOk W0 col w) (hf : Fr cs col col' w w') (h0 : ¬ cs 0) : Below W0 w0 w' :=
  ⟨hf.os.trans h.os, hf.tape.trans h.tape, hf.output.trans h.output, Nat.le_trans h.size hf.size, fun k hk => (hf.keep k (Nat.lt_of_lt_of_le hk hc.base) (by
    have : col k = 0 := Classical.byContradiction fun hn => by have := (hc.lo k hn).1; omega
    rw [this]; exact h0)).trans (h.block k hk)⟩
/-- What a lookup's step may change. -/
def LC (c : Nat) (x : Nat) : Prop := x = 1 ∨ x = 2 ∨ x = 3 ∨ x = 4 ∨ x = 5 ∨ x = c
def StepR (w0 : World) (W0 c : Nat) (col : Nat → Nat) (w : World) (wb sb lb : Nat) (m' : MS) (bg : Int) (l' : LkL) (v : Value) (e : Ending) (w' : World) : Prop :=
  e = .returned v ∧ ∃ col' V', AllIn w0 W0 c col' w' wb sb lb m' bg l' V' ∧ Fr (LC c) col col' w w'
/-- The resolver has a new ID, all else that stood is as it was. -/
def NIx (W0 : Nat) (col : Nat → Nat) (w : World) (sb wb : Nat) (ni bg : Int) (wx : World) : Prop := SbIn col wx sb wb ni bg ∧ ColOk W0 col wx ∧ Fr (fun x => x = 4) col col w wx
theorem NIx.any {ni : Int} {wx wy : World} (h : NIx W0 col w sb wb ni bg wx) (hc : ColOk W0 col w) (ho : wy.os = wx.os ∧ wy.tape = wx.tape ∧ wy.output = wx.output) (hs : wx.heap.size ≤ wy.heap.size) (hh : ∀ k, k < w.heap.size → wy.heap[k]? = wx.heap[k]?) : NIx W0 col w sb wb ni bg wy := by
  obtain ⟨h1, h2, h3⟩ := h
  refine ⟨⟨(hh sb (col_new hc (by decide) sb h1.2)).trans h1.1, h1.2⟩, ⟨Nat.le_trans h2.base hs, fun k hk => ⟨(h2.lo k hk).1, Nat.lt_of_lt_of_le (h2.lo k hk).2 hs⟩, fun k hk => ?_⟩, ho.1.trans h3.os, ho.2.1.trans h3.tape, ho.2.2.trans h3.output, Nat.le_trans h3.size hs, fun _ _ => rfl, fun k hk hn => (hh k hk).trans (h3.keep k hk hn), fun k hk h8 hu => (hh k hk).trans (h3.bod k hk h8 hu)⟩
  obtain ⟨cs, fr, e⟩ := h2.u8 k hk
  exact ⟨cs, fr, (hh k (col_new hc (by decide) k hk)).trans e⟩
/-- The new try in a block of its own. -/
def NTx (W0 : Nat) (col : Nat → Nat) (w : World) (sb wb : Nat) (ni bg : Int) (sv : ByteArray) (tv : Value) (wx : World) : Prop := ∃ tb, tv = .pointer (some ⟨tb, 0, none⟩) ∧ w.heap.size ≤ tb ∧ wx.heap[tb]? = some (.cells #[.int .i64 ni, .string sv] 162 (0, 0)) ∧ NIx W0 col w sb wb ni bg wx
theorem NTx.new {ni : Int} {wx : World} {sv : ByteArray} (h : NIx W0 col w sb wb ni bg wx) (hc : ColOk W0 col w) : NTx W0 col w sb wb ni bg sv (.pointer (some ⟨wx.heap.size, 0, none⟩)) (wx.alloc (.cells #[.int .i64 ni, .string sv] 162)) :=
  ⟨_, rfl, h.2.2.size, heap_alloc_new wx _, h.any hc ⟨rfl, rfl, rfl⟩ (by show wx.heap.size ≤ (wx.heap.push _).size; simp) (fun k hk => heap_alloc_lt _ _ _ (Nat.lt_of_lt_of_le hk h.2.2.size))⟩
theorem NTx.old {ni : Int} {wx : World} {sv : ByteArray} {x y : Value} (h : NIx W0 col w sb wb ni bg wx) (hc : ColOk W0 col w) (hb : wx.heap[w.heap.size]? = some (.cells #[x, y] 162 (0, 0))) : NTx W0 col w sb wb ni bg sv (.pointer (some ⟨w.heap.size, 0, none⟩)) ((wx.setCell ⟨w.heap.size, 0, none⟩ (.int .i64 ni)).setCell ⟨w.heap.size, 1, none⟩ (.string sv)) :=
  ⟨_, rfl, Nat.le_refl _, heap_setCell_eq _ _ _ _ _ _ _ (heap_setCell_eq _ _ _ _ _ _ _ hb), h.any hc ⟨rfl, rfl, rfl⟩ (by rw [size_setCell', size_setCell']; exact Nat.le_refl _) (fun k hk => (heap_setCell_ne _ _ _ _ _ (by omega)).trans (heap_setCell_ne _ _ _ _ _ (by omega)))⟩
/-- Behind the datagram. -/
def TSx (W0 c : Nat) (col : Nat → Nat) (wc : World) (wb sb lb : Nat) (l' : LkL) (V5 : LkV) (ni bg : Int) (s : NetW) (wx : World) : Prop := ∃ col6, LkIn c col6 wx sb lb l' V5 ∧ ColOk W0 col6 wx ∧ Fr (LC c) col col6 wc wx ∧ PW col6 wx wb s ∧ SbIn col6 wx sb wb ni bg
theorem kinds_le (hl : LkOK l) : l.kinds.length ≤ 2 := by rcases hl.kinds with h | h <;> rw [h] <;> decide
theorem ask_of_ok (hl : LkOK l) (hk : l.kind < l.kinds.length) : l.ask = 1 ∨ l.ask = 12 ∨ l.ask = 28 := by
  unfold LkL.ask
  rcases hl.kinds with h | h
  · rw [h] at hk ⊢
    have : l.kind = 0 ∨ l.kind = 1 := by simp at hk; omega
    rcases this with e | e <;> rw [e] <;> decide
  · rw [h] at hk ⊢
    have : l.kind = 0 := by simp at hk; omega
    rw [this]; decide
theorem goodN_of_ok (hl : LkOK l) (hk : l.kind < l.kinds.length) : goodN l.name := by
  refine hl.good _ ?_
  unfold LkL.name
  have := hl.subj.1
  cases hs : l.subj with
  | nil => rw [hs] at this; simp at this
  | cons x r => simp
theorem tryB_len (i : Int) (l : LkL) (h : goodN l.name) : (tryB i l).length ≤ 1000000 := by
  unfold tryB msgB headB
  have h2 := subB_len l.name.data.toList l.ask
  have hwl : ∀ z, (wordB z).length = 2 := fun _ => rfl
  simp only [List.length_append, hwl, List.flatMap_nil, List.length_nil]
  omega
/-- The try is among the lookup's. -/
def TRx (W0 c : Nat) (col : Nat → Nat) (wc : World) (sb lb tb : Nat) (l' : LkL) (ni : Int) (sv : ByteArray) (wx : World) : Prop := ∃ col5 V5, LkIn c col5 wx sb lb l' V5 ∧ ColOk W0 col5 wx ∧ Fr (fun x => x = c) col col5 wc wx ∧ wx.heap[tb]? = some (.cells #[.int .i64 ni, .string sv] 162 (0, 0))
set_option maxHeartbeats 4000000 in
set_option maxRecDepth 100000 in
theorem send_any {w0 : World} {m : MS} (h : AllIn w0 W0 c col w wb sb lb m bg l V) (h100 : 100 ≤ c) (hm : MaxAt w0) (hl : LkOK l) (hms : MsOK m) (hk : l.kind < l.kinds.length) (hne : (l.tries.length : Int) ≠ l.att * l.srv.length) :
    Calls Tryz.prog 39 #[.pointer (some ⟨lb, 0, none⟩)] w (StepR w0 W0 c col w wb sb lb (sendM m l) bg (sendL m l) (.tuple #[])) := by
  have hL := h.lk
  obtain ⟨nt, hnt⟩ : ∃ n, l.tries.length = n := ⟨_, rfl⟩
  obtain ⟨ns, hns⟩ : ∃ n, l.srv.length = n := ⟨_, rfl⟩
  have hs1 := hl.srv
  have ha1 := hl.att
  rw [hns] at hs1 hne
  rw [hnt] at hne
  have hix : nt % ns < ns := Nat.mod_lt _ (by omega)
  obtain ⟨sv, hsv⟩ : ∃ x, l.srv[nt % ns]? = some x := ⟨_, List.getElem?_eq_getElem (by omega)⟩
  have hsv2 : l.server = sv := by unfold LkL.server; rw [hnt, hns, List.getD_eq_getElem?_getD, hsv]; rfl
  obtain ⟨g1, o1, c1, e1, n1, m1, hg6, r1⟩ := hL.srv.open (i := nt % ns) (x := .string sv) (by rw [List.getElem?_map, hsv]; rfl)
  have q1 := r1 (nt % ns) (.string sv) (by rw [List.getElem?_map, hsv]; rfl)
  rw [List.length_map, hns] at e1 n1
  obtain ⟨p2, c2, e2⟩ : ∃ p cap, V.tri = .slice p nt cap := by
    rcases hL.tri.1.2 with ⟨e, e2⟩ | ⟨g, cap, cur, e, _⟩
    · exact ⟨none, 0, by rw [e, ← hnt, e2]⟩
    · exact ⟨_, _, by rw [e, hnt]⟩
  have k0 := hL.c0
  have k3 := hL.c3
  have k7 := hL.c7
  have k12 := hL.c12
  rw [e1] at k3
  rw [e2] at k12
  have hmul : l.att * (ns : Int) ≤ 15 ∧ 1 ≤ l.att * (ns : Int) := by
    have h1 : ns = 1 ∨ ns = 2 ∨ ns = 3 := by omega
    rcases h1 with rfl | rfl | rfl <;> omega
  have hw1 : IntKind.i64.wrap (l.att * (ns : Int)) = l.att * (ns : Int) := by simp [IntKind.wrap, IntKind.bits, IntKind.signed]; omega
  have hb1 : ((nt : Int) == l.att * (ns : Int)) = false := beq_eq_false_iff_ne.2 hne
  have htr := hl.tries
  rw [hnt, hns] at htr
  have hw2 : (nt : Int).tmod (ns : Int) = ((nt % ns : Nat) : Int) := by
    have h1 := Int.tmod_eq_emod_of_nonneg (a := (nt : Int)) (b := (ns : Int)) (by omega)
    rw [h1, ← Int.natCast_emod]
  have hn0 : ¬ ns = 0 := by omega
  have hltI : ((nt % ns : Nat) : Int) < (ns : Int) := by omega
  have HID : Hid (∀ W : World, Below w.heap.size w W → Calls Tryz.prog 69 #[.pointer (some ⟨sb, 0, none⟩)] W fun e w' => e = .returned (.int .i64 (nidF m.id)) ∧ w'.cell? ⟨g1, o1 + nt % ns, none⟩ = some (.string sv) ∧ g1 < w'.heap.size ∧ Hid (NIx W0 col w sb wb (nidF m.id) bg w') ∧ Hid (∀ o, W.heap[w.heap.size]? = some o → w'.heap[w.heap.size]? = some o)) := Lib.hid (fun W hD => by
    refine (nextID_any (h.stb.keep h.ok (Fr.below (cs := fun _ => False) hD) id) (h.ok.below hD) hms.id).mono ?_
    rintro e w' ⟨he, x1, x2, x3⟩
    have hf : Fr (fun x => x = 4) col col w w' := (Fr.below hD).trans x3
    refine ⟨he, ?_, Nat.lt_of_lt_of_le (col_new h.ok (by decide) g1 hg6) hf.size, Lib.hid ⟨x1, x2, hf⟩, Lib.hid (fun o ho => (x3.keep _ (Array.getElem?_eq_some_iff.1 ho).1 (fun e => by have := (h.ok.lo w.heap.size (by rw [e]; decide)).2; omega)).trans ho)⟩
    rw [World.cell?_of_block (w := w) (hf.keep g1 (col_new h.ok (by decide) g1 hg6) (by rw [hg6]; decide))]
    exact q1)
  have hlbl := hL.lt
  have hg1l : g1 < w.heap.size := col_new h.ok (by decide) g1 hg6
  have hbD := (Below.refl w.heap.size w).drew.drew
  have HD0 : Hid (Below w.heap.size w w.drew.drew) := Lib.hid hbD
  have HD1 : Hid (∀ o, Below w.heap.size w (w.drew.drew.alloc o)) := Lib.hid (fun o => hbD.alloc (Nat.le_refl _) o)
  clear hbD
  have H := Lib.hid h
  have hid := nid_ok hms.id
  generalize hnid : nidF m.id = ni at *
  obtain ⟨ix, hixx⟩ : ∃ ix, nt % ns = ix := ⟨_, rfl⟩
  rw [hixx] at q1 hix hw2 hltI HID
  clear h hL r1 hsv hixx
  go_enter Tryz.func39, Tryz.ntmps39
  go_upto_region 0 with (fail)
  go_region
  go_upto_region 4 with (fail)
  go_cut [4] from 30 to 42 (fun tv wx => NTx W0 col w sb wb ni bg sv tv wx)
  · go_region_law (go_simp; go_at_call 69; refine (HID.out _ (by first | exact HD0.out | exact HD1.out _)).mono ?_; rintro e w3 ⟨rfl, q13, hg3, HI3, HZ3⟩; first | (have hz := HZ3.out (.cells #[.int .i64 0, .string ⟨#[]⟩] 162) (heap_alloc_new w.drew.drew _); have z0 := cell_of (j := 0) (v := .int .i64 0) hz rfl; have z1 := cell_of (j := 1) (v := .string ⟨#[]⟩) hz rfl; have y0 := free_of hz 0; have y1 := free_of hz 1; have HZ := Lib.hid hz; clear hz) | skip)
    all_goals (
      go_wp2
      go_meet
      first | exact NTx.new HI3.out H.out.ok | exact NTx.old HI3.out H.out.ok HZ.out)
  obtain ⟨wa, rfl⟩ : ∃ wa, wa = wc := ⟨_, rfl⟩
  obtain ⟨tb, rfl, htb, hT, hI⟩ := hcut
  have hLc := H.out.lk.keep H.out.ok hI.2.2 (by omega) ⟨(by omega), (by decide)⟩
  have kc12 := hLc.c12
  have fc12 := hLc.free 12
  rw [e2] at kc12
  have hlc := hLc.lt
  have t0 := cell_of (j := 0) (v := .int .i64 ni) hT rfl
  have t1 := cell_of (j := 1) (v := .string sv) hT rfl
  have htl : tb < wa.heap.size := (Array.getElem?_eq_some_iff.1 hT).1
  obtain ⟨ib, hi, hz0, hz1, hz2⟩ := info_parts' infoTry
  have hO : ∀ o, (wa.alloc o).ownsRow 0 162 2 (.slice p2 nt c2) nt (l.tries.flatMap triC) := fun o => World.ownsRow.alloc (by have := hLc.tri.1; rw [e2, hnt] at this; exact this) o
  have HO := Lib.hid hO
  have HLc := Lib.hid hLc
  have HI := Lib.hid hI
  have HT := Lib.hid hT
  have HG : Hid (∀ (w3 w4 : World) (g4 cap4 : Nat), Below wa.heap.size wa w3 → w3.grownBy w4 (Value.slice p2 nt c2).ownBlock → w4.ownsRow 0 162 2 (.slice (some ⟨g4, 0, none⟩) (nt + 1) cap4) (nt + 1) (l.tries.flatMap triC ++ [.int .i64 ni, .string sv]) → ((Value.slice p2 nt c2).ownBlock = some g4 ∨ w3.heap.size ≤ g4) → g4 < w4.heap.size → w4.cell? ⟨lb, 12, none⟩ = some (.slice p2 nt c2) ∧ w4.frozen? ⟨lb, 12, none⟩ = false ∧ Hid (TRx W0 c col wa sb lb tb { l with tries := l.tries ++ [(ni, sv)] } ni sv (w4.setCell ⟨lb, 12, none⟩ (.slice (some ⟨g4, 0, none⟩) (nt + 1) cap4)))) := Lib.hid (fun w3 w4 g4 cap4 hb3 hg4 ho4 ha4 hl4 => by
    have hX : ∀ k, k < wa.heap.size → (∃ (cs : Array Value) (t : TypeId) (fr : Nat × Nat), wa.heap[k]? = some (Obj.cells cs t fr) ∧ t ≠ 162) ∨ (col k ≠ c) → w4.heap[k]? = wa.heap[k]? := fun k hk hq => (hg4.block k (Nat.lt_of_lt_of_le hk hb3.size) (fun e => by
      have hq2 : V.tri.ownBlock = some k := by rw [e2]; first | exact e | exact e.symm
      rcases hq with ⟨cs, t, fr, q, ht⟩ | hq
      · rcases hLc.tri.1.2 with ⟨e3, _⟩ | ⟨g, cp, cur, e3, _, hgg, _⟩
        · rw [e3] at hq2; cases hq2
        · rw [e3] at hq2
          have : g = k := by injection hq2
          rw [this, q] at hgg
          injection hgg with hgg
          injection hgg with _ hgg
          exact ht hgg
      · exact hq (hLc.tri.2 k hq2))).trans (hb3.block k hk)
    have hb := (hX lb hlc (.inl ⟨_, _, _, hLc.blk, by decide⟩)).trans hLc.blk
    have ht := (hX tb htl (.inr (by
      have : col tb = 0 := Classical.byContradiction fun hn => by have := (H.out.ok.lo tb hn).2; omega
      omega))).trans hT
    have hL3 := hLc.below hI.2.1 (by omega) hb3
    have hr := LkIn.tries_ (w4 := w4) (g4 := g4) (cap4 := cap4) hL3 (hI.2.1.below hb3) h100 (ni, sv) (by rw [e2]; exact hg4) (by rw [hnt]; exact ho4) (by rw [e2]; exact ha4) hl4
    rw [hnt] at hr
    refine ⟨cell_of hb ?_, free_of hb 12, Lib.hid ⟨_, _, hr.1, hr.2.1, (Fr.below hb3).trans hr.2.2, ?_⟩⟩
    · show some V.tri = _
      rw [e2]
    · rw [heap_setCell_ne _ _ _ _ _ (by have := H.out.lk.lt; omega)]
      exact ht)
  clear hLc hI hT hO
  have HB0 : Hid (∀ o, Below wa.heap.size wa (wa.alloc o)) := Lib.hid (fun o => (Below.refl wa.heap.size wa).alloc (Nat.le_refl _) o)
  go_upto_region 5 with (fail)
  go_cut [] from 43 to 52 (fun wx => TRx W0 c col wa sb lb tb { l with tries := l.tries ++ [(ni, sv)] } ni sv wx)
  · go_region_law (refine step_append_lies _ (by rfl) _ _ _ (by rfl) 0 162 ib (.agg #[.int .i64 0, .string ⟨#[]⟩]) 2 24 Tryz.underlying117 hi hz0 hz1 hz2 rfl (by decide) (.slice p2 nt c2) nt (l.tries.flatMap triC) (by rfl) (HO.out _) ⟨wa.heap.size, 0, none⟩ 1 1 [.int .i64 ni, .string sv] (by rfl) rfl (new_cells2 _ _ _ _) (by simp [Value.oneCell']) (by decide) (by unfold maxLen; omega) (by omega) (Nat.zero_le _) (wa.heap.size + 1) (by show (wa.heap.push _).size = _; simp) ?_; intro g4 cap4 w4 hown4 hg4 hat4 hlt4; obtain ⟨c4', f4', HT4⟩ := HG.out _ w4 g4 cap4 (by first | exact HB0.out _ | exact (HB0.out _).drew | exact (HB0.out _).drew.drew | exact (HB0.out _).drew.drew.drew) hg4 hown4 (by first | exact hat4 | (rcases hat4 with q | q; exact .inl q; exact .inr (by show (wa.heap.push _).size ≤ _; rw [Array.size_push]; omega))) hlt4; clear hown4 hg4 hat4)
    all_goals (
      go_wp2
      go_meet
      exact HT4.out)
  obtain ⟨col5, V5, hL5, hok5, hf5, hT5⟩ := hcut
  have hP5 := (H.out.net.keep H.out.ok HI.out.2.2 ⟨by decide, by decide, by decide, by decide⟩).keep HI.out.2.1 hf5 ⟨by omega, by omega, by omega, by omega⟩
  have hS5 := HI.out.1.keep HI.out.2.1 hf5 (by omega)
  have hB5 : Below W0 w0 wc := Below.fr (Below.fr H.out.bel H.out.ok HI.out.2.2 (by decide)) HI.out.2.1 hf5 (by omega)
  have hm5 : MaxAt wc := hm.below (H.out.base ▸ hB5)
  have k50 := hL5.c0
  have s50 : wc.cell? ⟨sb, 0, none⟩ = some (.pointer (some ⟨wb, 0, none⟩)) := cell_of hS5.1 rfl
  have t51 := cell_of (j := 1) (v := .string sv) hT5 rfl
  have t50 := cell_of (j := 0) (v := .int .i64 ni) hT5 rfl
  have hge := goodN_of_ok hl hk
  have hask := ask_of_ok hl hk
  have HM : Hid (∀ W : World, Below wc.heap.size wc W → Calls Tryz.prog 71 #[.pointer (some ⟨lb, 0, none⟩), .int .i64 ni] W fun e w' => ∃ a n cc, e = .returned (.slice a n cc) ∧ w'.cell? ⟨lb, 0, none⟩ = some (.pointer (some ⟨sb, 0, none⟩)) ∧ w'.cell? ⟨sb, 0, none⟩ = some (.pointer (some ⟨wb, 0, none⟩)) ∧ w'.cell? ⟨tb, 1, none⟩ = some (.string sv) ∧ Hid (RB 0 w' (.slice a n cc) (tryB ni l)) ∧ Hid (Below wc.heap.size wc w')) := Lib.hid (fun W hW => by
    refine (lmessage_any (hL5.below hok5 (by omega) hW) hl.subj.1 hk (kinds_le (l := l) hl) hl.subj.2 (hm5.below hW) ni hid hge hask).mono ?_
    rintro e w' ⟨a, n, cc, he, hr, hb⟩
    have hb2 := hW.trans (hb.mono hW.size)
    exact ⟨a, n, cc, he, (hb2.cell (cellLt k50)).trans k50, (hb2.cell (cellLt s50)).trans s50, (hb2.cell (cellLt t51)).trans t51, Lib.hid hr, Lib.hid hb2⟩)
  have HSd : Hid (∀ (W : World) (a : Option Addr) (n cc : Nat), Below wc.heap.size wc W → RB 0 W (.slice a n cc) (tryB ni l) → Calls Tryz.prog 70 #[.pointer (some ⟨wb, 0, none⟩), .agg #[.string sv, .bool false, .slice a n cc]] W fun e w' => e = .returned (.tuple #[]) ∧ Hid (TSx W0 c col5 wc wb sb lb { l with tries := l.tries ++ [(ni, sv)] } V5 ni bg { m.net with sent := m.net.sent ++ [(sv, false, tryB ni l)] } w')) := Lib.hid (fun W a n cc hW hr => by
    have hokW := hok5.below hW
    refine ((hP5.below hok5 hW).send hokW hms.net sv false a n cc _ hr (tryB_len ni l hge)).mono ?_
    rintro e w' ⟨he, col6, h1, h2, h3⟩
    have hf : Fr PC col5 col6 wc w' := (Fr.below hW).trans h2
    exact ⟨he, Lib.hid ⟨col6, (hL5.below hok5 (by omega) hW).keep hokW h2 (by omega) ⟨by unfold PC; omega, by unfold PC; omega⟩, h1, hf.weak (fun x hx => by unfold PC at hx; unfold LC; omega), h3, hS5.keep hok5 hf (by unfold PC; omega)⟩⟩)
  have HB5 : Hid (Below wc.heap.size wc wc) := Lib.hid (Below.refl _ _)
  have H5 := Lib.hid (And.intro hok5 (And.intro hf5 hB5))
  obtain ⟨wd, rfl⟩ : ∃ wd, wd = wc := ⟨_, rfl⟩
  clear hL5 hok5 hf5 hT5 hP5 hS5 hB5 hm5 hge hask t0 t1 kc12 fc12 HG HT HO HB0
  go_upto_region 6 with (fail)
  go_cut [] from 53 to 67 (fun wx => TSx W0 c col5 wd wb sb lb { l with tries := l.tries ++ [(ni, sv)] } V5 ni bg { m.net with sent := m.net.sent ++ [(sv, false, tryB ni l)] } wx)
  · go_region_law (first | (go_simp; go_at_call 71; with_reducible refine (HM.out _ (by first | exact HB5.out | exact HB5.out.drew | exact HB5.out.drew.drew)).mono ?_; rintro e w6 ⟨a6, n6, cc6, rfl, x0, x1, x2, HR6, HB6⟩) | (go_simp; go_at_call 70; with_reducible refine (HSd.out _ _ _ _ (by first | exact HB6.out | exact HB6.out.drew) HR6.out).mono ?_; rintro e w7 ⟨rfl, HT7⟩))
    all_goals (
      go_wp2
      go_meet
      exact HT7.out)
  obtain ⟨col6, hL6, hok6, hf6, hP6, hS6⟩ := hcut
  have HW := Lib.hid (wait_any hL6 h100 hok6 hS6 hP6 hms.now hl.tmo)
  have H6 := Lib.hid (And.intro hok6 (And.intro hf6 (And.intro hP6 hS6)))
  clear hL6 hok6 hf6 hP6 hS6
  go_wp2_with (go_at_call 72; refine HW.out.mono ?_; rintro e w8 ⟨rfl, h8⟩)
  go_end0
  obtain ⟨x1, x2, x3⟩ := h8
  have hI := HI.out
  have h5 := H5.out
  have h6 := H6.out
  have f1 : Fr (LC c) col col w wa := hI.2.2.weak (fun x hx => by unfold LC; omega)
  have f2 : Fr (LC c) col col5 wa wd := h5.2.1.weak (fun x hx => by unfold LC; omega)
  have f4 : Fr (LC c) col6 col6 wc w8 := x3.weak (fun x hx => by unfold LC; omega)
  have hF := ((f1.trans f2).trans h6.2.1).trans f4
  refine ⟨rfl, col6, V5, ⟨x2, H.out.base, Below.fr H.out.bel H.out.ok hF (by unfold LC; omega), ?_, ?_, ?_⟩, hF⟩
  · have := h6.2.2.1.keep h6.1 x3 ⟨by omega, by omega, by omega, by omega⟩
    unfold sendM
    rw [hsv2, hnid]
    exact this
  · have := h6.2.2.2.keep h6.1 x3 (by omega)
    unfold sendM
    rw [hnid]
    exact this
  · unfold sendL
    rw [hsv2, hnid]
    exact x1
end
end Go.Proofs.YtogdkmkganpaaaaGreatDoor
