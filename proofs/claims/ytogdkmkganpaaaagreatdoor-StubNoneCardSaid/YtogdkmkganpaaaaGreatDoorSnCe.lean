/- Contracts and plain facts that the law leans on. -/
import Derived.Test.YtogdkmkganpaaaaGreatDoorSnCd
import Derived.Test.YtogdkmkganpaaaaGreatDoorIxM
import Derived.Lib.Bytes
import Derived.Test.YtogdkmkganpaaaaGreatDoorSnCa
namespace Go.Proofs.YtogdkmkganpaaaaGreatDoor
open Go.RowKit Go.Mp Go.Rb Go.Lib Go.Wi Go.Tx
/-- A resolver and its world. -/
structure AllN (w0 : World) (W0 : Nat) (col : Nat → Nat) (w : World) (wb sb : Nat) (m : MS) (bg : Int) : Prop where
  ok : ColOk W0 col w
  base : W0 = w0.heap.size
  bel : Below W0 w0 w
  net : PW col w wb m.net
  stb : SbIn col w sb wb m.id bg
section
variable {W0 c : Nat} {col col' : Nat → Nat} {w w' : World} {sb lb wb : Nat} {l l' : LkL} {V V' : LkV} {cs : Nat → Prop} {id bg : Int} {w0 : World} {m : MS}
theorem AllN.keep (h : AllN w0 W0 col w wb sb m bg) (hc : ColOk W0 col' w') (hf : Fr cs col col' w w') (hcs : ¬ cs 0 ∧ ¬ cs 1 ∧ ¬ cs 2 ∧ ¬ cs 3 ∧ ¬ cs 4 ∧ ¬ cs 5) : AllN w0 W0 col' w' wb sb m bg :=
  ⟨hc, h.base, Below.fr h.bel h.ok hf hcs.1, h.net.keep h.ok hf ⟨hcs.2.1, hcs.2.2.1, hcs.2.2.2.1, hcs.2.2.2.2.2⟩, h.stb.keep h.ok hf hcs.2.2.2.2.1⟩
theorem AllN.below (h : AllN w0 W0 col w wb sb m bg) (hb : Below w.heap.size w w') : AllN w0 W0 col w' wb sb m bg := h.keep (cs := fun _ => False) (h.ok.below hb) (Fr.below hb) ⟨id, id, id, id, id, id⟩
/-- What is coloured when a lookup is laid. -/
def colB (col : Nat → Nat) (c : Nat) (w w5 : World) (V : LkV) : Nat → Nat := fun k => if k = w5.heap.size then c else if w.heap.size ≤ k ∧ k < w5.heap.size ∧ (V.srv.ownBlock = some k ∨ V.sub.ownBlock = some k ∨ V.kin.ownBlock = some k) then 6 else col k
theorem lay_lk {w5 : World} (h : AllN w0 W0 col w wb sb m bg) (h100 : 100 ≤ c) (hb : Below w.heap.size w w5) (hsrv : CsNew w.heap.size w5 V.srv (l.srv.map .string)) (hsub : CsNew w.heap.size w5 V.sub (l.subj.map .string)) (hkin : CsNew w.heap.size w5 V.kin (l.kinds.map (.int .i64)))
    (ht : l.tries = [] ∧ V.tri = .slice none 0 0) (hst : l.strm = none ∧ V.str = .pointer none) (hd : l.data = [] ∧ V.dat = .slice none 0 0) :
    AllIn w0 W0 c (colB col c w w5 V) (w5.alloc (.cells (lkC sb l V) 120)) wb sb w5.heap.size m bg l V ∧ Fr (LC c) col (colB col c w w5 V) w (w5.alloc (.cells (lkC sb l V) 120)) := by
  have hb6 : Below w.heap.size w (w5.alloc (.cells (lkC sb l V) 120)) := hb.alloc hb.size _
  have hs6 : (w5.alloc (.cells (lkC sb l V) 120)).heap.size = w5.heap.size + 1 := by show (w5.heap.push _).size = _; simp
  have hold : ∀ k, k < w.heap.size → colB col c w w5 V k = col k := fun k hk => by
    have := hb.size
    unfold colB
    rw [if_neg (by omega), if_neg (by omega)]
  have hcases : ∀ k, colB col c w w5 V k ≠ 0 → (k < w.heap.size ∧ colB col c w w5 V k = col k) ∨ (w.heap.size ≤ k ∧ k < w5.heap.size + 1 ∧ (colB col c w w5 V k = c ∨ colB col c w w5 V k = 6)) := fun k hk => by
    by_cases hlt : k < w.heap.size
    · exact .inl ⟨hlt, hold k hlt⟩
    · refine .inr ⟨by omega, ?_⟩
      unfold colB at hk ⊢
      by_cases h1 : k = w5.heap.size
      · rw [if_pos h1]; exact ⟨by omega, .inl rfl⟩
      · rw [if_neg h1] at hk ⊢
        by_cases h2 : w.heap.size ≤ k ∧ k < w5.heap.size ∧ (V.srv.ownBlock = some k ∨ V.sub.ownBlock = some k ∨ V.kin.ownBlock = some k)
        · rw [if_pos h2]; exact ⟨by omega, .inr rfl⟩
        · rw [if_neg h2] at hk
          have := (h.ok.lo k hk).2
          omega
  have hfr : Fr (LC c) col (colB col c w w5 V) w (w5.alloc (.cells (lkC sb l V) 120)) := ⟨hb6.os, hb6.tape, hb6.output, hb6.size, hold, fun k hk _ => hb6.block k hk, fun k hk _ _ => hb6.block k hk⟩
  have hfr0 : Fr (fun _ => False) col (colB col c w w5 V) w (w5.alloc (.cells (lkC sb l V) 120)) := ⟨hb6.os, hb6.tape, hb6.output, hb6.size, hold, fun k hk _ => hb6.block k hk, fun k hk _ _ => hb6.block k hk⟩
  have hok : ColOk W0 (colB col c w w5 V) (w5.alloc (.cells (lkC sb l V) 120)) := by
    refine ⟨Nat.le_trans h.ok.base hb6.size, fun k hk => ?_, fun k hk => ?_⟩
    · rcases hcases k hk with ⟨h1, h2⟩ | ⟨h1, h2, _⟩
      · rw [h2] at hk
        exact ⟨(h.ok.lo k hk).1, Nat.lt_of_lt_of_le (h.ok.lo k hk).2 hb6.size⟩
      · exact ⟨Nat.le_trans h.ok.base h1, by rw [hs6]; exact h2⟩
    · rcases hcases k (by rw [hk]; decide) with ⟨h1, h2⟩ | ⟨h1, h2, h3⟩
      · rw [h2] at hk
        obtain ⟨cs, fr, e⟩ := h.ok.u8 k hk
        exact ⟨cs, fr, (hb6.block k h1).trans e⟩
      · rw [hk] at h3; omega
  have hN := h.keep hok hfr0 ⟨id, id, id, id, id, id⟩
  have hlb : colB col c w w5 V w5.heap.size = c := by unfold colB; rw [if_pos rfl]
  have h6 : ∀ {v : Value} {L : List Value}, (v = V.srv ∨ v = V.sub ∨ v = V.kin) → CsNew w.heap.size w5 v L → CsIn (fun k => colB col c w w5 V k = 6) (w5.alloc (.cells (lkC sb l V) 120)) v L := fun {v L} hv hcs => by
    obtain ⟨a, cc, e, h1, h2, h3⟩ := hcs
    refine ⟨a, cc, e, h1, h2, fun i x hx => ?_⟩
    obtain ⟨g, o, ea, ⟨ho, hB⟩, hcl⟩ := h3 i x hx
    have hlt : g < w5.heap.size := cellLt hcl
    refine ⟨g, o, ea, ?_, (((Below.refl w5.heap.size w5).alloc (Nat.le_refl _) _).cell hlt).trans hcl⟩
    show colB col c w w5 V g = 6
    unfold colB
    rw [if_neg (by omega), if_pos ⟨hB, hlt, by rcases hv with rfl | rfl | rfl; exact .inl ho; exact .inr (.inl ho); exact .inr (.inr ho)⟩]
  exact ⟨⟨hok, hN.base, hN.bel, hN.net, hN.stb, ⟨heap_alloc_new w5 _, hlb, h6 (.inl rfl) hsrv, h6 (.inr (.inl rfl)) hsub, h6 (.inr (.inr rfl)) hkin, by rw [ht.1, ht.2]; exact ⟨World.ownsRow_nil _ _ _ _, fun q e => by cases e⟩, by rw [hst.1, hst.2]; exact (rfl : (Value.pointer none) = _), by rw [hd.1, hd.2]; exact ⟨World.ownsRow_nil _ _ _ _, fun q e => by cases e⟩⟩⟩, hfr⟩
theorem rb_in {B : Nat} {a : Option Addr} {n cc : Nat} {l : List UInt8} (h : RB B w (.slice a n cc) l) (hl : l.length ≤ 100000) : InB w a n cc l := by
  rcases h with ⟨e, rfl⟩ | ⟨g, cap, e, hB, hc, hr⟩
  · cases e
    exact .inr ⟨rfl, rfl, rfl⟩
  · cases e
    refine .inl ⟨⟨rfl, ?_, hc, (fun e => by cases e), fun x hx j b hj => ?_⟩, fun x hx => ?_, hl⟩
    · obtain ⟨arr, lo, hi, h1, h2, h3, h4, h5⟩ := hr
      exact h4
    · cases hx
      have := hr.cell hj
      have ha : (⟨g, 0, none⟩ : Addr).add j = ⟨g, j, none⟩ := by unfold Addr.add; split <;> simp_all
      rw [ha]
      exact this
    · cases hx
      obtain ⟨arr, lo, hi, h1, _⟩ := hr
      exact (Array.getElem?_eq_some_iff.1 h1).1
end
end Go.Proofs.YtogdkmkganpaaaaGreatDoor

namespace Go.Proofs.YtogdkmkganpaaaaGreatDoor
open Go.RowKit Go.Mp Go.Rb Go.Lib Go.Wi Go.Tx
/-- What questions answers, its slices spelled. -/
def QuesS (w w4 : World) (subs : List ByteArray) (kinds : List Int) (e : Ending) (w' : World) : Prop :=
  ∃ ps cs pk ck, e = .returned (.tuple #[.slice ps subs.length cs, .slice pk kinds.length ck]) ∧ Hid (CsNew w.heap.size w' (.slice ps subs.length cs) (subs.map .string)) ∧ Hid (CsNew w.heap.size w' (.slice pk kinds.length ck) (kinds.map (.int .i64))) ∧ Hid (Below w4.heap.size w4 w')
theorem QuesR.s {w w4 w' : World} {subs : List ByteArray} {kinds : List Int} {e : Ending} (h : QuesR w4 subs kinds e w') (hb : Below w.heap.size w w4) : QuesS w w4 subs kinds e w' := by
  obtain ⟨vs, vk, he, h1, h2, hb'⟩ := h
  obtain ⟨ps, cs, e1, p1, p2, p3⟩ := h1
  obtain ⟨pk, ck, e2, q1, q2, q3⟩ := h2
  subst e1 e2
  simp only [List.length_map] at he
  refine ⟨ps, cs, pk, ck, he, Lib.hid ⟨ps, cs, by rw [List.length_map], p1, p2, fun i x hx => ?_⟩, Lib.hid ⟨pk, ck, by rw [List.length_map], q1, q2, fun i x hx => ?_⟩, Lib.hid hb'⟩
  · obtain ⟨g, o, ea, ⟨ho, hB⟩, hc⟩ := p3 i x hx
    exact ⟨g, o, ea, ⟨by rw [ea]; rfl, Nat.le_trans hb.size hB⟩, hc⟩
  · obtain ⟨g, o, ea, ⟨ho, hB⟩, hc⟩ := q3 i x hx
    exact ⟨g, o, ea, ⟨by rw [ea]; rfl, Nat.le_trans hb.size hB⟩, hc⟩
/-- The questions of a query. -/
def AskOK (w : World) (db : Int) (nm pr : ByteArray) (po : Int) (S : SetL) (subs : List ByteArray) (kinds : List Int) : Prop :=
  ∀ (W : World) (v1 v2 : Value), Below w.heap.size w W → StrC w.heap.size W v1 S.servers → StrC w.heap.size W v2 S.search → Calls Tryz.prog 36 #[.agg #[.int .i64 db, .string nm, .string pr, .int .i64 po], .agg #[v1, v2, .int .i64 S.dots, .int .i64 S.tmo, .int .i64 S.att, .bool S.rot]] W (QuesR W subs kinds)
section
variable {W0 c : Nat} {col col' : Nat → Nat} {w w' : World} {sb lb wb : Nat} {l l' : LkL} {V V' : LkV} {cs : Nat → Prop} {id bg : Int} {w0 : World} {m : MS}
/-- The lookup as it is laid. -/
def lk0 (S : SetL) (stamp : Int) (subs : List ByteArray) (kinds : List Int) : LkL := ⟨stamp, S.servers.map bA, S.att, S.tmo, subs, kinds, 0, [], 0, none, [], 86400, false⟩
theorem mb_of (h : GloAt w) : MaxAt w := h.len
theorem AllIn.bump (h : AllIn w0 W0 c col w wb sb lb m bg l V) (h100 : 100 ≤ c) (n : Int) : AllIn w0 W0 c col (w.setCell ⟨sb, 2, none⟩ (.int .i64 n)) wb sb lb m n l V ∧ Fr (LC c) col col w (w.setCell ⟨sb, 2, none⟩ (.int .i64 n)) := by
  have hf := fr_set (lb := sb) h.ok (.inr h.stb.2) 2 (.int .i64 n)
  rw [h.stb.2] at hf
  exact ⟨⟨hf.1, h.base, Below.fr h.bel h.ok hf.2 (by decide), h.net.keep h.ok hf.2 ⟨by decide, by decide, by decide, by decide⟩, ⟨heap_setCell_eq _ _ _ _ _ _ _ h.stb.1, h.stb.2⟩, h.lk.keep h.ok hf.2 (by omega) ⟨by omega, by decide⟩⟩, hf.2.weak (fun x hx => by unfold LC; omega)⟩
set_option maxHeartbeats 4000000 in
set_option maxRecDepth 100000 in
theorem begin_any (h : AllN w0 W0 col w wb sb m bg) (h100 : 100 ≤ c) (hg : GloAt w0) (db : Int) (nm pr : ByteArray) (po : Int) (body : List UInt8) (stamp : Int) (th : Bool) (hf : m.net.fil pathR = (body, stamp, th)) (hbl : body.length ≤ 100000)
    (S : SetL) (hS : setupP (toldG 1 [] body) = S) (subs : List ByteArray) (kinds : List Int) (hq : AskOK w db nm pr po S subs kinds) (hms : MsOK m) (hbg : 0 ≤ bg ∧ bg ≤ 1000000) (hrot : S.rot = false) (hsl : subs.length ≤ 100) (hvl : S.servers.length ≤ 100)
    (hok : S.servers ≠ [] → LkOK (lk0 S stamp subs kinds)) :
    Calls Tryz.prog 14 #[.pointer (some ⟨sb, 0, none⟩), .agg #[.int .i64 db, .string nm, .string pr, .int .i64 po]] w fun e w' =>
      (subs = [] ∧ e = .returned .nilIface ∧ Below w.heap.size w w') ∨
      (subs ≠ [] ∧ S.servers = [] ∧ ∃ lb col', e = .returned (.iface 114 (.pointer (some ⟨lb, 0, none⟩))) ∧ AllS w0 W0 c col' w' wb sb lb m bg (.off ⟨stamp, 2, [], [], 0⟩) ∧ Fr (LC c) col col' w w') ∨
      (subs ≠ [] ∧ S.servers ≠ [] ∧ ∃ lb col' V', e = .returned (.iface 114 (.pointer (some ⟨lb, 0, none⟩))) ∧ AllIn w0 W0 c col' w' wb sb lb (sendM m (lk0 S stamp subs kinds)) (bg + 1) (sendL m (lk0 S stamp subs kinds)) V' ∧ Fr (LC c) col col' w w') := by
  have HRd : Hid (∀ W : World, Below w.heap.size w W → Calls Tryz.prog 34 #[.pointer (some ⟨wb, 0, none⟩), .string pathR] W fun e w' => ∃ p1 c', e = .returned (.tuple #[.slice p1 body.length c', .int .i64 stamp, .bool th]) ∧ Hid (RB w.heap.size w' (.slice p1 body.length c') body) ∧ Hid (Below W.heap.size W w')) := Lib.hid (fun W hW => by
    have h1 := (h.net.below h.ok hW).read pathR (by rw [hf]; show body.length ≤ 1000000; omega)
    rw [hf] at h1
    refine h1.mono ?_
    rintro e w' ⟨p1, c', he, hr, hb⟩
    exact ⟨p1, c', he, Lib.hid (RB.base hr hW.size), Lib.hid hb⟩)
  have hgw : GloAt w := hg.below (h.base ▸ h.bel)
  obtain ⟨ns, hns⟩ : ∃ n, S.servers.length = n := ⟨_, rfl⟩
  obtain ⟨ne, hne⟩ : ∃ n, S.search.length = n := ⟨_, rfl⟩
  obtain ⟨nb, hnb⟩ : ∃ n, body.length = n := ⟨_, rfl⟩
  have HP : Hid (∀ (W : World) (p : Option Addr) (n cc : Nat), Below w.heap.size w W → RB w.heap.size W (.slice p n cc) body → Calls Tryz.prog 35 #[.slice p n cc] W fun e w' => ∃ p1 c1 p2 c2, e = .returned (.agg #[.slice p1 ns c1, .slice p2 ne c2, .int .i64 S.dots, .int .i64 S.tmo, .int .i64 S.att, .bool S.rot]) ∧ Hid (StrC w.heap.size w' (.slice p1 ns c1) S.servers) ∧ Hid (StrC w.heap.size w' (.slice p2 ne c2) S.search) ∧ Hid (Below W.heap.size W w')) := Lib.hid (fun W p n cc hW hr => by
    refine (pset_ok w hgw p n cc body W hW (rb_in hr hbl)).mono ?_
    rintro e w' ⟨v, he, ⟨v1, v2, rfl, h1, h2⟩, hb⟩
    rw [hS] at he h1 h2
    obtain ⟨p1, c1, e1⟩ := strc_shape h1
    obtain ⟨p2, c2, e2⟩ := strc_shape h2
    rw [hns] at e1
    rw [hne] at e2
    subst e1 e2
    exact ⟨p1, c1, p2, c2, he, Lib.hid (strC_mono h1 hW.size), Lib.hid (strC_mono h2 hW.size), Lib.hid hb⟩)
  have HQ : Hid (∀ (W : World) (p1 : Option Addr) (c1 : Nat) (p2 : Option Addr) (c2 : Nat), Below w.heap.size w W → StrC w.heap.size W (.slice p1 ns c1) S.servers → StrC w.heap.size W (.slice p2 ne c2) S.search → Calls Tryz.prog 36 #[.agg #[.int .i64 db, .string nm, .string pr, .int .i64 po], .agg #[.slice p1 ns c1, .slice p2 ne c2, .int .i64 S.dots, .int .i64 S.tmo, .int .i64 S.att, .bool S.rot]] W (QuesS w W subs kinds)) := Lib.hid (fun W p1 c1 p2 c2 hW h1 h2 => (hq W _ _ hW h1 h2).mono fun e w' hh => hh.s hW)
  have s0 : w.cell? ⟨sb, 0, none⟩ = some (.pointer (some ⟨wb, 0, none⟩)) := cell_of h.stb.1 rfl
  have hsb : sb < w.heap.size := (Array.getElem?_eq_some_iff.1 h.stb.1).1
  have H := Lib.hid h
  rw [hnb] at HRd
  rw [hrot] at HP HQ
  have hmx := mb_of hg
  clear h hgw hq hg
  go_enter Tryz.func14, Tryz.ntmps14
  have hbq : Below w.heap.size w (w.alloc (.cells #[.int .i64 db, .string nm, .string pr, .int .i64 po] 43)) := (Below.refl _ _).alloc (Nat.le_refl _) _
  have HBq := Lib.hid hbq
  have hq0 := heap_alloc_new w (.cells #[.int .i64 db, .string nm, .string pr, .int .i64 po] 43)
  have HZq : Hid (∀ W, Below (w.heap.size + 1) (w.alloc (.cells #[.int .i64 db, .string nm, .string pr, .int .i64 po] 43)) W → W.cell? ⟨w.heap.size, 0, none⟩ = some (.int .i64 db) ∧ W.cell? ⟨w.heap.size, 1, none⟩ = some (.string nm) ∧ W.cell? ⟨w.heap.size, 2, none⟩ = some (.string pr) ∧ W.cell? ⟨w.heap.size, 3, none⟩ = some (.int .i64 po)) := Lib.hid (fun W hW => by
    have := (hW.block w.heap.size (by omega)).trans hq0
    exact ⟨cell_of this rfl, cell_of this rfl, cell_of this rfl, cell_of this rfl⟩)
  clear hbq hq0
  go_upto_region 5 with (first
    | (go_at_call 34; refine (HRd.out _ HBq.out).mono ?_; rintro e w2 ⟨p1, c1, rfl, HR2, HC2⟩; have HB2 : Hid (Below w.heap.size w w2) := Lib.hid (HBq.out.trans (HC2.out.mono HBq.out.size)))
    | (go_at_call 35; refine (HP.out _ _ _ _ HB2.out HR2.out).mono ?_; rintro e w3 ⟨q1, d1, q2, d2, rfl, HV1, HV2, HC3⟩; have HB3 : Hid (Below w.heap.size w w3) := Lib.hid (HB2.out.trans (HC3.out.mono HB2.out.size))))
  obtain ⟨w4, hw4⟩ : ∃ w4, w3.alloc (.cells #[.slice q1 ns d1, .slice q2 ne d2, .int .i64 S.dots, .int .i64 S.tmo, .int .i64 S.att, .bool false] 109) = w4 := ⟨_, rfl⟩
  have hb4 : Below w3.heap.size w3 w4 := by rw [← hw4]; exact (Below.refl _ _).alloc (Nat.le_refl _) _
  have hz4 : w4.heap[w3.heap.size]? = some (.cells #[.slice q1 ns d1, .slice q2 ne d2, .int .i64 S.dots, .int .i64 S.tmo, .int .i64 S.att, .bool false] 109 (0, 0)) := by rw [← hw4]; exact heap_alloc_new w3 _
  have hsq : (w.alloc (.cells #[.int .i64 db, .string nm, .string pr, .int .i64 po] 43)).heap.size = w.heap.size + 1 := by show (w.heap.push _).size = _; simp
  have hbq4 : Below (w.heap.size + 1) (w.alloc (.cells #[.int .i64 db, .string nm, .string pr, .int .i64 po] 43)) w4 := by
    have h2 := HC2.out
    have h3 := HC3.out
    have h23 := h2.trans (h3.mono h2.size)
    have h24 := h23.trans (hb4.mono h23.size)
    rw [hsq] at h24
    exact h24
  obtain ⟨u0, u1, u2, u3⟩ := HZq.out w4 hbq4
  have y0 := cell_of (j := 0) (v := .slice q1 ns d1) hz4 rfl
  have y1 := cell_of (j := 1) (v := .slice q2 ne d2) hz4 rfl
  have y2 := cell_of (j := 2) (v := .int .i64 S.dots) hz4 rfl
  have y3 := cell_of (j := 3) (v := .int .i64 S.tmo) hz4 rfl
  have y4 := cell_of (j := 4) (v := .int .i64 S.att) hz4 rfl
  have y5 := cell_of (j := 5) (v := .bool false) hz4 rfl
  have HB4 : Hid (Below w.heap.size w w4) := Lib.hid (HB3.out.trans (hb4.mono HB3.out.size))
  have HV14 : Hid (StrC w.heap.size w4 (.slice q1 ns d1) S.servers) := Lib.hid (own_below HV1.out hb4)
  have HV24 : Hid (StrC w.heap.size w4 (.slice q2 ne d2) S.search) := Lib.hid (own_below HV2.out hb4)
  have HZ4 := Lib.hid hz4
  rw [hw4]
  clear hw4 hb4 hz4 hsq hbq4 HZq HC2 HC3 HB3 HV1 HV2 HR2 HB2 HBq HRd HP
  go_upto_region 6 with (go_at_call 36; refine (HQ.out _ _ _ _ _ HB4.out HV14.out HV24.out).mono ?_; rintro e w5 ⟨ps, cs, pk, ck, rfl, HS5, HK5, HB5⟩)
  by_cases hs : subs = []
  · subst hs
    go_wp2
    go_ret
    have hbf := HB4.out.trans (HB5.out.mono HB4.out.size)
    first | exact .inl ⟨rfl, rfl, hbf⟩ | exact ⟨rfl, hbf⟩ | exact ⟨rfl, rfl, hbf⟩
  have hsi : ((subs.length : Int) == 0) = false := beq_eq_false_iff_ne.2 (by have := List.length_pos_iff.2 hs; omega)
  have hb5 : Below w.heap.size w w5 := HB4.out.trans (HB5.out.mono HB4.out.size)
  have hz5 := (HB5.out.block w3.heap.size (Array.getElem?_eq_some_iff.1 HZ4.out).1).trans HZ4.out
  have x0 := cell_of (j := 0) (v := .slice q1 ns d1) hz5 rfl
  have x1 := cell_of (j := 1) (v := .slice q2 ne d2) hz5 rfl
  have x2 := cell_of (j := 2) (v := .int .i64 S.dots) hz5 rfl
  have x3 := cell_of (j := 3) (v := .int .i64 S.tmo) hz5 rfl
  have x4 := cell_of (j := 4) (v := .int .i64 S.att) hz5 rfl
  have x5 := cell_of (j := 5) (v := .bool false) hz5 rfl
  obtain ⟨V0, hV0⟩ : ∃ V0 : LkV, V0 = ⟨.slice q1 ns d1, .slice q2 ne d2, S.dots, false, .slice ps subs.length cs, .slice pk kinds.length ck, .slice none 0 0, .pointer none, .slice none 0 0⟩ := ⟨_, rfl⟩
  obtain ⟨hA6, hF6⟩ := lay_lk (c := c) (l := lk0 S stamp subs kinds) (V := V0) (w5 := w5) H.out h100 hb5 (by subst hV0; exact strc_new (own_below HV14.out HB5.out)) (by subst hV0; exact HS5.out) (by subst hV0; exact HK5.out) (by subst hV0; exact ⟨rfl, rfl⟩) (by subst hV0; exact ⟨rfl, rfl⟩) (by subst hV0; exact ⟨rfl, rfl⟩)
  obtain ⟨w6, hw6⟩ : ∃ w6, w5.alloc (.cells (lkC sb (lk0 S stamp subs kinds) V0) 120) = w6 := ⟨_, rfl⟩
  have hb6 : Below w5.heap.size w5 w6 := by rw [← hw6]; exact (Below.refl _ _).alloc (Nat.le_refl _) _
  have hw6' : w5.alloc (.cells #[.pointer (some ⟨sb, 0, none⟩), .string pathR, .int .i64 stamp, .slice q1 ns d1, .slice q2 ne d2, .int .i64 S.dots, .int .i64 S.tmo, .int .i64 S.att, .bool false, .slice ps subs.length cs, .slice pk kinds.length ck, .int .i64 0, .slice none 0 0, .int .i64 0, .pointer none, .slice none 0 0, .int .i64 86400, .bool false, .bool false, .int .i64 0, .slice none 0 0, .slice none 0 0, .int .i64 0, .int .i64 0] 120) = w6 := by rw [← hw6, hV0]; rfl
  rw [hw6] at hA6 hF6
  have hz6 := (hb6.block w3.heap.size (Array.getElem?_eq_some_iff.1 hz5).1).trans hz5
  have a0 := cell_of (j := 0) (v := .slice q1 ns d1) hz6 rfl
  have a5 := cell_of (j := 5) (v := .bool false) hz6 rfl
  have hlen6 : w5.heap.size < w6.heap.size := hA6.lk.lt
  by_cases hv : S.servers = []
  · have hns0 : ns = 0 := by rw [← hns, hv]; rfl
    have HE : Hid (Calls Tryz.prog 37 #[.pointer (some ⟨w5.heap.size, 0, none⟩), .int .i64 2, .agg #[.slice none 0 0, .slice none 0 0, .int .i64 0, .int .i64 0]] w6 (StepS w0 W0 c (colB col c w w5 V0) w6 wb sb w5.heap.size (m, .off ⟨stamp, 2, [], [], 0⟩) bg (.tuple #[]))) := Lib.hid (by
      refine (end_any hA6.lk hA6.ok h100 2 [] [] 0 (.slice none 0 0) (.slice none 0 0) (cs_nil _) (cs_nil _)).mono ?_
      rintro e w' ⟨he, hE, hc, hf⟩
      exact ⟨he, _, hA6.ended h100 hE hc hf, hf.weak (fun x hx => by unfold LC; omega)⟩)
    have HF6 := Lib.hid hF6
    have HV := Lib.hid hv
    have HSn := Lib.hid hs
    subst hns0
    clear hA6 hF6 hb6 hz6 hz5 hb5 hok hv hs hns
    go_wp2_with (go_at_call 37; refine HE.out.mono ?_; rintro e w7 ⟨rfl, h7⟩)
    go_ret
    obtain ⟨col7, hS7, hF7⟩ := h7
    exact .inr (.inl ⟨HSn.out, HV.out, _, col7, rfl, hS7, HF6.out.trans hF7⟩)
  · have hns0 : ((ns : Int) == 0) = false := beq_eq_false_iff_ne.2 (by have := List.length_pos_iff.2 hv; omega)
    have hL0 := hok hv
    have hw1 : IntKind.i64.wrap (bg + 1) = bg + 1 := by simp [IntKind.wrap, IntKind.bits, IntKind.signed]; omega
    have k2 : w6.cell? ⟨sb, 2, none⟩ = some (.int .i64 bg) := cell_of hA6.stb.1 rfl
    have f2 : w6.frozen? ⟨sb, 2, none⟩ = false := free_of hA6.stb.1 2
    have hA7 := hA6.bump h100 (bg + 1)
    have HS := Lib.hid (send_any hA7.1 h100 hmx hL0 hms (by show 0 < kinds.length; have := hL0.kinds; show 0 < (lk0 S stamp subs kinds).kinds.length; rcases this with e | e <;> rw [e] <;> decide) (by show ((0 : Nat) : Int) ≠ (lk0 S stamp subs kinds).att * ((lk0 S stamp subs kinds).srv.length : Int); have := hL0.room; omega))
    have HF7 := Lib.hid (hF6.trans hA7.2)
    have HV := Lib.hid hv
    have HSn := Lib.hid hs
    clear hA6 hF6 hb6 hz6 hz5 hb5 hok hv hs hL0 hA7
    go_wp2_with (go_at_call 39; refine HS.out.mono ?_; rintro e w7 ⟨rfl, h7⟩)
    go_ret
    obtain ⟨col7, V7, hS7, hF8⟩ := h7
    exact .inr (.inr ⟨HSn.out, HV.out, _, col7, V7, rfl, hS7, HF7.out.trans hF8⟩)
end
end Go.Proofs.YtogdkmkganpaaaaGreatDoor

namespace Go.Rb
open Go.RowKit Go.Ev Go.Tx
theorem Src.ba {P : Program} {w : World} {x : Addr} {n c : Nat} {l : List UInt8} (h : BA w (some x) n c l) : Src P w (.slice (some x) n c) l := by
  obtain rfl := h.len
  refine ⟨fun w' => rfl, fun w' hw => ?_⟩
  refine run_firstCells_some w' 1 _ _ l.length c (vbytes l) (by simp [vbytes]) fun j v hj => ?_
  simp only [vbytes, List.getElem?_map, Option.map_eq_some_iff] at hj
  obtain ⟨c, hc, rfl⟩ := hj
  rw [World.cell?_of_block (w := w) (by rw [hw])]
  simpa using h.cell x rfl j c hc
end Go.Rb
namespace Go.Proofs.YtogdkmkganpaaaaGreatDoor
open Go.RowKit Go.Mp Go.Rb Go.Lib
set_option maxRecDepth 100000 in
theorem clone_ba {w : World} {a : Addr} {n c : Nat} {l : List UInt8} (h : Tx.BA w (some a) n c l) (hx : a.block < w.heap.size) (hl : l.length ≤ 100000) :
    Calls Tryz.prog 31 #[.slice (some a) n c] w fun e w' => ∃ p c', e = .returned (.slice p l.length c') ∧ RB w.heap.size w' (.slice p l.length c') l ∧ Below w.heap.size w w' := by
  obtain rfl := h.len
  have k33 := eql33 (some a) l.length c
  obtain ⟨i8, hi, hz0, hz1, hz2⟩ := info_parts' (show (Tryz.prog.info? 5).map (fun i => (i.zero, i.size, i.bytes)) = some (some (.int .u8 0), 1, 1) by kernel_rfl)
  have hb0 : Below w.heap.size w (w.alloc (.cells #[] 5)) := (Below.refl _ w).alloc (Nat.le_refl _) _
  have hsrc : Src Tryz.prog (w.alloc (.cells #[] 5)) (.slice (some a) l.length c) l := Src.ba (h.below hb0 (fun y hy => by cases hy; exact hx))
  have hs0 : (w.alloc (.cells #[] 5)).heap.size = w.heap.size + 1 := by show (w.heap.push _).size = _; simp
  have HS := Lib.hid hsrc
  have HR : Hid (RB w.heap.size (w.alloc (.cells #[] 5)) (.slice (some ⟨w.heap.size, 0, none⟩) 0 0) []) := Lib.hid (.inr ⟨w.heap.size, 0, rfl, Nat.le_refl _, by omega, rowB_made w _⟩)
  have HB := Lib.hid hb0
  have HS0 := Lib.hid hs0
  have HN : Hid (([] : List UInt8).length + l.length = l.length) := Lib.hid (by simp)
  clear h hsrc hb0 hs0
  go_enter Tryz.func31, Tryz.ntmps31
  go_wp2_with (at_builtin; refine wpList_append_kg (l := []) (m := l) (v := .slice (some a) l.length c) (B := w.heap.size) rfl _ _ 22 22 rfl Tryz.underlying22 Tryz.underlying22 (by intro k hk; cases hk) hi hz0 hz1 hz2 rfl (by first | rfl | (simp only [Act.eval, Act.put]; rfl)) HR.out HS.out (by rw [HS0.out]; omega) (by simp; omega) ?_; intro p1 c1 w2 hr2 hk2; rw [HN.out] at hr2 hk2 ⊢; have HR2 := Lib.hid hr2; have HK2 := Lib.hid hk2; clear hr2 hk2)
  go_ret
  refine ⟨p1, c1, rfl, HR2.out, ?_⟩
  rcases HK2.out with ⟨a, n', c', e, hkg, _⟩ | ⟨hbl, _⟩
  · cases e
    exact HB.out.trans (hkg.below (Nat.le_refl _) (by rw [HS0.out]; omega))
  · exact HB.out.trans (hbl.mono (by rw [HS0.out]; omega))
section
variable {S : Nat → Prop} {c0 c3 c4 c5 c6 c7 : Value} {b : Nat} {st : Int} {mp : Option Nat} {T : ByteArray → Option FileT}
set_option maxRecDepth 100000 in
theorem putw_ba {w : World} (hh : W8 w b c0 st mp c3 c4 c5 c6 c7) (hf : FilesIn S w b mp T) (hSb : ¬ S b) (hSl : ∀ k, S k → k < w.heap.size) (hst : 0 ≤ st) (hst2 : st ≤ 1000000) (p : ByteArray) (a : Addr) (n c : Nat) (l : List UInt8) (hr : Tx.BA w (some a) n c l) (hx : a.block < w.heap.size) (hl : l.length ≤ 100000) :
    Calls Tryz.prog 10 #[.pointer (some ⟨b, 0, none⟩), .string p, .slice (some a) n c] w (FilesR S w b c0 (st + 1) mp c3 c4 c5 c6 c7 (updT T p (l, st + 1, true))) := by
  have HCl := Lib.hid (clone_ba hr hx hl)
  have hbl := hh.lt
  have HC : Hid (∀ w1 p1 c1, RB w.heap.size w1 (.slice p1 l.length c1) l → Below w.heap.size w w1 → Calls Tryz.prog 30 #[.pointer (some ⟨b, 0, none⟩), .string p, .agg #[.slice p1 l.length c1, .int .i64 0, .bool true]] w1 (FilesR S w b c0 (st + 1) mp c3 c4 c5 c6 c7 (updT T p (l, st + 1, true)))) := Lib.hid (fun w1 p1 c1 hr1 hb1 => by
    have hs := hb1.size
    refine (change_x (S := fun k => S k ∨ (w.heap.size ≤ k ∧ k < w1.heap.size)) ((hb1.block b hbl).trans hh) (hf.same (fun k hk => .inl hk) (fun k hk => hb1.block k (hSl k hk))) (fun h => h.elim hSb (fun h => by omega)) (fun k h => h.elim (fun h => Nat.lt_of_lt_of_le (hSl k h) hs) (fun h => h.2)) hst hst2 p p1 l.length c1 l true (RB.base hr1 (Nat.zero_le _)) (fun q e => .inr (RB.blk hr1 e))).mono fun e w2 h => ?_
    obtain ⟨he, m, h1, h2, o1, o2, o3, o4, o5⟩ := h
    refine ⟨he, m, h1, h2.same (fun k hk => ?_) (fun _ _ => rfl), o1.trans hb1.os, o2.trans hb1.tape, o3.trans hb1.output, Nat.le_trans hs o4, fun k hk hkb hks => (o5 k (by omega) hkb (fun h => h.elim hks (fun h => by omega))).trans (hb1.block k hk)⟩
    rcases hk with (hk | hk) | hk
    · exact .inl hk
    · exact .inr ⟨hk.1, by omega⟩
    · exact .inr ⟨by omega, hk.2⟩)
  clear hh hf hr hx
  go_enter Tryz.func10, Tryz.ntmps10
  go_wp2_with (first | (go_at_call 31; refine HCl.out.mono ?_; rintro e w1 ⟨p1, c1, rfl, hr1, hb1⟩; have HR1 := Lib.hid hr1; have HB1 := Lib.hid hb1; clear hr1 hb1) | (go_at_call 30; refine (HC.out w1 p1 c1 HR1.out HB1.out).mono ?_; rintro e w' ⟨rfl, h3⟩))
  go_end0
  exact ⟨rfl, h3⟩
end
section
variable {W0 : Nat} {col : Nat → Nat} {w : World} {b : Nat} {s : NetW}
theorem PW.put_ba (h : PW col w b s) (hc : ColOk W0 col w) (ho : Okn s) (p : ByteArray) (a : Addr) (n c : Nat) (l : List UInt8) (hr : Tx.BA w (some a) n c l) (hx : a.block < w.heap.size) (hl : l.length ≤ 100000) :
    Calls Tryz.prog 10 #[.pointer (some ⟨b, 0, none⟩), .string p, .slice (some a) n c] w (PStep W0 col w b { s with cnt := s.cnt + 1, fil := fun q => if q = p then (l, s.cnt + 1, true) else s.fil q } (.tuple #[])) := by
  obtain ⟨mp, vs, vt, c5, c6, c7, T, Ms, Mt, h1, h2, h3, h4, h5, h6⟩ := h
  have := ho.cnt
  refine (putw_ba h1 h3 (by rw [h2]; decide) (fun k hk => col_new hc (by decide) k hk) ho.cnt.1 (by omega) p a n c l hr hx hl).mono fun e w' hr => ?_
  obtain ⟨he, m, h8', hf, o1, o2, o3, hsz, hk⟩ := hr
  have hh : ∀ k, k < w.heap.size → k ≠ b → col k ≠ 1 → w'.heap[k]? = w.heap[k]? := hk
  have hne : ∀ k c, c ≠ 5 → col k = c → k ≠ b := fun k c hc5 e e2 => hc5 (by rw [← e, e2, h2])
  have hkk : ∀ k c, c ≠ 5 → c ≠ 1 → c ≠ 0 → col k = c → w'.heap[k]? = w.heap[k]? := fun k c q1 q2 q3 e => hh k (col_new hc q3 k e) (hne k c q1 e) (by rw [e]; exact q2)
  have hcol := fun c (hn : c ≠ 0) k (h : col k = c) => set_paint2 (w' := w') (c := 1) hc hn k h
  rw [he]
  refine PW.step (s' := { s with cnt := s.cnt + 1, fil := fun q => if q = p then (l, s.cnt + 1, true) else s.fil q }) (.inl rfl) hc h2 h8' ⟨o1, o2, o3⟩ hsz hh (hf.same (fun k hk9 => set_paint hc (by decide) k hk9) (fun _ _ => rfl)) (fun q => ?_) (h5.same (fun k hk9 => hcol 2 (by decide) k hk9) (fun k hk9 => hkk k 2 (by decide) (by decide) (by decide) hk9)) (h6.same (fun k hk9 => hcol 3 (by decide) k hk9) (fun k hk9 => hkk k 3 (by decide) (by decide) (by decide) hk9))
  unfold updT
  by_cases hq : q = p
  · simp only [if_pos hq]; rfl
  · simp only [if_neg hq]; exact h4 q
end
end Go.Proofs.YtogdkmkganpaaaaGreatDoor

namespace Go.Proofs.YtogdkmkganpaaaaGreatDoor
open Go.RowKit Go.Mp Go.Rb Go.Lib Go.Wi Go.Tx
def net0 : NetW := ⟨0, 0, fun _ => ([], 0, false), [], []⟩
def colW (w : World) : Nat → Nat := fun k => if k = w.heap.size then 5 else 0
theorem new_pw (w : World) : ColOk w.heap.size (colW w) (w.alloc zWorld) ∧ PW (colW w) (w.alloc zWorld) w.heap.size net0 := by
  have hs : (w.alloc zWorld).heap.size = w.heap.size + 1 := by show (w.heap.push _).size = _; simp
  refine ⟨⟨by omega, fun k hk => ?_, fun k hk => ?_⟩, none, .slice none 0 0, .slice none 0 0, .map none, .int .i64 0, .slice none 0 0, fun _ => none, [], [], heap_alloc_new w _, by unfold colW; rw [if_pos rfl], ⟨fun _ => none, fun _ => rfl, fun _ => rfl⟩, fun _ => rfl, DgsIn.none _ _, StmIn.none _ _⟩
  · unfold colW at hk
    by_cases h : k = w.heap.size
    · omega
    · rw [if_neg h] at hk; exact absurd rfl hk
  · unfold colW at hk
    by_cases h : k = w.heap.size
    · rw [if_pos h] at hk; cases hk
    · rw [if_neg h] at hk; cases hk
theorem stubNew_any (wb : Nat) (w : World) : Calls Tryz.prog 12 #[.pointer (some ⟨wb, 0, none⟩)] w fun e w' => e = .returned (.pointer (some ⟨w.heap.size, 0, none⟩)) ∧ w' = w.alloc (.cells #[.pointer (some ⟨wb, 0, none⟩), .int .i64 0, .int .i64 0] 104) := by
  go_enter Tryz.func12, Tryz.ntmps12
  go_wp2
  go_ret
  exact ⟨rfl, rfl⟩
theorem stubNew_nil (w : World) : Calls Tryz.prog 12 #[.pointer none] w fun e w' => e = .returned (.pointer (some ⟨w.heap.size, 0, none⟩)) ∧ w' = w.alloc (.cells #[.pointer none, .int .i64 0, .int .i64 0] 104) := by
  go_enter Tryz.func12, Tryz.ntmps12
  go_wp2
  go_ret
  exact ⟨rfl, rfl⟩
section
variable {W0 : Nat} {col : Nat → Nat} {w w0 : World} {wb : Nat} {s : NetW}
theorem stub_alln (hc : ColOk W0 col w) (hbase : W0 = w0.heap.size) (hbel : Below W0 w0 w) (hp : PW col w wb s) :
    AllN w0 W0 (fun k => if k = w.heap.size then 4 else col k) (w.alloc (.cells #[.pointer (some ⟨wb, 0, none⟩), .int .i64 0, .int .i64 0] 104)) wb w.heap.size ⟨0, s⟩ 0 ∧ Fr (fun _ => False) col (fun k => if k = w.heap.size then 4 else col k) w (w.alloc (.cells #[.pointer (some ⟨wb, 0, none⟩), .int .i64 0, .int .i64 0] 104)) := by
  have hb : Below w.heap.size w (w.alloc (.cells #[.pointer (some ⟨wb, 0, none⟩), .int .i64 0, .int .i64 0] 104)) := (Below.refl _ _).alloc (Nat.le_refl _) _
  have hs : (w.alloc (.cells #[.pointer (some ⟨wb, 0, none⟩), .int .i64 0, .int .i64 0] 104)).heap.size = w.heap.size + 1 := by show (w.heap.push _).size = _; simp
  have hf : Fr (fun _ => False) col (fun k => if k = w.heap.size then 4 else col k) w (w.alloc (.cells #[.pointer (some ⟨wb, 0, none⟩), .int .i64 0, .int .i64 0] 104)) := ⟨hb.os, hb.tape, hb.output, hb.size, fun k hk => if_neg (by omega), fun k hk _ => hb.block k hk, fun k hk _ _ => hb.block k hk⟩
  have hok : ColOk W0 (fun k => if k = w.heap.size then 4 else col k) (w.alloc (.cells #[.pointer (some ⟨wb, 0, none⟩), .int .i64 0, .int .i64 0] 104)) := by
    refine ⟨Nat.le_trans hc.base hb.size, fun k hk => ?_, fun k hk => ?_⟩
    · by_cases h : k = w.heap.size
      · have := hc.base; omega
      · simp only [if_neg h] at hk
        have := hc.lo k hk
        omega
    · by_cases h : k = w.heap.size
      · simp only [if_pos h] at hk; cases hk
      · simp only [if_neg h] at hk
        obtain ⟨cs, fr, e⟩ := hc.u8 k hk
        exact ⟨cs, fr, (hb.block k (col_new hc (by decide) k hk)).trans e⟩
  exact ⟨⟨hok, hbase, Below.fr hbel hc hf id, hp.keep hc hf ⟨id, id, id, id⟩, ⟨heap_alloc_new w _, if_pos rfl⟩⟩, hf⟩
end
/-- The settings of the laws' begun. -/
def bodyL : List UInt8 := [110, 97, 109, 101, 115, 101, 114, 118, 101, 114, 32, 49, 46, 50, 46, 51, 46, 52, 10]
theorem bodyS : (setupP (toldG 1 [] bodyL)).servers = [[1, 2, 3, 4]] ∧ (setupP (toldG 1 [] bodyL)).search = [] ∧ (setupP (toldG 1 [] bodyL)).dots = 1 ∧ (setupP (toldG 1 [] bodyL)).tmo = 5 ∧ (setupP (toldG 1 [] bodyL)).att = 2 ∧ (setupP (toldG 1 [] bodyL)).rot = false := by decide +kernel
theorem good_of (n : ByteArray) (h1 : n.size ≤ 253) (h2 : okS n.data.toList = true) (h3 : (codS n.data.toList).length ≤ 300) : goodN n := by
  refine ⟨h1, fun i k hi hi2 hk => ?_⟩
  have hwl : ∀ z, (wordB z).length = 2 := fun _ => rfl
  have hwi : wordOK i 0 = true := by unfold wordOK; rw [Bool.and_eq_true, decide_eq_true_eq, decide_eq_true_eq]; omega
  have hwk : wordOK k 1 = true := by unfold wordOK; rw [Bool.and_eq_true, decide_eq_true_eq, decide_eq_true_eq]; omega
  have hf : wordOK (flagV 0 false false true) 0 = true := by decide
  have hc : codeOK 0 = true := by decide
  have hz : wordOK ((([] : List WRec).length : Nat) : Int) 0 = true := by decide
  have hl : (msgB i 0 false false true n.data.toList k []).length ≤ 4096 := by
    unfold msgB headB subB
    simp only [List.length_append, hwl, List.flatMap_nil, List.length_nil]
    omega
  unfold encOK msgOK headOK subOK
  rw [hwi, hwk, hf, hc, hz, h2, decide_eq_true hl]
  rfl
theorem good_rev : goodN revB := good_of revB (by decide) (by decide +kernel) (by decide +kernel)
/-- Put at a new world. -/
theorem put_new (w : World) (l : List UInt8) (hl : l.length ≤ 100000) (W : World) (hW : Below (w.alloc zWorld).heap.size (w.alloc zWorld) W) (a : Addr) (n cc : Nat) (hr : Tx.BA W (some a) n cc l) (hx : a.block < W.heap.size) :
    Calls Tryz.prog 10 #[.pointer (some ⟨w.heap.size, 0, none⟩), .string pathR, .slice (some a) n cc] W fun e w' => e = .returned (.tuple #[]) ∧ Hid (∃ col, ColOk w.heap.size col w' ∧ Below w.heap.size w w' ∧ PW col w' w.heap.size ⟨0, 1, fun q => if q = pathR then (l, 1, true) else ([], 0, false), [], []⟩) := by
  obtain ⟨hc, hp⟩ := new_pw w
  have hb1 : Below w.heap.size w (w.alloc zWorld) := (Below.refl _ _).alloc (Nat.le_refl _) _
  have hcW := hc.below hW
  refine ((hp.below hc hW).put_ba hcW ⟨⟨by decide, by decide⟩, ⟨by decide, by decide⟩, Nat.zero_le _, Nat.zero_le _⟩ pathR a n cc l hr hx hl).mono ?_
  rintro e w' ⟨he, col, h1, h2, h3⟩
  exact ⟨he, Lib.hid ⟨col, h1, Below.fr (hb1.trans (hW.mono hb1.size)) hcW h2 (by unfold PC; omega), h3⟩⟩
theorem metPoll (n : Nat) (v : Value) (w : World) : (Go.method (n + 1) 114 v "Poll").run Tryz.prog w = .ok (248, v) w := by kernel_rfl
theorem opNe (t : TypeId) (x : Value) (w : World) : (binOp .eql 53 (.iface t x) .nilIface).run Tryz.prog w = .ok (.bool false) w := run_eql_iface_nil w _ (by kernel_rfl) _ _
theorem opNn (w : World) : (binOp .eql 53 .nilIface .nilIface).run Tryz.prog w = .ok (.bool true) w := by kernel_rfl
theorem sname_any (v : Value) (w : World) : Calls Tryz.prog 28 #[v] w fun e w' => e = .returned (.string dnsB) ∧ w = w' := by
  go_enter Tryz.func28, Tryz.ntmps28
  go_wp2
  go_ret
  exact ⟨rfl, rfl⟩
theorem sable1 (v : Value) (w : World) : Calls Tryz.prog 29 #[v, .int .i64 1] w fun e w' => e = .returned (.bool true) ∧ w = w' := by
  go_enter Tryz.func29, Tryz.ntmps29
  go_wp2
  go_ret
  exact ⟨rfl, rfl⟩
theorem sable3 (v : Value) (w : World) : Calls Tryz.prog 29 #[v, .int .i64 3] w fun e w' => e = .returned (.bool false) ∧ w = w' := by
  go_enter Tryz.func29, Tryz.ntmps29
  go_wp2
  go_ret
  exact ⟨rfl, rfl⟩
theorem PW.sent_ {col : Nat → Nat} {w : World} {b : Nat} {s : NetW} (h : PW col w b s) (hL : s.sent.length ≤ 1000) (hl : ∀ x ∈ s.sent, x.2.2.length ≤ 1000000) :
    Calls Tryz.prog 25 #[.pointer (some ⟨b, 0, none⟩)] w fun e w' => ∃ gm, e = .returned (.slice (some ⟨gm, 0, none⟩) s.sent.length s.sent.length) ∧ w.heap.size ≤ gm ∧ gm < w'.heap.size ∧ (∀ i x, s.sent[i]? = some x → w'.cell? ⟨gm, i * 3, none⟩ = some (.string x.1) ∧ w'.cell? ⟨gm, i * 3 + 1, none⟩ = some (.bool x.2.1) ∧ ∃ (a : Option Addr) (n c : Nat), w'.cell? ⟨gm, i * 3 + 2, none⟩ = some (.slice a n c) ∧ RB w.heap.size w' (.slice a n c) x.2.2) ∧ Below w.heap.size w w' := by
  obtain ⟨mp, vs, vt, c5, c6, c7, T, Ms, Mt, h1, h2, h3, h4, h5, h6⟩ := h
  refine (sent_x h1 h5 hL hl).mono ?_
  rintro e w' ⟨gm, he, ⟨M, zs, m1, m2, m3, m4, m5⟩, hb⟩
  obtain ⟨hlen, hrow⟩ := m3
  have hg : ∃ (cap : Nat) (cur : Array Value), w.heap.size ≤ gm ∧ w'.heap[gm]? = some (Obj.cells cur 60 (0, 0)) ∧ cur.toList.take (s.sent.length * 3) = M.flatMap dgC ++ zs := by
    rcases hrow with ⟨e1, _⟩ | ⟨g, cap, cur, e1, hB, hg, hn, hm, hc, ht⟩
    · cases e1
    · have : gm = g := by injection e1 with e1; injection e1 with e1; injection e1
      subst this
      exact ⟨cap, cur, hB, hg, ht⟩
  obtain ⟨cap, cur, hB, hg, ht⟩ := hg
  refine ⟨gm, he, hB, (Array.getElem?_eq_some_iff.1 hg).1, fun i x hx => ?_, hb⟩
  have hi := (List.getElem?_eq_some_iff.1 hx).1
  obtain ⟨y, hy⟩ : ∃ y, M[i]? = some y := ⟨_, List.getElem?_eq_getElem (by omega)⟩
  have hy1 : y.1 = x := by
    have := congrArg (·[i]?) m1
    simp only [List.getElem?_map, hy, List.take_length, hx, Option.map_some, Option.some.injEq] at this
    exact this
  have hcell : ∀ j v, j < 3 → (dgC y)[j]? = some v → w'.cell? ⟨gm, i * 3 + j, none⟩ = some v := fun j v hj hv => by
    have h7 := dgC_at M i j y hy hj
    rw [hv] at h7
    have hlt : i * 3 + j < (M.flatMap dgC).length := (List.getElem?_eq_some_iff.1 h7).1
    have h8 : (M.flatMap dgC ++ zs)[i * 3 + j]? = some v := by rw [List.getElem?_append_left hlt]; exact h7
    rw [← ht, List.getElem?_take, if_pos (by omega)] at h8
    refine cell_of hg ?_
    rw [← Array.getElem?_toList]
    exact h8
  obtain ⟨a, n, c, e2, hr⟩ := m5 y (List.mem_of_getElem? hy)
  subst hy1
  refine ⟨hcell 0 _ (by decide) rfl, hcell 1 _ (by decide) rfl, a, n, c, ?_, hr⟩
  rw [hcell 2 y.2 (by decide) rfl, e2]
end Go.Proofs.YtogdkmkganpaaaaGreatDoor

namespace Go.Proofs.YtogdkmkganpaaaaGreatDoor
open Go.RowKit Go.Mp Go.Rb Go.Lib Go.Wi Go.Tx
def netB : NetW := ⟨0, 1, fun q => if q = pathR then (bodyL, 1, true) else ([], 0, false), [], []⟩
theorem lkB_ok : LkOK (lk0 (setupP (toldG 1 [] bodyL)) 1 [revB] [12]) := by
  obtain ⟨b1, b2, b3, b4, b5, b6⟩ := bodyS
  refine ⟨?_, ?_, ?_, ?_, (by decide : 1 ≤ ([revB] : List ByteArray).length ∧ ([revB] : List ByteArray).length ≤ 8), (fun x hx => ?_), .inr rfl, ?_, (by decide : ([] : List ByteArray).length ≤ 32), (fun x hx => by cases hx), (by decide : (0 : Int) ≤ 86400 ∧ (86400 : Int) ≤ 86400)⟩
  · show 1 ≤ ((setupP (toldG 1 [] bodyL)).servers.map bA).length ∧ _
    rw [b1]; decide
  · show ∀ x ∈ (setupP (toldG 1 [] bodyL)).servers.map bA, x.size ≤ 16
    rw [b1]; decide
  · show 1 ≤ (setupP (toldG 1 [] bodyL)).att ∧ _
    rw [b5]; decide
  · show 1 ≤ (setupP (toldG 1 [] bodyL)).tmo ∧ _
    rw [b4]; decide
  · rw [List.mem_singleton.1 hx]; exact good_rev
  · show ((0 : Nat) : Int) ≤ (setupP (toldG 1 [] bodyL)).att * (((setupP (toldG 1 [] bodyL)).servers.map bA).length : Int)
    rw [b5, b1]; decide
theorem lit_body (w : World) : ∃ w2, (convert 22 22 (.slice (some ⟨w.heap.size + 1, 0, none⟩) 19 19)).run Tryz.prog ((w.alloc zWorld).alloc (.cells #[.int .u8 110, .int .u8 97, .int .u8 109, .int .u8 101, .int .u8 115, .int .u8 101, .int .u8 114, .int .u8 118, .int .u8 101, .int .u8 114, .int .u8 32, .int .u8 49, .int .u8 46, .int .u8 50, .int .u8 46, .int .u8 51, .int .u8 46, .int .u8 52, .int .u8 10] 5)) = .ok (.slice (some ⟨w.heap.size + 1, 0, none⟩) 19 19) w2 ∧ Tx.BA w2 (some ⟨w.heap.size + 1, 0, none⟩) 19 19 bodyL ∧ w.heap.size + 1 < w2.heap.size ∧ Below (w.alloc zWorld).heap.size (w.alloc zWorld) w2 := by
  have hs : (w.alloc zWorld).heap.size = w.heap.size + 1 := by show (w.heap.push _).size = _; simp
  obtain ⟨w2, h1, h2, h3, h4⟩ := lit_any (w.alloc zWorld) #[.int .u8 110, .int .u8 97, .int .u8 109, .int .u8 101, .int .u8 115, .int .u8 101, .int .u8 114, .int .u8 118, .int .u8 101, .int .u8 114, .int .u8 32, .int .u8 49, .int .u8 46, .int .u8 50, .int .u8 46, .int .u8 51, .int .u8 46, .int .u8 52, .int .u8 10] bodyL rfl (by decide)
  have e : bodyL.length = 19 := rfl
  rw [hs, e] at h1 h2
  exact ⟨w2, h1, h2, by omega, h4⟩
set_option maxHeartbeats 1000000 in
set_option maxRecDepth 100000 in
theorem begun16_any (w0 w : World) (hb0 : Below w0.heap.size w0 w) (hg : GloAt w0) (hrev : RevOK w0) : Calls Tryz.prog 7 #[] w fun e w' => e = .returned (.bool true) ∧ Below w.heap.size w w' := by
  have hgw := hg.below hb0
  have hrw : RevOK w := fun W hW => hrev W (hb0.trans (hW.mono hb0.size))
  have HN := Lib.hid (new_any w)
  have hb1 : Below w.heap.size w (w.alloc zWorld) := (Below.refl _ _).alloc (Nat.le_refl _) _
  obtain ⟨w2', hc, hba, hlt2, hbw2⟩ := lit_body w
  have HPut := Lib.hid (put_new w bodyL (by decide) w2' hbw2 ⟨w.heap.size + 1, 0, none⟩ 19 19 hba hlt2)
  have HSt := Lib.hid (fun (W : World) => stubNew_any w.heap.size W)
  have e1 := opNe
  have m1 := metPoll
  have HSn := Lib.hid sname_any
  have HA1 := Lib.hid sable1
  have HA3 := Lib.hid sable3
  go_enter Tryz.func7, Tryz.ntmps7
  go_upto_region 6 with (first
    | (go_at_call 8; refine HN.out.mono ?_; rintro e w1 ⟨rfl, rfl⟩)
    | (go_at_call 10; refine HPut.out.mono ?_; rintro e w2 ⟨rfl, HP2⟩)
    | (go_at_call 12; refine (HSt.out _).mono ?_; rintro e w3 ⟨rfl, rfl⟩))
  obtain ⟨col2, hc2, hb2, hp2⟩ := HP2.out
  obtain ⟨hA3, hF3⟩ := stub_alln (W0 := w.heap.size) (w0 := w) hc2 rfl hb2 hp2
  obtain ⟨w3, hw3⟩ : ∃ w3, w2.alloc (.cells #[.pointer (some ⟨w.heap.size, 0, none⟩), .int .i64 0, .int .i64 0] 104) = w3 := ⟨_, rfl⟩
  rw [hw3] at hA3 hF3
  have hms0 : MsOK ⟨0, netB⟩ := ⟨⟨by decide, by decide⟩, ⟨by decide, by decide⟩, ⟨⟨by decide, by decide⟩, ⟨by decide, by decide⟩, Nat.zero_le _, Nat.zero_le _⟩⟩
  have hbs := bodyS
  have hlk := lkB_ok
  obtain ⟨S, hS⟩ : ∃ S, setupP (toldG 1 [] bodyL) = S := ⟨_, rfl⟩
  rw [hS] at hbs hlk
  obtain ⟨b1, b2, b3, b4, b5, b6⟩ := hbs
  have hBg := begin_any (c := 100) hA3 (Nat.le_refl _) hgw 2 abcdB ⟨#[]⟩ 0 bodyL 1 true (by show (if pathR = pathR then ((bodyL, 1, true) : FileT) else ([], 0, false)) = (bodyL, 1, true); exact if_pos rfl) (by decide) S hS [revB] [12]
    (fun W v1 v2 hW h1 h2 => ques_addrs ⟨#[]⟩ 0 h1 h2 hrw (hA3.bel.trans (hW.mono hA3.bel.size))) hms0 ⟨by decide, by decide⟩ b6 (by decide) (by rw [b1]; decide) (fun _ => hlk)
  have HBg : Hid (Calls Tryz.prog 14 #[.pointer (some ⟨w2.heap.size, 0, none⟩), .agg #[.int .i64 2, .string abcdB, .string ⟨#[]⟩, .int .i64 0]] w3 fun e w' => ∃ lb, e = .returned (.iface 114 (.pointer (some ⟨lb, 0, none⟩))) ∧ Hid (∃ col' V', AllIn w w.heap.size 100 col' w' w.heap.size w2.heap.size lb (sendM ⟨0, netB⟩ (lk0 S 1 [revB] [12])) 1 (sendL ⟨0, netB⟩ (lk0 S 1 [revB] [12])) V')) := Lib.hid (hBg.mono (by
    rintro e w' (⟨h, _⟩ | ⟨_, h, _⟩ | ⟨_, _, lb, col', V', he, ha, hf⟩)
    · cases h
    · rw [b1] at h; cases h
    · exact ⟨lb, he, Lib.hid ⟨col', V', ha⟩⟩))
  have HB1 := Lib.hid (And.intro b1 (And.intro b4 hlk))
  clear hBg hA3 hF3 hc2 hb2 hp2 hb1 hc hba hlt2 hbw2 b1 b2 b3 b4 b5 b6 hlk hS hms0
  go_upto_region 7 with (go_at_call 14; refine HBg.out.mono ?_; rintro e w4 ⟨lb, rfl, HA4⟩)
  obtain ⟨col4, V4, hA4⟩ := HA4.out
  obtain ⟨b1, b4, hlk⟩ := HB1.out
  obtain ⟨L0, hL0⟩ : ∃ L0, lk0 S 1 [revB] [12] = L0 := ⟨_, rfl⟩
  have hsv : L0.server = ⟨#[1, 2, 3, 4]⟩ := by
    rw [← hL0]
    show (S.servers.map bA).getD (([] : List (Int × ByteArray)).length % (S.servers.map bA).length) ⟨#[]⟩ = _
    rw [b1]
    rfl
  have hgd : goodN L0.name := by rw [← hL0]; exact good_rev
  have htm : L0.tmo = 5 := by rw [← hL0]; exact b4
  rw [hL0] at hA4
  obtain ⟨nt, hnt⟩ : ∃ nt, (sendM ⟨0, netB⟩ L0) = nt := ⟨_, rfl⟩
  have hs1 : nt.net.sent = [(⟨#[1, 2, 3, 4]⟩, false, tryB (nidF 0) L0)] := by rw [← hnt]; unfold sendM; rw [hsv]; rfl
  have hnow : nt.net.now = 0 := by rw [← hnt]; rfl
  have htil : (sendL ⟨0, netB⟩ L0).til = 5 := by unfold sendL; show (0 : Int) + L0.tmo = 5; rw [htm]; rfl
  rw [hnt] at hA4
  obtain ⟨L1, hL1⟩ : ∃ L1, sendL ⟨0, netB⟩ L0 = L1 := ⟨_, rfl⟩
  rw [hL1] at hA4 htil
  have hse := hA4.net.sent_ (by rw [hs1]; exact (by decide : 1 ≤ 1000)) (fun x hx => by rw [hs1] at hx; rw [List.mem_singleton.1 hx]; exact tryB_len _ _ hgd)
  rw [hs1] at hse
  have HSe : Hid (Calls Tryz.prog 25 #[.pointer (some ⟨w.heap.size, 0, none⟩)] w4 fun e w' => ∃ gm, e = .returned (.slice (some ⟨gm, 0, none⟩) 1 1) ∧ w'.cell? ⟨gm, 0, none⟩ = some (.string ⟨#[1, 2, 3, 4]⟩) ∧ Hid (col4 gm = 0 ∧ gm < w'.heap.size) ∧ Hid (AllIn w w.heap.size 100 col4 w' w.heap.size w2.heap.size lb nt 1 L1 V4)) := Lib.hid (hse.mono (by
    rintro e w' ⟨gm, he, h1, h2, h3, h4⟩
    have h5 := (h3 0 _ rfl).1
    rw [Nat.zero_mul] at h5
    exact ⟨gm, he, h5, Lib.hid ⟨Classical.byContradiction fun hn => by have := (hA4.ok.lo gm hn).2; omega, h2⟩, Lib.hid (hA4.below (by decide) h4)⟩))
  have HPo : Hid (∀ (W : World) (gm : Nat), (col4 gm = 0 ∧ gm < W.heap.size) → W.cell? ⟨gm, 0, none⟩ = some (.string ⟨#[1, 2, 3, 4]⟩) → AllIn w w.heap.size 100 col4 W w.heap.size w2.heap.size lb nt 1 L1 V4 → Calls Tryz.prog 248 #[.pointer (some ⟨lb, 0, none⟩)] W fun e w' => e = .returned (.tuple #[.agg #[.slice none 0 0, .slice none 0 0, .int .i64 0, .int .i64 0], .slice none 0 0, .nilIface, .bool false]) ∧ w'.cell? ⟨gm, 0, none⟩ = some (.string ⟨#[1, 2, 3, 4]⟩) ∧ gm < w'.heap.size ∧ Hid (Below w.heap.size w w')) := Lib.hid (fun W gm hg hc hA => by
    refine (poll_wait hA (by decide) (by rw [hnow, htil]; decide)).mono ?_
    rintro e w' ⟨⟨col', hS, hF⟩, he⟩
    refine ⟨he, ?_, Nat.lt_of_lt_of_le hg.2 hF.size, Lib.hid hS.bel⟩
    rw [World.cell?_of_block (w := W) (hF.keep gm hg.2 (by rw [hg.1]; unfold LC; decide))]
    exact hc)
  clear hse hA4 hnt hs1 hgd hsv hL0 htm htil hL1 hnow HA4 b1 b4 hlk HB1 HBg HP2 HPut HN HSt hrw hgw hb0 hg hrev
  go_upto_region 10 with (go_at_call 25; refine HSe.out.mono ?_; rintro e w5 ⟨gm, rfl, g0, HG5, HA5⟩)
  go_upto_region 11 with (go_at_call 248; refine (HPo.out _ _ HG5.out g0 HA5.out).mono ?_; rintro e w6 ⟨rfl, g6, hg6, HB6⟩)
  have hq1 : ((⟨#[1, 2, 3, 4]⟩ : ByteArray) == ⟨#[1, 2, 3, 4]⟩) = true := by decide
  have hq2 : (dnsB == (⟨#[100, 110, 115]⟩ : ByteArray)) = true := by decide
  go_wp2_with (first
    | (go_at_call 28; refine (HSn.out _ _).mono ?_; rintro e w7 ⟨rfl, rfl⟩)
    | (go_at_call 29; with_reducible refine (HA1.out _ _).mono ?_; rintro e w7 ⟨rfl, rfl⟩)
    | (go_at_call 29; with_reducible refine (HA3.out _ _).mono ?_; rintro e w7 ⟨rfl, rfl⟩))
  go_ret
  exact ⟨rfl, HB6.out.alloc HB6.out.size _⟩
end Go.Proofs.YtogdkmkganpaaaaGreatDoor

namespace Go.Proofs.YtogdkmkganpaaaaGreatDoor
open Go.RowKit Go.Mp Go.Rb Go.Lib Go.Wi Go.Tx
set_option maxRecDepth 100000 in
theorem begin_none (q : Array Value) (w : World) : Calls Tryz.prog 14 #[.pointer none, .agg q] w fun e w' => e = .returned .nilIface ∧ Below w.heap.size w w' := by
  go_enter Tryz.func14, Tryz.ntmps14
  go_wp2
  go_ret
  exact ⟨rfl, (Below.refl _ _).alloc (Nat.le_refl _) _⟩
set_option maxRecDepth 100000 in
theorem begin_noworld (b : Nat) (q : Array Value) (w : World) (hb : w.cell? ⟨b, 0, none⟩ = some (.pointer none)) : Calls Tryz.prog 14 #[.pointer (some ⟨b, 0, none⟩), .agg q] w fun e w' => e = .returned .nilIface ∧ Below w.heap.size w w' := by
  have hl : b < w.heap.size := cellLt hb
  go_enter Tryz.func14, Tryz.ntmps14
  go_wp2
  go_ret
  exact ⟨rfl, (Below.refl _ _).alloc (Nat.le_refl _) _⟩
theorem emptyS : (setupP (toldG 1 [] [])).servers = [] ∧ (setupP (toldG 1 [] [])).search = [] ∧ (setupP (toldG 1 [] [])).dots = 1 ∧ (setupP (toldG 1 [] [])).rot = false := by decide +kernel
theorem AllS.n {w0 w : World} {W0 c wb sb lb : Nat} {col : Nat → Nat} {m : MS} {bg : Int} {s : LkS} (h : AllS w0 W0 c col w wb sb lb m bg s) : AllN w0 W0 col w wb sb m bg := ⟨h.ok, h.base, h.bel, h.net, h.stb⟩
theorem ms0_ok : MsOK ⟨0, net0⟩ := ⟨⟨by decide, by decide⟩, ⟨by decide, by decide⟩, ⟨⟨by decide, by decide⟩, ⟨by decide, by decide⟩, Nat.zero_le _, Nat.zero_le _⟩⟩
/-- Begin at a world of no files, where nothing is asked for. -/
theorem begin_empty_nil {w0 w : World} {W0 wb sb : Nat} {col : Nat → Nat} (h : AllN w0 W0 col w wb sb ⟨0, net0⟩ 0) (hg : GloAt w0) (db : Int) (nm : ByteArray) (hq : ∀ S : SetL, S = setupP (toldG 1 [] []) → AskOK w db nm ⟨#[]⟩ 0 S [] (if db = 1 then [1, 28] else [])) :
    Calls Tryz.prog 14 #[.pointer (some ⟨sb, 0, none⟩), .agg #[.int .i64 db, .string nm, .string ⟨#[]⟩, .int .i64 0]] w fun e w' => e = .returned .nilIface ∧ Below w.heap.size w w' := by
  obtain ⟨b1, b2, b3, b4⟩ := emptyS
  refine (begin_any (c := 100) h (Nat.le_refl _) hg db nm ⟨#[]⟩ 0 [] 0 false rfl (Nat.zero_le _) _ rfl [] (if db = 1 then [1, 28] else []) (hq _ rfl) ms0_ok ⟨by decide, by decide⟩ b4 (Nat.zero_le _) (by rw [b1]; exact Nat.zero_le _) (fun hn => absurd b1 hn)).mono ?_
  rintro e w' (⟨_, he, hb⟩ | ⟨h1, _⟩ | ⟨h1, _⟩)
  · exact ⟨he, hb⟩
  · exact absurd rfl h1
  · exact absurd rfl h1
theorem ask_a (w : World) (hm : MaxAt w) (S : SetL) (hS : S = setupP (toldG 1 [] [])) : AskOK w 1 ⟨#[97]⟩ ⟨#[]⟩ 0 S [⟨#[97]⟩] [1, 28] := fun W v1 v2 hW h1 h2 => by
  have hs : S.search = [] := by rw [hS]; exact emptyS.2.1
  have hd : S.dots = 1 := by rw [hS]; exact emptyS.2.2.1
  have := ques_hosts ⟨#[97]⟩ ⟨#[]⟩ 0 h1 h2 (hm.below hW) (by decide) (by rw [hs]; intro d hd; cases hd)
  rw [hs, hd, show (candL (ByteArray.mk #[97]).data.toList (([] : List (List UInt8)).take 6) (decide ((1 : Int) ≤ (countByte ((bare (ByteArray.mk #[97]).data.toList).map low) 46 : Int)))).map bA = [⟨#[97]⟩] from by decide +kernel] at this
  rw [hd]
  exact this
theorem ask_ab (w : World) (hm : MaxAt w) (S : SetL) (hS : S = setupP (toldG 1 [] [])) : AskOK w 1 ⟨#[97, 46, 46, 98]⟩ ⟨#[]⟩ 0 S [] (if (1 : Int) = 1 then [1, 28] else []) := fun W v1 v2 hW h1 h2 => by
  have hs : S.search = [] := by rw [hS]; exact emptyS.2.1
  have hd : S.dots = 1 := by rw [hS]; exact emptyS.2.2.1
  have := ques_hosts ⟨#[97, 46, 46, 98]⟩ ⟨#[]⟩ 0 h1 h2 (hm.below hW) (by decide) (by rw [hs]; intro d hd; cases hd)
  rw [hs, hd, show (candL (ByteArray.mk #[97, 46, 46, 98]).data.toList (([] : List (List UInt8)).take 6) (decide ((1 : Int) ≤ (countByte ((bare (ByteArray.mk #[97, 46, 46, 98]).data.toList).map low) 46 : Int)))).map bA = [] from by decide +kernel] at this
  rw [hd, if_pos rfl]
  exact this
theorem ask_3 (w : World) (S : SetL) : AskOK w 3 ⟨#[97]⟩ ⟨#[]⟩ 0 S [] (if (3 : Int) = 1 then [1, 28] else []) := fun W v1 v2 hW h1 h2 => by
  rw [if_neg (by decide)]
  exact ques_other 3 ⟨#[97]⟩ ⟨#[]⟩ 0 h1 h2 (by decide) (by decide)
set_option maxHeartbeats 1000000 in
set_option maxRecDepth 100000 in
theorem stubNone_walk (w : World) (hg : GloAt w) (hrev : RevOK w) : Calls Tryz.prog 6 #[] w fun e w' => e = .returned (.bool true) ∧ Below w.heap.size w w' := by
  obtain ⟨hc1, hp1⟩ := new_pw w
  have hb1 : Below w.heap.size w (w.alloc zWorld) := (Below.refl _ _).alloc (Nat.le_refl _) _
  obtain ⟨hA2, _⟩ := stub_alln (W0 := w.heap.size) (w0 := w) hc1 rfl hb1 hp1
  have hs1 : (w.alloc zWorld).heap.size = w.heap.size + 1 := by show (w.heap.push _).size = _; simp
  rw [hs1] at hA2
  obtain ⟨w2, hw2⟩ : ∃ w2, (w.alloc zWorld).alloc (.cells #[.pointer (some ⟨w.heap.size, 0, none⟩), .int .i64 0, .int .i64 0] 104) = w2 := ⟨_, rfl⟩
  rw [hw2] at hA2
  have HN := Lib.hid (new_any w)
  have HSt : Hid (Calls Tryz.prog 12 #[.pointer (some ⟨w.heap.size, 0, none⟩)] (w.alloc zWorld) fun e w' => e = .returned (.pointer (some ⟨w.heap.size + 1, 0, none⟩)) ∧ w' = w2) := Lib.hid (by
    have := stubNew_any w.heap.size (w.alloc zWorld)
    rw [hs1, hw2] at this
    exact this)
  obtain ⟨e1, e2, e3, e4⟩ := emptyS
  have hBg := begin_any (c := 100) hA2 (Nat.le_refl _) hg 1 ⟨#[97]⟩ ⟨#[]⟩ 0 [] 0 false rfl (Nat.zero_le _) _ rfl [⟨#[97]⟩] [1, 28] (ask_a w2 (mb_of (hg.below hA2.bel)) _ rfl) ms0_ok ⟨by decide, by decide⟩ e4 (by decide) (by rw [e1]; exact Nat.zero_le _) (fun hn => absurd e1 hn)
  have HBg : Hid (Calls Tryz.prog 14 #[.pointer (some ⟨w.heap.size + 1, 0, none⟩), .agg #[.int .i64 1, .string ⟨#[97]⟩, .string ⟨#[]⟩, .int .i64 0]] w2 fun e w' => ∃ lb, e = .returned (.iface 114 (.pointer (some ⟨lb, 0, none⟩))) ∧ Hid (∃ col', AllS w w.heap.size 100 col' w' w.heap.size (w.heap.size + 1) lb ⟨0, net0⟩ 0 (.off ⟨0, 2, [], [], 0⟩))) := Lib.hid (hBg.mono (by
    rintro e w' (⟨h, _⟩ | ⟨_, _, lb, col', he, ha, hf⟩ | ⟨_, h, _⟩)
    · cases h
    · exact ⟨lb, he, Lib.hid ⟨col', ha⟩⟩
    · exact absurd e1 h))
  have HPo : Hid (∀ (W : World) (lb : Nat), (∃ col', AllS w w.heap.size 100 col' W w.heap.size (w.heap.size + 1) lb ⟨0, net0⟩ 0 (.off ⟨0, 2, [], [], 0⟩)) → Calls Tryz.prog 248 #[.pointer (some ⟨lb, 0, none⟩)] W fun e w' => ∃ pn nn cn pa na ca g cc ev, e = .returned (.tuple #[.agg #[.slice pn nn cn, .slice pa na ca, .int .i64 0, .int .i64 0], .slice (some ⟨g, 0, none⟩) 1 cc, ev, .bool true]) ∧ Hid (∃ col', AllN w w.heap.size col' w' w.heap.size (w.heap.size + 1) ⟨0, net0⟩ 0) ∧ Hid (ErrS w' [dnsB] 2 ev)) := Lib.hid (fun W lb ⟨col', ha⟩ => by
    refine (poll_off ha (by decide) ⟨by decide, by decide⟩).mono ?_
    rintro e w' ⟨⟨col2, hS, hF⟩, vn, va, vd, ev, he, h1, h2, ⟨g, cc, h3, _, _⟩, h4⟩
    subst h3
    obtain ⟨pn, cn, en⟩ : ∃ p c, vn = .slice p 0 c := by
      rcases h1.2 with ⟨x1, _⟩ | ⟨g, cap, cur, x1, _⟩
      · exact ⟨none, 0, x1⟩
      · exact ⟨_, _, x1⟩
    obtain ⟨pa, ca, ea⟩ : ∃ p c, va = .slice p 0 c := by
      rcases h2.2 with ⟨x1, _⟩ | ⟨g, cap, cur, x1, _⟩
      · exact ⟨none, 0, x1⟩
      · exact ⟨_, _, x1⟩
    subst en ea
    rcases h4 with ⟨h4, _⟩ | ⟨_, h4⟩
    · cases h4
    · exact ⟨pn, 0, cn, pa, 0, ca, g, cc, ev, he, Lib.hid ⟨col2, hS.n⟩, Lib.hid h4⟩)
  have n1 := opNe
  have n2 := opNn
  have m1 := metPoll
  have HG := Lib.hid hg
  have HRv := Lib.hid hrev
  clear hc1 hp1 hb1 hA2 hs1 hw2 hBg e1 e2 e3 e4 hg hrev
  go_enter Tryz.func6, Tryz.ntmps6
  go_upto_region 8 with (first
    | (go_at_call 8; with_reducible refine HN.out.mono ?_; rintro e w1 ⟨rfl, rfl⟩)
    | (go_at_call 12; with_reducible refine HSt.out.mono ?_; rintro e w3 ⟨rfl, rfl⟩)
    | (go_at_call 14; with_reducible refine HBg.out.mono ?_; rintro e w4 ⟨lb, rfl, HA4⟩)
    | (go_at_call 248; with_reducible refine (HPo.out _ _ HA4.out).mono ?_; rintro e w5 ⟨pn, nn, cn, pa, na, ca, g, cc, ev, rfl, HA5, HE5⟩))
  obtain ⟨wp, hwp⟩ : ∃ wp, w5.alloc (.cells #[.slice pn nn cn, .slice pa na ca, .int .i64 0, .int .i64 0] 72) = wp := ⟨_, rfl⟩
  have hb6 : Below w5.heap.size w5 wp := by rw [← hwp]; exact (Below.refl _ _).alloc (Nat.le_refl _) _
  obtain ⟨col5, hA5⟩ := HA5.out
  have hAp := hA5.below hb6
  have hEp := HE5.out.below hb6
  obtain ⟨t, u, hev⟩ := ErrS.iface hEp
  subst hev
  have hg := HG.out
  have hgp : GloAt w := hg
  have h5 := HRv.out
  have X0 : Hid (Below wp.heap.size wp wp) := Lib.hid (Below.refl _ _)
  have HB0 : Hid (Below w.heap.size w wp) := Lib.hid hAp.bel
  have K1 : Hid (∀ W, Below wp.heap.size wp W → Calls Tryz.prog 7 #[] W fun e w' => e = .returned (.bool true) ∧ Hid (Below wp.heap.size wp w')) := Lib.hid (fun W hW => by
    refine (begun16_any w W (hAp.bel.trans (hW.mono hAp.bel.size)) hg h5).mono ?_
    rintro e w' ⟨he, hb⟩
    exact ⟨he, Lib.hid (hW.trans (hb.mono hW.size))⟩)
  have K2 : Hid (∀ W, Below wp.heap.size wp W → Calls Tryz.prog 14 #[.pointer none, .agg #[.int .i64 1, .string ⟨#[97]⟩, .string ⟨#[]⟩, .int .i64 0]] W fun e w' => e = .returned .nilIface ∧ Hid (Below wp.heap.size wp w')) := Lib.hid (fun W hW => by
    refine (begin_none _ W).mono ?_
    rintro e w' ⟨he, hb⟩
    exact ⟨he, Lib.hid (hW.trans (hb.mono hW.size))⟩)
  have K3 : Hid (∀ W : World, Below wp.heap.size wp W → Calls Tryz.prog 12 #[.pointer none] W fun e w' => ∃ b, e = .returned (.pointer (some ⟨b, 0, none⟩)) ∧ Hid (w'.cell? ⟨b, 0, none⟩ = some (.pointer none)) ∧ Hid (Below wp.heap.size wp w')) := Lib.hid (fun W hW => by
    refine (stubNew_nil W).mono ?_
    rintro e w' ⟨he, rfl⟩
    exact ⟨_, he, Lib.hid (cell_of (heap_alloc_new W _) rfl), Lib.hid (hW.alloc hW.size _)⟩)
  have K4 : Hid (∀ (W : World) (b : Nat), Below wp.heap.size wp W → W.cell? ⟨b, 0, none⟩ = some (.pointer none) → Calls Tryz.prog 14 #[.pointer (some ⟨b, 0, none⟩), .agg #[.int .i64 1, .string ⟨#[97]⟩, .string ⟨#[]⟩, .int .i64 0]] W fun e w' => e = .returned .nilIface ∧ Hid (Below wp.heap.size wp w')) := Lib.hid (fun W b hW hc => by
    refine (begin_noworld b _ W hc).mono ?_
    rintro e w' ⟨he, hb⟩
    exact ⟨he, Lib.hid (hW.trans (hb.mono hW.size))⟩)
  have K5 : Hid (∀ W, Below wp.heap.size wp W → Calls Tryz.prog 14 #[.pointer (some ⟨w.heap.size + 1, 0, none⟩), .agg #[.int .i64 3, .string ⟨#[97]⟩, .string ⟨#[]⟩, .int .i64 0]] W fun e w' => e = .returned .nilIface ∧ Hid (Below wp.heap.size wp w')) := Lib.hid (fun W hW => by
    refine (begin_empty_nil (hAp.below hW) hg 3 ⟨#[97]⟩ (fun S _ => ask_3 W S)).mono ?_
    rintro e w' ⟨he, hb⟩
    exact ⟨he, Lib.hid (hW.trans (hb.mono hW.size))⟩)
  have K6 : Hid (∀ W, Below wp.heap.size wp W → Calls Tryz.prog 14 #[.pointer (some ⟨w.heap.size + 1, 0, none⟩), .agg #[.int .i64 1, .string ⟨#[97, 46, 46, 98]⟩, .string ⟨#[]⟩, .int .i64 0]] W fun e w' => e = .returned .nilIface ∧ Hid (Below wp.heap.size wp w')) := Lib.hid (fun W hW => by
    refine (begin_empty_nil (hAp.below hW) hg 1 ⟨#[97, 46, 46, 98]⟩ (fun S hS => ask_ab W (mb_of (hg.below (hAp.bel.trans (hW.mono hAp.bel.size)))) S hS)).mono ?_
    rintro e w' ⟨he, hb⟩
    exact ⟨he, Lib.hid (hW.trans (hb.mono hW.size))⟩)
  have K7 : Hid (∀ W, Below wp.heap.size wp W → Calls Tryz.prog 26 #[.iface t u] W fun e w' => e = .returned (.int .i64 2) ∧ Hid (Below wp.heap.size wp w')) := Lib.hid (fun W hW => by
    refine (code0_any W [dnsB] 2 (.iface t u) (hEp.below hW) (by decide)).mono ?_
    rintro e w' ⟨he, hb⟩
    exact ⟨by rw [he]; rfl, Lib.hid (hW.trans (hb.mono hW.size))⟩)
  rw [hwp]
  clear hwp hb6 hA5 hAp hEp hg hgp h5 HA5 HE5 HA4 HPo HBg HSt HN HRv
  go_wp2_with (first
    | (go_at_call 7; with_reducible refine (K1.out _ X0.out).mono ?_; rintro e y1 ⟨rfl, X1⟩)
    | (go_at_call 14; with_reducible refine (K2.out _ X1.out).mono ?_; rintro e y2 ⟨rfl, X2⟩)
    | (go_at_call 12; with_reducible refine (K3.out _ X2.out).mono ?_; rintro e y3 ⟨bq, rfl, hq, X3⟩)
    | (go_at_call 14; with_reducible refine (K4.out _ bq X3.out hq.out).mono ?_; rintro e y4 ⟨rfl, X4⟩)
    | (go_at_call 14; with_reducible refine (K5.out _ X4.out).mono ?_; rintro e y5 ⟨rfl, X5⟩)
    | (go_at_call 14; with_reducible refine (K6.out _ X5.out).mono ?_; rintro e y6 ⟨rfl, X6⟩)
    | (go_at_call 26; with_reducible refine (K7.out _ X6.out).mono ?_; rintro e y7 ⟨rfl, X7⟩))
  go_ret
  exact ⟨rfl, HB0.out.trans (X7.out.mono HB0.out.size)⟩
end Go.Proofs.YtogdkmkganpaaaaGreatDoor

namespace Go.Proofs.YtogdkmkganpaaaaGreatDoor
open Go.RowKit Go.Lib Go.Tx Go.Ev Go.Fr Go.ChangeShapes
theorem maxAt (W : World) (hsh : W.ShapedOpen Tryz.prog) : ∃ m, W.cell? ⟨0, 0, none⟩ = some (.int .i64 m) :=
  cell_of_shapedOpen_int (P := Tryz.prog) (g := 0) (t := 3) (zero := #[.int .i64 0]) hsh (of_decide_eq_true (by kernel_rfl)) (by kernel_rfl) rfl (by kernel_rfl) (by kernel_rfl) Tryz.underlying3
theorem err_of {W : World} {g tp b o : Nat} {G : Nat → Option (List AV)} (hG : GloOK (Bas.of W) G) (h : G g = some [.iface tp (.glob b o)]) : ErrAt g W := by
  obtain ⟨_, arr, elem, fr, h1, vs, hv, hc⟩ := hG g _ h
  obtain ⟨v, hv1, hv2⟩ := hv.get 0 _ rfl
  have h3 := hc 0 v hv1
  refine ⟨v, ?_, ?_⟩
  · unfold World.cell?
    have h1' : W.heap[g]? = some (.cells arr elem fr) := h1
    rw [h1']
    simpa using h3
  · simp only [VR] at hv2
    obtain ⟨v', e, _⟩ := hv2
    exact .inr ⟨_, _, e⟩
theorem glo_only (W : World) (hL : laidMetH Tryz.prog laidL W) (hsh : W.ShapedOpen Tryz.prog) : GloAt W ∧ MaxAt W := by
  obtain ⟨b1, o1, b2, o2, hE⟩ := eok W hL hsh
  exact ⟨⟨maxAt W hsh, err_of hE.glo (b := b2) (o := o2) rfl, err_of hE.glo (b := b1) (o := o1) rfl⟩, maxAt W hsh⟩
end Go.Proofs.YtogdkmkganpaaaaGreatDoor

