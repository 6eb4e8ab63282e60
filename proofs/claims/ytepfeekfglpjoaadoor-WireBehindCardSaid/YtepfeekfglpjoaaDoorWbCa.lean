/- Contracts and plain facts that the law leans on. -/
import Derived.Test.YtepfeekfglpjoaaDoorWsCc
import Derived.Test.YtepfeekfglpjoaaDoorWsCe
import Derived.Test.YtepfeekfglpjoaaDoorWsCa
import Derived.Laws.AppendOwnNone
import Derived.Laws.BitsAllLaws
namespace Go.Proofs.YtepfeekfglpjoaaDoor
open Go.RowKit Go.Lib Go.Wi Go.Tx
theorem set8_any {w : World} {b : Nat} {y0 y1 y2 y3 y4 y5 y6 y7 : Value} (h : At8 w b #[y0, y1, y2, y3, y4, y5, y6, y7]) (x0 x1 x2 x3 x4 x5 x6 x7 : Value) : At8 (set8 w b x0 x1 x2 x3 x4 x5 x6 x7) b #[x0, x1, x2, x3, x4, x5, x6, x7] := by
  have h8 := (((((((h.set 0 x0).set 1 x1).set 2 x2).set 3 x3).set 4 x4).set 5 x5).set 6 x6).set 7 x7
  have e : (((((((#[y0, y1, y2, y3, y4, y5, y6, y7].setIfInBounds 0 x0).setIfInBounds 1 x1).setIfInBounds 2 x2).setIfInBounds 3 x3).setIfInBounds 4 x4).setIfInBounds 5 x5).setIfInBounds 6 x6).setIfInBounds 7 x7 = #[x0, x1, x2, x3, x4, x5, x6, x7] := by simp
  rw [e] at h8
  exact h8
theorem bytes_same (s : ByteArray) : (⟨s.data.toList.toArray⟩ : ByteArray) = s := by cases s; simp
/-- Records that may be written read as what is read back. -/
theorem rec_same {B : Nat} {w : World} {v : Value} {R : List WRec} (h : WRecC B w v R) (hok : ∀ y ∈ R, y.ok = true) : RecC B w v (R.map toRec) := by
  unfold RecC
  have e : (R.map toRec).flatMap recCells = R.flatMap wCells := by
    clear h
    induction R with
    | nil => rfl
    | cons y R ih =>
      rw [List.map_cons, List.flatMap_cons, List.flatMap_cons, ih (fun z hz => hok z (by simp [hz]))]
      congr 1
      have hy := hok y (by simp)
      obtain ⟨nm, k, t, d⟩ := y
      unfold WRec.ok recOK subOK wordOK lifeOK at hy
      simp only [Bool.and_eq_true, decide_eq_true_eq] at hy
      obtain ⟨⟨⟨_, hk, _⟩, ht, _⟩, _⟩ := hy
      have ek : ((k.toNat : Nat) : Int) = k := by omega
      have et : ((t.toNat : Nat) : Int) = t := by omega
      unfold recCells toRec wCells
      simp only [bytes_same, ek, et]
  rw [e, List.length_map]
  exact h
theorem enc_facts {i c k : Int} {r q x : Bool} {n : List UInt8} {rs : List WRec} (hok : encOK i c r q x n k rs = true) : ((i.toNat : Nat) : Int) = i ∧ ((c.toNat : Nat) : Int) = c ∧ ((k.toNat : Nat) : Int) = k ∧ (∀ y ∈ rs, y.ok = true) ∧ rs.length ≤ 32 := by
  have hm := hok
  rw [encOK_may] at hm
  unfold mayB headMay at hm
  simp only [Bool.and_eq_true, decide_eq_true_eq] at hm
  exact ⟨by omega, by omega, by omega, fun y hy => List.all_eq_true.1 hm.1.2 y hy, by omega⟩
/-- The message that was cut, and what is read back: the document's Eq is true. -/
theorem eq_back {i c k : Int} {r q x : Bool} {nm : ByteArray} {R : List WRec} (hok : encOK i c r q x nm.data.toList k R = true) (v1 v2 : Value) (B1 B2 : Nat) (w : World) (h1 : RecC B1 w v1 (R.map toRec)) (h2 : RecC B2 w v2 (R.map toRec)) :
    Calls Tryd.prog 14 #[.agg #[.int .i64 i, .bool r, .bool q, .bool x, .int .i64 c, .string nm, .int .i64 k, v1], .agg #[.int .i64 i, .bool r, .bool q, .bool x, .int .i64 c, .string nm, .int .i64 k, v2]] w fun e w' => e = .returned (.bool true) ∧ Below w.heap.size w w' := by
  obtain ⟨e1, e2, e3, _, h32⟩ := enc_facts hok
  have h := eq_any (msgOf i c r q x nm.data.toList k R) v1 v2 B1 B2 w h1 h2 (by show (R.map toRec).length ≤ _; rw [List.length_map]; omega)
  unfold Msg.val msgOf at h
  simp only [e1, e2, e3, bytes_same] at h
  exact h
/-- What was written, whatever follows, is read by the program. -/
theorem dec_back {i c k : Int} {r q x : Bool} {nm : ByteArray} {R : List WRec} (hok : encOK i c r q x nm.data.toList k R = true) {l : List UInt8} (hl : decW l = some (msgOf i c r q x nm.data.toList k R)) (a : Option Addr) (n c' : Nat) (w : World) (h : BA w a n c' l) (hold : ∀ x, a = some x → x.block < w.heap.size) (hm : MaxAt w) :
    Calls Tryd.prog 13 #[.slice a n c'] w fun e w' => ∃ p cc, e = .returned (.tuple #[.agg #[.int .i64 i, .bool r, .bool q, .bool x, .int .i64 c, .string nm, .int .i64 k, .slice p R.length cc], .nilIface]) ∧ RecC w.heap.size w' (.slice p R.length cc) (R.map toRec) ∧ Below w.heap.size w w' := by
  obtain ⟨e1, e2, e3, _, h32⟩ := enc_facts hok
  refine (decode_any a n c' l w h hold hm).mono ?_
  rintro e w' ⟨hb, hx⟩
  rw [hl] at hx
  obtain ⟨v, he, hr⟩ := hx
  have hr2 : RecC w.heap.size w' v (R.map toRec) := hr
  obtain ⟨p, cc, rfl⟩ := slice_of hr2
  rw [List.length_map] at hr2 he
  unfold Msg.val msgOf at he
  simp only [e1, e2, e3, bytes_same] at he
  exact ⟨p, cc, he, hr2, hb⟩
end Go.Proofs.YtepfeekfglpjoaaDoor

namespace Go.Proofs.YtepfeekfglpjoaaDoor
open Go.RowKit Go.Lib Go.Wi Go.Tx
theorem ba_bel {w w' : World} {a : Option Addr} {n c : Nat} {l : List UInt8} (h : BA w a n c l) (hb : Below w.heap.size w w') : BA w' a n c l :=
  ⟨h.len, h.cap, h.max, h.none, fun x hx j b hj => by
    have hc := h.cell x hx j b hj
    have hlt : (x.add j).block < w.heap.size := by
      unfold World.cell? at hc
      split at hc
      · rename_i hh
        exact (Array.getElem?_eq_some_iff.1 hh).1
      · cases hc
    rw [hb.cell hlt]
    exact hc⟩
/-- Bytes that came in. -/
theorem ba_of_ints {W : World} {a : Option Addr} {n c : Nat} {zs : List Int} (h : Go.Sl.IsInts .u8 W a n c zs) : ∃ l, BA W a n c l := by
  rcases h with ⟨rfl, rfl, rfl, rfl⟩ | ⟨x, rfl, h1, h2, h3, h4, h5⟩
  · exact ⟨[], rfl, Nat.le_refl _, by omega, fun _ => rfl, fun x hx => by cases hx⟩
  · refine ⟨(zs.take n).map fun z => UInt8.ofNat z.toNat, by simp; omega, h1, by unfold maxLen at h2; omega, (fun h => by cases h), fun y hy j b hj => ?_⟩
    cases hy
    rw [List.getElem?_map] at hj
    obtain ⟨z, hz, rfl⟩ := Option.map_eq_some_iff.1 hj
    rw [List.getElem?_take] at hz
    split at hz
    · have hjl := (List.getElem?_eq_some_iff.1 hz).1
      have hc := h4 j hjl
      rw [List.getD_eq_getElem?_getD, hz] at hc
      have hw := h5 z (List.mem_of_getElem? hz)
      have hw2 : 0 ≤ z ∧ z ≤ 255 := by simpa [Lit.wf, IntKind.wrap, IntKind.bits, IntKind.signed, IntKind.min, IntKind.max] using hw
      rw [hc]
      have : ((UInt8.ofNat z.toNat).toNat : Int) = z := by rw [UInt8.toNat_ofNat_of_lt' (by show z.toNat < 256; omega)]; omega
      rw [this]
      rfl
    · cases hz
theorem short_any (a : Option Addr) (n c m : Nat) (hm2 : m ≤ 1000000) (hc : n ≤ c) (_hm : c ≤ 9223372036854775807) : ∃ n', n' ≤ n ∧ n' ≤ m ∧ ∀ w : World, Calls Tryd.prog 15 #[.slice a n c, .int .i64 m] w fun e w' => e = .returned (.slice a n' c) ∧ w = w' := by
  by_cases h : n ≤ m
  · refine ⟨n, Nat.le_refl _, h, fun w => ?_⟩
    go_enter Tryd.func15, Tryd.ntmps15
    go_wp2
    go_ret
    exact ⟨rfl, rfl⟩
  · have h : m < n := by omega
    refine ⟨m, by omega, Nat.le_refl _, fun w => ?_⟩
    go_enter Tryd.func15, Tryd.ntmps15
    go_wp2
    go_ret
    exact ⟨rfl, rfl⟩
theorem wpList_append_ba {w : World} {ops : Array Oper} {rest : List Oper} {o : Oper} {a : Act} {Q : Exit → Act → World → Prop} (hgd : o.guard = none) (s x : Operand)
    (ho : o.op = .call { callee := .builtin .append, args := #[s, x], argTypes := #[29, 29] }) {B : Nat} {v : Value} {p : Option Addr} {n c N : Nat} {l m : List UInt8} (hs : a.eval s = v) (hx : a.eval x = .slice p n c) (hown : OwnB B w v l) (hsrc : BA w p n c m)
    (hN : l.length + n = N) (hlen : N ≤ 1000000) (hB : B ≤ w.heap.size) (h : ∀ p' c' w', OwnB B w' (.slice p' N c') (l ++ m) → Below B w w' → wpList Tryd.prog ops Q rest (a.put o.dst (.slice p' N c')) w') : wpList Tryd.prog ops Q (o :: rest) a w := by
  obtain ⟨i8, hi, hz0, hz1, hz2⟩ := info_parts infoU8
  have hml := hsrc.len
  subst hN
  cases p with
  | none =>
    have hc0 := hsrc.none rfl
    have hn0 : n = 0 := by have := hsrc.cap; omega
    subst hc0 hn0
    have hm0 : m = [] := List.length_eq_zero_iff.1 hml
    subst hm0
    obtain ⟨p', c', rfl⟩ := own_shape hown
    exact wpList_append_own_none hgd s x 29 ho B 5 i8 1 Tryd.underlying29 hi _ l.length (l.map u8V) hs hown hx (h p' c' w (by rw [List.append_nil]; exact hown) (Below.refl B w))
  | some ad =>
    refine wpList_append_own w hgd s x 29 ho B 5 i8 (.int .u8 0) 1 1 Tryd.underlying29 hi hz0 hz1 hz2 rfl (by decide) v l.length (l.map u8V) hs hown ad n c (m.map u8V) hx (by simp [hml]) (fun j u hj => ?_) ?_ (by unfold maxLen; omega) (by omega) hB fun v' w' h1 h2 h3 => ?_
    · rw [List.getElem?_map] at hj
      obtain ⟨b, hb, rfl⟩ := Option.map_eq_some_iff.1 hj
      exact hsrc.cell ad rfl j b hb
    · intro u hu
      obtain ⟨b, _, rfl⟩ := List.mem_map.1 hu
      rfl
    · obtain ⟨p', c', rfl⟩ := own_shape h1
      refine h p' c' w' ?_ ?_
      · unfold OwnB
        rw [List.length_append, List.map_append, hml]
        exact h1
      · exact (Below.refl B w).grown h2 hB (fun g hg => (World.ownsRow.lt hown g hg).1)
theorem xor_byte (a : UInt8) (z : Int) (h0 : 0 ≤ z) (h1 : z ≤ 255) : ∃ b : UInt8, bits .xor .u8 (a.toNat : Int) z = (b.toNat : Int) := by
  obtain ⟨m, rfl⟩ : ∃ m : Nat, z = m := ⟨z.toNat, by omega⟩
  have ha := a.toNat_lt
  refine ⟨a ^^^ UInt8.ofNat m, ?_⟩
  rw [u8_xor_nat a.toNat m (by omega) (by omega), UInt8.toNat_xor, UInt8.toNat_ofNat_of_lt' (by show m < 256; omega)]
theorem wf_u8 {z : Int} (h : (Lit.int .u8 z).wf = true) : 0 ≤ z ∧ z ≤ 255 := by simpa [Lit.wf, IntKind.wrap, IntKind.bits, IntKind.signed, IntKind.min, IntKind.max] using h
theorem wf_i64 {z : Int} (h : (Lit.int .i64 z).wf = true) : -9223372036854775808 ≤ z ∧ z ≤ 9223372036854775807 := by simpa [Lit.wf, IntKind.wrap, IntKind.bits, IntKind.signed, IntKind.min, IntKind.max] using h
/-- One byte turned. -/
theorem own_turn {B : Nat} {w : World} {g N c : Nat} {l : List UInt8} (h : OwnB B w (.slice (some ⟨g, 0, none⟩) N c) l) (hN : l.length = N) (j : Nat) (hj : j < N) (b : UInt8) : OwnB B (w.setCell ⟨g, j, none⟩ (.int .u8 (b.toNat : Int))) (.slice (some ⟨g, 0, none⟩) N c) (l.set j b) := by
  subst hN
  rcases h with ⟨h1, ⟨h2, _⟩ | ⟨g', cap, cur, a, h3, h4, h5, h6, h7, h8⟩⟩
  · cases h2
  · cases a
    refine ⟨by simp, .inr ⟨g, c, cur.setIfInBounds j (.int .u8 (b.toNat : Int)), by rw [List.length_set], h3, block_set h4 _, by rw [List.length_set]; exact h5, h6, by rw [Array.size_setIfInBounds]; exact h7, ?_⟩⟩
    rw [Array.toList_setIfInBounds, List.length_set, Nat.mul_one, List.take_set, List.map_set, ← h8, Nat.mul_one]
    rfl
end Go.Proofs.YtepfeekfglpjoaaDoor

namespace Go.Proofs.YtepfeekfglpjoaaDoor
open Go.RowKit Go.Lib Go.Wi Go.Tx
theorem ba_take2 {w : World} {a : Option Addr} {n c : Nat} {l : List UInt8} (h : BA w a n c l) {m : Nat} (hm : m ≤ n) : BA w a m c (l.take m) :=
  ⟨by rw [List.length_take, h.len]; omega, Nat.le_trans hm h.cap, h.max, h.none, fun x hx j b hj => by
    by_cases hjm : j < m
    · rw [List.getElem?_take_of_lt hjm] at hj
      exact h.cell x hx j b hj
    · rw [List.getElem?_eq_none (by rw [List.length_take]; omega)] at hj
      cases hj⟩
theorem own_bytes {B : Nat} {w : World} {p : Option Addr} {N c : Nat} {l : List UInt8} (h : OwnB B w (.slice p N c) l) (hN : l.length = N) : BA w p N c l ∧ ∀ y, p = some y → y.block < w.heap.size := by
  by_cases h0 : 0 < l.length
  · obtain ⟨g, gc, e, hg, hba⟩ := own_ba h h0
    cases e
    exact ⟨hN ▸ hba, fun y hy => by cases hy; exact hg⟩
  · have hl : l = [] := List.length_eq_zero_iff.1 (by omega)
    subst hl
    subst hN
    rcases h with ⟨_, ⟨h2, _⟩ | ⟨g', cap, cur, a, h3, h4, h5, h6, h7, h8⟩⟩
    · cases h2
      exact ⟨⟨rfl, Nat.le_refl _, by omega, fun _ => rfl, fun x hx j b hj => by simp at hj⟩, fun y hy => by cases hy⟩
    · cases a
      exact ⟨⟨rfl, Nat.zero_le _, by unfold maxLen at h6; omega, (fun e => by cases e), fun x hx j b hj => by simp at hj⟩, fun y hy => by cases hy; exact (Array.getElem?_eq_some_iff.1 h4).1⟩
theorem own_free {B : Nat} {w : World} {g N c : Nat} {l : List UInt8} (h : OwnB B w (.slice (some ⟨g, 0, none⟩) N c) l) (j : Nat) : w.frozen? ⟨g, j, none⟩ = false := by
  rcases h with ⟨_, ⟨h2, _⟩ | ⟨g', cap, cur, a, h3, h4, h5, h6, h7, h8⟩⟩
  · cases h2
  · cases a
    exact free_of h4 j
theorem recsW_len {l : List UInt8} {st : Option Nat} : ∀ {k : Nat} {q : List Rec × Nat}, recsW l st k = some q → q.1.length = k
  | 0, q, h => by
    unfold recsW at h
    obtain ⟨j, _, rfl⟩ := Option.map_eq_some_iff.1 h
    rfl
  | k + 1, q, h => by
    unfold recsW at h
    rw [Option.bind_eq_some_iff] at h
    obtain ⟨a, ha, hb⟩ := h
    rw [Option.map_eq_some_iff] at hb
    obtain ⟨x, hx, hq⟩ := hb
    rw [← hq, List.length_append, recsW_len ha]
    rfl
theorem dec_few {l : List UInt8} {M : Msg} (h : decW l = some M) : M.recs.length ≤ 32 := by
  rw [decW_E] at h
  split at h
  · obtain ⟨q, hq, rfl⟩ := Option.map_eq_some_iff.1 h
    unfold decE at hq
    split at hq
    · cases hq
    · split at hq
      · cases hq
      · rename_i hc
        rw [Option.bind_eq_some_iff] at hq
        obtain ⟨a, _, hb⟩ := hq
        rw [Option.map_eq_some_iff] at hb
        obtain ⟨x, hx, rfl⟩ := hb
        show x.1.length ≤ 32
        rw [recsW_len hx]
        omega
  · cases h
def zM0 : Msg := ⟨0, false, false, false, 0, [], 0, []⟩
set_option maxHeartbeats 4000000 in
set_option maxRecDepth 100000 in
theorem wireDecode_walk (i c k : Int) (r q x : Bool) (s : ByteArray) (a : Option Addr) (n cap : Nat) (rs0 : List WRec) (a1 z2 : Int) (a3 : Option Addr) (n3 c3 : Nat) (l3 : List UInt8) (W : World) (hs : s.size ≤ maxLen) (hrs : InRecs W a n cap rs0) (w1 : (Lit.int .i64 a1).wf = true) (w2 : (Lit.int .u8 z2).wf = true) (hraw : BA W a3 n3 c3 l3) (hm : MaxAt W) :
    Calls Tryd.prog 4 #[.agg #[.int .i64 i, .bool r, .bool q, .bool x, .int .i64 c, .string s, .int .i64 k, .slice a n cap], .int .i64 a1, .int .u8 z2, .slice a3 n3 c3] W fun e w' => e = .returned (.bool true) ∧ Below W.heap.size W w' := by
  have HM := Lib.hid hm
  obtain ⟨R, hR⟩ : ∃ R, (rs0.take 35).map cutRec = R := ⟨_, rfl⟩
  obtain ⟨nm, hnm⟩ : ∃ t, cutB s = t := ⟨_, rfl⟩
  obtain ⟨z, hz⟩ : ∃ z, R.length = z := ⟨_, rfl⟩
  have hRs : ∀ y ∈ R, y.name.size ≤ 300 ∧ y.data.size ≤ 300 := by
    rw [← hR]
    intro y hy
    obtain ⟨y0, _, rfl⟩ := List.mem_map.1 hy
    exact ⟨cutB_size _, cutB_size _⟩
  have hnm3 : nm.size ≤ 300 := hnm ▸ cutB_size s
  have HBg : Hid (∀ V, Below W.heap.size W V → Calls Tryd.prog 8 #[] V fun e w' => e = .returned (.bool true) ∧ Below V.heap.size V w') := Lib.hid fun V h => begun5_any V (hm.below h)
  have HCut : Hid (∀ V, Below W.heap.size W V → Calls Tryd.prog 9 #[.agg #[.int .i64 i, .bool r, .bool q, .bool x, .int .i64 c, .string s, .int .i64 k, .slice a n cap]] V fun e w' => ∃ p cc, e = .returned (.agg #[.int .i64 i, .bool r, .bool q, .bool x, .int .i64 c, .string nm, .int .i64 k, .slice p z cc]) ∧ WRecC V.heap.size w' (.slice p z cc) R ∧ Below V.heap.size V w') := Lib.hid fun V h => by
    have := mcut_any i c k r q x s a n cap rs0 V hs (hrs.below h)
    rw [hR, hnm, hz] at this
    exact this
  have HEncR : Hid (∀ V p cc B, WRecC B V (.slice p z cc) R → Calls Tryd.prog 10 #[.agg #[.int .i64 i, .bool r, .bool q, .bool x, .int .i64 c, .string nm, .int .i64 k, .slice p z cc]] V fun e w' => Below V.heap.size V w' ∧ ((encOK i c r q x nm.data.toList k R = true ∧ ∃ v, e = .returned v ∧ OwnB V.heap.size w' v (msgB i c r q x nm.data.toList k R)) ∨ (encOK i c r q x nm.data.toList k R = false ∧ e = .returned (.slice none 0 0)))) := Lib.hid fun V p cc B h => rencode_any i c k r q x nm (.slice p z cc) R V h.rows (by omega) (fun y hy => by have := hRs y hy; omega)
  have HB1 : Hid (Below W.heap.size W (W.alloc (.cells #[.int .i64 i, .bool r, .bool q, .bool x, .int .i64 c, .string s, .int .i64 k, .slice a n cap] 26))) := Lib.hid ((Below.refl _ W).alloc (Nat.le_refl _) _)
  have HA1 : Hid (At8 (W.alloc (.cells #[.int .i64 i, .bool r, .bool q, .bool x, .int .i64 c, .string s, .int .i64 k, .slice a n cap] 26)) W.heap.size #[.int .i64 i, .bool r, .bool q, .bool x, .int .i64 c, .string s, .int .i64 k, .slice a n cap]) := Lib.hid (heap_alloc_new W _)
  obtain ⟨hw1, hw1b⟩ := wf_i64 w1
  obtain ⟨hw2, hw2b⟩ := wf_u8 w2
  obtain ⟨k3, hk3, hk3b, HSh0⟩ := short_any a3 n3 c3 200 (by omega) hraw.cap hraw.max
  have HSh := Lib.hid HSh0
  have HRaw : Hid (∀ V, Below W.heap.size W V → BA V a3 k3 c3 (l3.take k3)) := Lib.hid fun V h => ba_bel (ba_take2 hraw hk3) h
  have HEn : Hid (∀ V p cc B, WRecC B V (.slice p z cc) R → Calls Tryd.prog 10 #[.agg #[.int .i64 i, .bool r, .bool q, .bool x, .int .i64 c, .string nm, .int .i64 k, .slice p z cc]] V fun e w' => ∃ D p4 N4 c4, e = .returned (.slice p4 N4 c4) ∧ D.length = N4 ∧ N4 ≤ 4096 ∧ OwnB V.heap.size w' (.slice p4 N4 c4) D ∧ Below V.heap.size V w') := Lib.hid fun V p cc B h => (HEncR.out V p cc B h).mono (by
    rintro e w' ⟨hb, ⟨hok, v, he, ho⟩ | ⟨_, he⟩⟩
    · obtain ⟨p4, c4, rfl⟩ := own_shape ho
      exact ⟨_, p4, _, c4, he, rfl, (enc_len hok).1, ho, hb⟩
    · exact ⟨[], none, 0, 0, he, rfl, Nat.zero_le _, World.ownsRow_nil _ _ _ _, hb⟩)
  have hq1 := hraw.cap
  have hq2 := hraw.max
  clear hm hs hrs hR hnm hRs hnm3 hz w1 w2 hraw HSh0
  go_enter Tryd.func4, Tryd.ntmps4
  go_upto_region 1 with (fail)
  obtain ⟨bm, hbm⟩ : ∃ b, W.heap.size = b := ⟨_, rfl⟩
  have HBm := Lib.hid hbm
  rw [hbm] at HA1 ⊢
  clear hbm
  generalize W.alloc (.cells #[.int .i64 i, .bool r, .bool q, .bool x, .int .i64 c, .string s, .int .i64 k, .slice a n cap] 26) = W1 at *
  go_upto_region 4 with (go_at_call 8; refine (HBg.out _ HB1.out).mono ?_; rintro e w2 ⟨rfl, hb2⟩; have HB2 := Lib.hid (HB1.out.trans (hb2.mono HB1.out.size)); have HA2 := Lib.hid (HA1.out.bel hb2); clear hb2)
  have n0 := HA2.out.cell (j := 0) rfl
  have n1 := HA2.out.cell (j := 1) rfl
  have n2 := HA2.out.cell (j := 2) rfl
  have n3 := HA2.out.cell (j := 3) rfl
  have n4 := HA2.out.cell (j := 4) rfl
  have n5 := HA2.out.cell (j := 5) rfl
  have n6 := HA2.out.cell (j := 6) rfl
  have n7 := HA2.out.cell (j := 7) rfl
  go_upto_region 5 with (first | (go_at_call 9; refine (HCut.out _ HB2.out).mono ?_; rintro e w3 ⟨p, cc, rfl, hrc, hb3⟩; have HEnc := Lib.hid (HEn.out w3 p cc _ hrc); have HB3 := Lib.hid (HB2.out.trans (hb3.mono HB2.out.size)); clear hrc hb3) | (go_at_call 10; refine HEnc.out.mono ?_; rintro e w4 ⟨D, p4, N4, c4, rfl, hD, hN4, hOw, hb4⟩; have HB4 := Lib.hid (HB3.out.trans (hb4.mono HB3.out.size)); have HOw := Lib.hid hOw; have HW34 := Lib.hid hb4.size; clear hb4 hOw))
  have HD := Lib.hid hD
  have HRw := Lib.hid (HRaw.out w4 HB4.out)
  have hW4 : W.heap.size ≤ w4.heap.size := HB4.out.size
  clear hD n0 n1 n2 n3 n4 n5 n6 n7
  go_upto_region 6 with (first | (go_at_call 15; refine (HSh.out _).mono ?_; rintro e w5 ⟨rfl, rfl⟩) | (at_builtin; go_loud (refine wpList_append_ba rfl _ _ rfl (B := w3.heap.size) (N := N4 + k3) rfl rfl HOw.out HRw.out (by rw [HD.out]) (by omega) (by have := HOw; exact HW34.out) ?_; intro p5 c5 w5 hO5 hb5; have HO5 := Lib.hid hO5; have HB5 := Lib.hid hb5; clear hO5 hb5)))
  have hW3 : W.heap.size ≤ w3.heap.size := HB3.out.size
  have HW5 : Hid (Below W.heap.size W w5) := Lib.hid (HB4.out.trans (HB5.out.mono hW3))
  obtain ⟨l5, hl5⟩ : ∃ l, D ++ l3.take k3 = l := ⟨_, rfl⟩
  obtain ⟨N, hN⟩ : ∃ m, N4 + k3 = m := ⟨_, rfl⟩
  have hlen : l5.length = N := by rw [← hl5, List.length_append, HD.out, HRw.out.len, hN]
  have hNmax : N ≤ 4296 := by omega
  rw [hl5, hN] at HO5
  rw [hN]
  have hbytes := own_bytes HO5.out hlen
  have hc5 := hbytes.1.cap
  have hc5b := hbytes.1.max
  have HBy := Lib.hid hbytes
  have HLen := Lib.hid hlen
  clear hl5 hN hlen hbytes HOw HRw HB5
  by_cases h0 : N = 0
  · have hn0 : ¬ (0 : Int) < (N : Int) := by omega
    clear h0
    have HW6 := HW5
    have HBa : Hid (∀ V, Below w5.heap.size w5 V → BA V p5 N c5 l5 ∧ ∀ y, p5 = some y → y.block < V.heap.size) := Lib.hid fun V hV => ⟨ba_bel HBy.out.1 hV, fun y hy => Nat.lt_of_lt_of_le (HBy.out.2 y hy) hV.size⟩
    go_upto_region 10 with (fail)
    clear hn0
    generalize w5 = w6 at *
    cases hd : decW l5 with
    | none =>
      have HD1 : Hid (Calls Tryd.prog 13 #[.slice p5 N c5] w6 fun e w' => e = .returned (.tuple #[.agg #[.int .i64 0, .bool false, .bool false, .bool false, .int .i64 0, .string ⟨#[]⟩, .int .i64 0, .slice none 0 0], badV]) ∧ Below w6.heap.size w6 w') := Lib.hid ((decode_any _ _ _ _ w6 (HBa.out w6 (Below.refl _ _)).1 (HBa.out w6 (Below.refl _ _)).2 (HM.out.below HW6.out)).mono (by
        rintro e w' ⟨hb, hx⟩
        rw [hd] at hx
        exact ⟨hx, hb⟩))
      have HD2 : Hid (∀ V, Below w6.heap.size w6 V → Calls Tryd.prog 16 #[.slice p5 N c5] V fun e w' => e = .returned (.tuple #[.agg #[.int .i64 0, .bool false, .bool false, .bool false, .int .i64 0, .string ⟨#[]⟩, .int .i64 0, .slice none 0 0], .bool false]) ∧ Below V.heap.size V w') := Lib.hid fun V hV => (xdecode_any _ _ _ _ V (HBa.out V hV).1 (HBa.out V hV).2).mono (by
        rintro e w' ⟨hb, hx⟩
        rw [← decW_eq, hd] at hx
        exact ⟨hx, hb⟩)
      have HEq : Hid (∀ V, Calls Tryd.prog 14 #[.agg #[.int .i64 0, .bool false, .bool false, .bool false, .int .i64 0, .string ⟨#[]⟩, .int .i64 0, .slice none 0 0], .agg #[.int .i64 0, .bool false, .bool false, .bool false, .int .i64 0, .string ⟨#[]⟩, .int .i64 0, .slice none 0 0]] V fun e w' => e = .returned (.bool true) ∧ Below V.heap.size V w') := Lib.hid fun V => eq_any zM0 (.slice none 0 0) (.slice none 0 0) 0 0 V (World.ownsRow_nil _ _ _ _) (World.ownsRow_nil _ _ _ _) (by decide)
      clear hd
      go_upto_region 11 with (go_at_call 13; refine HD1.out.mono ?_; rintro e w7 ⟨rfl, hb7⟩)
      have hb78 : Below w7.heap.size w7 (w7.alloc (.cells #[.int .i64 0, .bool false, .bool false, .bool false, .int .i64 0, .string ⟨#[]⟩, .int .i64 0, .slice none 0 0] 26)) := (Below.refl _ w7).alloc (Nat.le_refl _) _
      have hb68 : Below w6.heap.size w6 (w7.alloc (.cells #[.int .i64 0, .bool false, .bool false, .bool false, .int .i64 0, .string ⟨#[]⟩, .int .i64 0, .slice none 0 0] 26)) := hb7.trans (hb78.mono hb7.size)
      have HX1 : Hid (At8 (w7.alloc (.cells #[.int .i64 0, .bool false, .bool false, .bool false, .int .i64 0, .string ⟨#[]⟩, .int .i64 0, .slice none 0 0] 26)) w7.heap.size #[.int .i64 0, .bool false, .bool false, .bool false, .int .i64 0, .string ⟨#[]⟩, .int .i64 0, .slice none 0 0]) := Lib.hid (heap_alloc_new w7 _)
      have HD2b := Lib.hid (HD2.out _ hb68)
      have HW8 := Lib.hid (HW6.out.trans (hb68.mono HW6.out.size))
      obtain ⟨b1, hb1⟩ : ∃ q, w7.heap.size = q := ⟨_, rfl⟩
      rw [hb1] at HX1 ⊢
      clear hb7 hb78 hb68 HD1 HD2 hb1
      generalize w7.alloc (.cells #[.int .i64 0, .bool false, .bool false, .bool false, .int .i64 0, .string ⟨#[]⟩, .int .i64 0, .slice none 0 0] 26) = w8 at *
      go_upto_region 12 with (go_at_call 16; refine HD2b.out.mono ?_; rintro e w9 ⟨rfl, hb9⟩)
      have hb910 : Below w9.heap.size w9 (w9.alloc (.cells #[.int .i64 0, .bool false, .bool false, .bool false, .int .i64 0, .string ⟨#[]⟩, .int .i64 0, .slice none 0 0] 26)) := (Below.refl _ w9).alloc (Nat.le_refl _) _
      have hb810 : Below w8.heap.size w8 (w9.alloc (.cells #[.int .i64 0, .bool false, .bool false, .bool false, .int .i64 0, .string ⟨#[]⟩, .int .i64 0, .slice none 0 0] 26)) := hb9.trans (hb910.mono hb9.size)
      have HX2 := Lib.hid (HX1.out.bel hb810)
      have HY2 : Hid (At8 (w9.alloc (.cells #[.int .i64 0, .bool false, .bool false, .bool false, .int .i64 0, .string ⟨#[]⟩, .int .i64 0, .slice none 0 0] 26)) w9.heap.size #[.int .i64 0, .bool false, .bool false, .bool false, .int .i64 0, .string ⟨#[]⟩, .int .i64 0, .slice none 0 0]) := Lib.hid (heap_alloc_new w9 _)
      have HWx := Lib.hid (HW8.out.trans (hb810.mono HW8.out.size))
      have HE := Lib.hid (HEq.out (w9.alloc (.cells #[.int .i64 0, .bool false, .bool false, .bool false, .int .i64 0, .string ⟨#[]⟩, .int .i64 0, .slice none 0 0] 26)))
      obtain ⟨b2, hb2⟩ : ∃ q, w9.heap.size = q := ⟨_, rfl⟩
      rw [hb2] at HY2 ⊢
      clear hb9 hb910 hb810 hb2
      generalize w9.alloc (.cells #[.int .i64 0, .bool false, .bool false, .bool false, .int .i64 0, .string ⟨#[]⟩, .int .i64 0, .slice none 0 0] 26) = wx at *
      have x0 := HX2.out.cell (j := 0) rfl
      have x1 := HX2.out.cell (j := 1) rfl
      have x2 := HX2.out.cell (j := 2) rfl
      have x3 := HX2.out.cell (j := 3) rfl
      have x4 := HX2.out.cell (j := 4) rfl
      have x5 := HX2.out.cell (j := 5) rfl
      have x6 := HX2.out.cell (j := 6) rfl
      have x7 := HX2.out.cell (j := 7) rfl
      have y0 := HY2.out.cell (j := 0) rfl
      have y1 := HY2.out.cell (j := 1) rfl
      have y2 := HY2.out.cell (j := 2) rfl
      have y3 := HY2.out.cell (j := 3) rfl
      have y4 := HY2.out.cell (j := 4) rfl
      have y5 := HY2.out.cell (j := 5) rfl
      have y6 := HY2.out.cell (j := 6) rfl
      have y7 := HY2.out.cell (j := 7) rfl
      go_wp2_with (first | (go_at_call 12; refine (bad_yes _).mono ?_; rintro e wz ⟨rfl, rfl⟩) | (go_at_call 14; refine HE.out.mono ?_; rintro e wy ⟨rfl, hby⟩; have HBy := Lib.hid hby; clear hby))
      go_ret
      exact ⟨rfl, HWx.out.trans (HBy.out.mono HWx.out.size)⟩
    | some M =>
      have hfew := dec_few hd
      obtain ⟨mi, mr, mc, mw, mo, mn, mk, rs⟩ := M
      obtain ⟨n, hn⟩ : ∃ n, rs.length = n := ⟨_, rfl⟩
      have HD1 : Hid (Calls Tryd.prog 13 #[.slice p5 N c5] w6 fun e w' => ∃ q c, e = .returned (.tuple #[.agg #[.int .i64 (mi : Int), .bool mr, .bool mc, .bool mw, .int .i64 (mo : Int), .string ⟨mn.toArray⟩, .int .i64 (mk : Int), .slice q n c], .nilIface]) ∧ RecC w6.heap.size w' (.slice q n c) rs ∧ Below w6.heap.size w6 w') := Lib.hid ((decode_any _ _ _ _ w6 (HBa.out w6 (Below.refl _ _)).1 (HBa.out w6 (Below.refl _ _)).2 (HM.out.below HW6.out)).mono (by
        rintro e w' ⟨hb, hx⟩
        rw [hd] at hx
        obtain ⟨v, he, hrc⟩ := hx
        obtain ⟨q, c, rfl⟩ := slice_of hrc
        simp only [hn] at he hrc
        unfold Msg.val at he
        simp only [] at he
        exact ⟨q, c, he, hrc, hb⟩))
      have HD2 : Hid (∀ V, Below w6.heap.size w6 V → Calls Tryd.prog 16 #[.slice p5 N c5] V fun e w' => ∃ q c, e = .returned (.tuple #[.agg #[.int .i64 (mi : Int), .bool mr, .bool mc, .bool mw, .int .i64 (mo : Int), .string ⟨mn.toArray⟩, .int .i64 (mk : Int), .slice q n c], .bool true]) ∧ RecC V.heap.size w' (.slice q n c) rs ∧ Below V.heap.size V w') := Lib.hid fun V hV => (xdecode_any _ _ _ _ V (HBa.out V hV).1 (HBa.out V hV).2).mono (by
        rintro e w' ⟨hb, hx⟩
        rw [← decW_eq, hd] at hx
        obtain ⟨v, he, hrc⟩ := hx
        obtain ⟨q, c, rfl⟩ := slice_of hrc
        simp only [hn] at he hrc
        unfold Msg.val at he
        simp only [] at he
        exact ⟨q, c, he, hrc, hb⟩)
      have HEq : Hid (∀ V q1 c1 q2 c2 B1 B2, RecC B1 V (.slice q1 n c1) rs → RecC B2 V (.slice q2 n c2) rs → Calls Tryd.prog 14 #[.agg #[.int .i64 (mi : Int), .bool mr, .bool mc, .bool mw, .int .i64 (mo : Int), .string ⟨mn.toArray⟩, .int .i64 (mk : Int), .slice q1 n c1], .agg #[.int .i64 (mi : Int), .bool mr, .bool mc, .bool mw, .int .i64 (mo : Int), .string ⟨mn.toArray⟩, .int .i64 (mk : Int), .slice q2 n c2]] V fun e w' => e = .returned (.bool true) ∧ Below V.heap.size V w') := Lib.hid fun V q1 c1 q2 c2 B1 B2 h1 h2 => eq_any ⟨mi, mr, mc, mw, mo, mn, mk, rs⟩ (.slice q1 n c1) (.slice q2 n c2) B1 B2 V h1 h2 (by simp only at hfew; show rs.length ≤ _; omega)
      clear hd hn hfew
      obtain ⟨zi, hzi⟩ : ∃ z : Int, (mi : Int) = z := ⟨_, rfl⟩
      obtain ⟨zo, hzo⟩ : ∃ z : Int, (mo : Int) = z := ⟨_, rfl⟩
      obtain ⟨zk, hzk⟩ : ∃ z : Int, (mk : Int) = z := ⟨_, rfl⟩
      obtain ⟨zn, hzn⟩ : ∃ z : ByteArray, (⟨mn.toArray⟩ : ByteArray) = z := ⟨_, rfl⟩
      rw [hzi, hzo, hzk, hzn] at HD1
      simp only [hzi, hzo, hzk, hzn] at HD2 HEq
      clear hzi hzo hzk hzn
      go_upto_region 11 with (go_at_call 13; refine HD1.out.mono ?_; rintro e w7 ⟨q1, c1, rfl, hrc1, hb7⟩)
      have hb78 : Below w7.heap.size w7 (w7.alloc (.cells #[.int .i64 zi, .bool mr, .bool mc, .bool mw, .int .i64 zo, .string zn, .int .i64 zk, .slice q1 n c1] 26)) := (Below.refl _ w7).alloc (Nat.le_refl _) _
      have hb68 : Below w6.heap.size w6 (w7.alloc (.cells #[.int .i64 zi, .bool mr, .bool mc, .bool mw, .int .i64 zo, .string zn, .int .i64 zk, .slice q1 n c1] 26)) := hb7.trans (hb78.mono hb7.size)
      have HX1 : Hid (At8 (w7.alloc (.cells #[.int .i64 zi, .bool mr, .bool mc, .bool mw, .int .i64 zo, .string zn, .int .i64 zk, .slice q1 n c1] 26)) w7.heap.size #[.int .i64 zi, .bool mr, .bool mc, .bool mw, .int .i64 zo, .string zn, .int .i64 zk, .slice q1 n c1]) := Lib.hid (heap_alloc_new w7 _)
      have HD2b := Lib.hid (HD2.out _ hb68)
      have HW8 := Lib.hid (HW6.out.trans (hb68.mono HW6.out.size))
      have HRc1 := Lib.hid (own_bel (own_bel hrc1 hb78) (Below.refl _ _))
      clear hrc1
      obtain ⟨b1, hb1⟩ : ∃ q, w7.heap.size = q := ⟨_, rfl⟩
      rw [hb1] at HX1 ⊢
      clear hb7 hb78 hb68 HD1 HD2 hb1
      generalize w7.alloc (.cells #[.int .i64 zi, .bool mr, .bool mc, .bool mw, .int .i64 zo, .string zn, .int .i64 zk, .slice q1 n c1] 26) = w8 at *
      go_upto_region 12 with (go_at_call 16; refine HD2b.out.mono ?_; rintro e w9 ⟨q2, c2, rfl, hrc2, hb9⟩)
      have hb910 : Below w9.heap.size w9 (w9.alloc (.cells #[.int .i64 zi, .bool mr, .bool mc, .bool mw, .int .i64 zo, .string zn, .int .i64 zk, .slice q2 n c2] 26)) := (Below.refl _ w9).alloc (Nat.le_refl _) _
      have hb810 : Below w8.heap.size w8 (w9.alloc (.cells #[.int .i64 zi, .bool mr, .bool mc, .bool mw, .int .i64 zo, .string zn, .int .i64 zk, .slice q2 n c2] 26)) := hb9.trans (hb910.mono hb9.size)
      have HX2 := Lib.hid (HX1.out.bel hb810)
      have HY2 : Hid (At8 (w9.alloc (.cells #[.int .i64 zi, .bool mr, .bool mc, .bool mw, .int .i64 zo, .string zn, .int .i64 zk, .slice q2 n c2] 26)) w9.heap.size #[.int .i64 zi, .bool mr, .bool mc, .bool mw, .int .i64 zo, .string zn, .int .i64 zk, .slice q2 n c2]) := Lib.hid (heap_alloc_new w9 _)
      have HWx := Lib.hid (HW8.out.trans (hb810.mono HW8.out.size))
      have HE := Lib.hid (HEq.out _ q1 c1 q2 c2 _ _ (own_bel HRc1.out hb810) (own_bel hrc2 hb910))
      clear hrc2
      obtain ⟨b2, hb2⟩ : ∃ q, w9.heap.size = q := ⟨_, rfl⟩
      rw [hb2] at HY2 ⊢
      clear hb9 hb910 hb810 hb2
      generalize w9.alloc (.cells #[.int .i64 zi, .bool mr, .bool mc, .bool mw, .int .i64 zo, .string zn, .int .i64 zk, .slice q2 n c2] 26) = wx at *
      have x0 := HX2.out.cell (j := 0) rfl
      have x1 := HX2.out.cell (j := 1) rfl
      have x2 := HX2.out.cell (j := 2) rfl
      have x3 := HX2.out.cell (j := 3) rfl
      have x4 := HX2.out.cell (j := 4) rfl
      have x5 := HX2.out.cell (j := 5) rfl
      have x6 := HX2.out.cell (j := 6) rfl
      have x7 := HX2.out.cell (j := 7) rfl
      have y0 := HY2.out.cell (j := 0) rfl
      have y1 := HY2.out.cell (j := 1) rfl
      have y2 := HY2.out.cell (j := 2) rfl
      have y3 := HY2.out.cell (j := 3) rfl
      have y4 := HY2.out.cell (j := 4) rfl
      have y5 := HY2.out.cell (j := 5) rfl
      have y6 := HY2.out.cell (j := 6) rfl
      have y7 := HY2.out.cell (j := 7) rfl
      go_wp2_with (go_at_call 14; refine HE.out.mono ?_; rintro e wy ⟨rfl, hby⟩; have HBy := Lib.hid hby; clear hby)
      go_ret
      exact ⟨rfl, HWx.out.trans (HBy.out.mono HWx.out.size)⟩
  · have hn0 : (0 : Int) < (N : Int) := by omega
    obtain ⟨g5, c5x, e5, hg5, hba5⟩ := own_ba HO5.out (by rw [HLen.out]; omega)
    rw [HLen.out] at e5 hba5
    cases e5
    obtain ⟨T, hT⟩ : ∃ T : Nat, (0 ≤ a1 ∧ a1 = T) ∨ (a1 < 0 ∧ a1 = -(T : Int) - 1) := by
      by_cases h : 0 ≤ a1
      · exact ⟨a1.toNat, .inl ⟨h, by omega⟩⟩
      · exact ⟨(-a1 - 1).toNat, .inr ⟨by omega, by omega⟩⟩
    obtain ⟨j, hj⟩ : ∃ j, T % N = j := ⟨_, rfl⟩
    have hjN : j < N := by rw [← hj]; exact Nat.mod_lt _ (by omega)
    have hrem : Int.tmod (T : Int) (N : Int) = (j : Int) := by rw [← hj]; rfl
    have HjN := Lib.hid hjN
    obtain ⟨b0, hb0⟩ : ∃ b, l5[j]? = some b := ⟨_, List.getElem?_eq_getElem (by rw [HLen.out]; exact hjN)⟩
    obtain ⟨b1, hb1⟩ := xor_byte b0 z2 hw2 hw2b
    have hcell : w5.cell? ⟨g5, j, none⟩ = some (.int .u8 (b0.toNat : Int)) := by
      have ha : ({ block := g5, off := 0 } : Addr).add j = ⟨g5, j, none⟩ := by unfold Addr.add; split <;> simp_all
      rw [← ha]
      exact hba5.cell _ rfl j b0 hb0
    have hfree : w5.frozen? ⟨g5, j, none⟩ = false := own_free HO5.out j
    have HG5 := Lib.hid (World.ownsRow.lt HO5.out g5 rfl).1
    clear h0 hba5 hb0 hj HBy hg5
    rcases hT with ⟨hT1, rfl⟩ | ⟨hT1, rfl⟩
    · have hs0 : ¬ (T : Int) < 0 := by omega
      clear hT1
      go_upto_region 10 with (fail)
      have HO6 := Lib.hid (own_turn HO5.out HLen.out j HjN.out b1)
      have HLen6 : Hid ((l5.set j b1).length = N) := Lib.hid (by rw [List.length_set]; exact HLen.out)
      have HW6 : Hid (Below W.heap.size W (w5.setCell ⟨g5, j, none⟩ (.int .u8 (b1.toNat : Int)))) := Lib.hid (below_set1 HW5.out (Nat.le_trans hW3 HG5.out) j _)
      obtain ⟨l6, hl6⟩ : ∃ l, l5.set j b1 = l := ⟨_, rfl⟩
      rw [hl6] at HO6 HLen6
      clear hl6 hcell hfree hb1 hrem hn0
      generalize w5.setCell ⟨g5, j, none⟩ (.int .u8 (b1.toNat : Int)) = w6 at *
      have hby6 := own_bytes HO6.out HLen6.out
      have HBa : Hid (∀ V, Below w6.heap.size w6 V → BA V (some ⟨g5, 0, none⟩) N c5 l6 ∧ ∀ y, some (⟨g5, 0, none⟩ : Addr) = some y → y.block < V.heap.size) := Lib.hid fun V hV => ⟨ba_bel hby6.1 hV, fun y hy => Nat.lt_of_lt_of_le (hby6.2 y hy) hV.size⟩
      clear hby6
      cases hd : decW l6 with
      | none =>
        have HD1 : Hid (Calls Tryd.prog 13 #[.slice (some ⟨g5, 0, none⟩) N c5] w6 fun e w' => e = .returned (.tuple #[.agg #[.int .i64 0, .bool false, .bool false, .bool false, .int .i64 0, .string ⟨#[]⟩, .int .i64 0, .slice none 0 0], badV]) ∧ Below w6.heap.size w6 w') := Lib.hid ((decode_any _ _ _ _ w6 (HBa.out w6 (Below.refl _ _)).1 (HBa.out w6 (Below.refl _ _)).2 (HM.out.below HW6.out)).mono (by
          rintro e w' ⟨hb, hx⟩
          rw [hd] at hx
          exact ⟨hx, hb⟩))
        have HD2 : Hid (∀ V, Below w6.heap.size w6 V → Calls Tryd.prog 16 #[.slice (some ⟨g5, 0, none⟩) N c5] V fun e w' => e = .returned (.tuple #[.agg #[.int .i64 0, .bool false, .bool false, .bool false, .int .i64 0, .string ⟨#[]⟩, .int .i64 0, .slice none 0 0], .bool false]) ∧ Below V.heap.size V w') := Lib.hid fun V hV => (xdecode_any _ _ _ _ V (HBa.out V hV).1 (HBa.out V hV).2).mono (by
          rintro e w' ⟨hb, hx⟩
          rw [← decW_eq, hd] at hx
          exact ⟨hx, hb⟩)
        have HEq : Hid (∀ V, Calls Tryd.prog 14 #[.agg #[.int .i64 0, .bool false, .bool false, .bool false, .int .i64 0, .string ⟨#[]⟩, .int .i64 0, .slice none 0 0], .agg #[.int .i64 0, .bool false, .bool false, .bool false, .int .i64 0, .string ⟨#[]⟩, .int .i64 0, .slice none 0 0]] V fun e w' => e = .returned (.bool true) ∧ Below V.heap.size V w') := Lib.hid fun V => eq_any zM0 (.slice none 0 0) (.slice none 0 0) 0 0 V (World.ownsRow_nil _ _ _ _) (World.ownsRow_nil _ _ _ _) (by decide)
        clear hd
        go_upto_region 11 with (go_at_call 13; refine HD1.out.mono ?_; rintro e w7 ⟨rfl, hb7⟩)
        have hb78 : Below w7.heap.size w7 (w7.alloc (.cells #[.int .i64 0, .bool false, .bool false, .bool false, .int .i64 0, .string ⟨#[]⟩, .int .i64 0, .slice none 0 0] 26)) := (Below.refl _ w7).alloc (Nat.le_refl _) _
        have hb68 : Below w6.heap.size w6 (w7.alloc (.cells #[.int .i64 0, .bool false, .bool false, .bool false, .int .i64 0, .string ⟨#[]⟩, .int .i64 0, .slice none 0 0] 26)) := hb7.trans (hb78.mono hb7.size)
        have HX1 : Hid (At8 (w7.alloc (.cells #[.int .i64 0, .bool false, .bool false, .bool false, .int .i64 0, .string ⟨#[]⟩, .int .i64 0, .slice none 0 0] 26)) w7.heap.size #[.int .i64 0, .bool false, .bool false, .bool false, .int .i64 0, .string ⟨#[]⟩, .int .i64 0, .slice none 0 0]) := Lib.hid (heap_alloc_new w7 _)
        have HD2b := Lib.hid (HD2.out _ hb68)
        have HW8 := Lib.hid (HW6.out.trans (hb68.mono HW6.out.size))
        obtain ⟨b1, hb1⟩ : ∃ q, w7.heap.size = q := ⟨_, rfl⟩
        rw [hb1] at HX1 ⊢
        clear hb7 hb78 hb68 HD1 HD2 hb1
        generalize w7.alloc (.cells #[.int .i64 0, .bool false, .bool false, .bool false, .int .i64 0, .string ⟨#[]⟩, .int .i64 0, .slice none 0 0] 26) = w8 at *
        go_upto_region 12 with (go_at_call 16; refine HD2b.out.mono ?_; rintro e w9 ⟨rfl, hb9⟩)
        have hb910 : Below w9.heap.size w9 (w9.alloc (.cells #[.int .i64 0, .bool false, .bool false, .bool false, .int .i64 0, .string ⟨#[]⟩, .int .i64 0, .slice none 0 0] 26)) := (Below.refl _ w9).alloc (Nat.le_refl _) _
        have hb810 : Below w8.heap.size w8 (w9.alloc (.cells #[.int .i64 0, .bool false, .bool false, .bool false, .int .i64 0, .string ⟨#[]⟩, .int .i64 0, .slice none 0 0] 26)) := hb9.trans (hb910.mono hb9.size)
        have HX2 := Lib.hid (HX1.out.bel hb810)
        have HY2 : Hid (At8 (w9.alloc (.cells #[.int .i64 0, .bool false, .bool false, .bool false, .int .i64 0, .string ⟨#[]⟩, .int .i64 0, .slice none 0 0] 26)) w9.heap.size #[.int .i64 0, .bool false, .bool false, .bool false, .int .i64 0, .string ⟨#[]⟩, .int .i64 0, .slice none 0 0]) := Lib.hid (heap_alloc_new w9 _)
        have HWx := Lib.hid (HW8.out.trans (hb810.mono HW8.out.size))
        have HE := Lib.hid (HEq.out (w9.alloc (.cells #[.int .i64 0, .bool false, .bool false, .bool false, .int .i64 0, .string ⟨#[]⟩, .int .i64 0, .slice none 0 0] 26)))
        obtain ⟨b2, hb2⟩ : ∃ q, w9.heap.size = q := ⟨_, rfl⟩
        rw [hb2] at HY2 ⊢
        clear hb9 hb910 hb810 hb2
        generalize w9.alloc (.cells #[.int .i64 0, .bool false, .bool false, .bool false, .int .i64 0, .string ⟨#[]⟩, .int .i64 0, .slice none 0 0] 26) = wx at *
        have x0 := HX2.out.cell (j := 0) rfl
        have x1 := HX2.out.cell (j := 1) rfl
        have x2 := HX2.out.cell (j := 2) rfl
        have x3 := HX2.out.cell (j := 3) rfl
        have x4 := HX2.out.cell (j := 4) rfl
        have x5 := HX2.out.cell (j := 5) rfl
        have x6 := HX2.out.cell (j := 6) rfl
        have x7 := HX2.out.cell (j := 7) rfl
        have y0 := HY2.out.cell (j := 0) rfl
        have y1 := HY2.out.cell (j := 1) rfl
        have y2 := HY2.out.cell (j := 2) rfl
        have y3 := HY2.out.cell (j := 3) rfl
        have y4 := HY2.out.cell (j := 4) rfl
        have y5 := HY2.out.cell (j := 5) rfl
        have y6 := HY2.out.cell (j := 6) rfl
        have y7 := HY2.out.cell (j := 7) rfl
        go_wp2_with (first | (go_at_call 12; refine (bad_yes _).mono ?_; rintro e wz ⟨rfl, rfl⟩) | (go_at_call 14; refine HE.out.mono ?_; rintro e wy ⟨rfl, hby⟩; have HBy := Lib.hid hby; clear hby))
        go_ret
        exact ⟨rfl, HWx.out.trans (HBy.out.mono HWx.out.size)⟩
      | some M =>
        have hfew := dec_few hd
        obtain ⟨mi, mr, mc, mw, mo, mn, mk, rs⟩ := M
        obtain ⟨n, hn⟩ : ∃ n, rs.length = n := ⟨_, rfl⟩
        have HD1 : Hid (Calls Tryd.prog 13 #[.slice (some ⟨g5, 0, none⟩) N c5] w6 fun e w' => ∃ q c, e = .returned (.tuple #[.agg #[.int .i64 (mi : Int), .bool mr, .bool mc, .bool mw, .int .i64 (mo : Int), .string ⟨mn.toArray⟩, .int .i64 (mk : Int), .slice q n c], .nilIface]) ∧ RecC w6.heap.size w' (.slice q n c) rs ∧ Below w6.heap.size w6 w') := Lib.hid ((decode_any _ _ _ _ w6 (HBa.out w6 (Below.refl _ _)).1 (HBa.out w6 (Below.refl _ _)).2 (HM.out.below HW6.out)).mono (by
          rintro e w' ⟨hb, hx⟩
          rw [hd] at hx
          obtain ⟨v, he, hrc⟩ := hx
          obtain ⟨q, c, rfl⟩ := slice_of hrc
          simp only [hn] at he hrc
          unfold Msg.val at he
          simp only [] at he
          exact ⟨q, c, he, hrc, hb⟩))
        have HD2 : Hid (∀ V, Below w6.heap.size w6 V → Calls Tryd.prog 16 #[.slice (some ⟨g5, 0, none⟩) N c5] V fun e w' => ∃ q c, e = .returned (.tuple #[.agg #[.int .i64 (mi : Int), .bool mr, .bool mc, .bool mw, .int .i64 (mo : Int), .string ⟨mn.toArray⟩, .int .i64 (mk : Int), .slice q n c], .bool true]) ∧ RecC V.heap.size w' (.slice q n c) rs ∧ Below V.heap.size V w') := Lib.hid fun V hV => (xdecode_any _ _ _ _ V (HBa.out V hV).1 (HBa.out V hV).2).mono (by
          rintro e w' ⟨hb, hx⟩
          rw [← decW_eq, hd] at hx
          obtain ⟨v, he, hrc⟩ := hx
          obtain ⟨q, c, rfl⟩ := slice_of hrc
          simp only [hn] at he hrc
          unfold Msg.val at he
          simp only [] at he
          exact ⟨q, c, he, hrc, hb⟩)
        have HEq : Hid (∀ V q1 c1 q2 c2 B1 B2, RecC B1 V (.slice q1 n c1) rs → RecC B2 V (.slice q2 n c2) rs → Calls Tryd.prog 14 #[.agg #[.int .i64 (mi : Int), .bool mr, .bool mc, .bool mw, .int .i64 (mo : Int), .string ⟨mn.toArray⟩, .int .i64 (mk : Int), .slice q1 n c1], .agg #[.int .i64 (mi : Int), .bool mr, .bool mc, .bool mw, .int .i64 (mo : Int), .string ⟨mn.toArray⟩, .int .i64 (mk : Int), .slice q2 n c2]] V fun e w' => e = .returned (.bool true) ∧ Below V.heap.size V w') := Lib.hid fun V q1 c1 q2 c2 B1 B2 h1 h2 => eq_any ⟨mi, mr, mc, mw, mo, mn, mk, rs⟩ (.slice q1 n c1) (.slice q2 n c2) B1 B2 V h1 h2 (by simp only at hfew; show rs.length ≤ _; omega)
        clear hd hn hfew
        obtain ⟨zi, hzi⟩ : ∃ z : Int, (mi : Int) = z := ⟨_, rfl⟩
        obtain ⟨zo, hzo⟩ : ∃ z : Int, (mo : Int) = z := ⟨_, rfl⟩
        obtain ⟨zk, hzk⟩ : ∃ z : Int, (mk : Int) = z := ⟨_, rfl⟩
        obtain ⟨zn, hzn⟩ : ∃ z : ByteArray, (⟨mn.toArray⟩ : ByteArray) = z := ⟨_, rfl⟩
        rw [hzi, hzo, hzk, hzn] at HD1
        simp only [hzi, hzo, hzk, hzn] at HD2 HEq
        clear hzi hzo hzk hzn
        go_upto_region 11 with (go_at_call 13; refine HD1.out.mono ?_; rintro e w7 ⟨q1, c1, rfl, hrc1, hb7⟩)
        have hb78 : Below w7.heap.size w7 (w7.alloc (.cells #[.int .i64 zi, .bool mr, .bool mc, .bool mw, .int .i64 zo, .string zn, .int .i64 zk, .slice q1 n c1] 26)) := (Below.refl _ w7).alloc (Nat.le_refl _) _
        have hb68 : Below w6.heap.size w6 (w7.alloc (.cells #[.int .i64 zi, .bool mr, .bool mc, .bool mw, .int .i64 zo, .string zn, .int .i64 zk, .slice q1 n c1] 26)) := hb7.trans (hb78.mono hb7.size)
        have HX1 : Hid (At8 (w7.alloc (.cells #[.int .i64 zi, .bool mr, .bool mc, .bool mw, .int .i64 zo, .string zn, .int .i64 zk, .slice q1 n c1] 26)) w7.heap.size #[.int .i64 zi, .bool mr, .bool mc, .bool mw, .int .i64 zo, .string zn, .int .i64 zk, .slice q1 n c1]) := Lib.hid (heap_alloc_new w7 _)
        have HD2b := Lib.hid (HD2.out _ hb68)
        have HW8 := Lib.hid (HW6.out.trans (hb68.mono HW6.out.size))
        have HRc1 := Lib.hid (own_bel (own_bel hrc1 hb78) (Below.refl _ _))
        clear hrc1
        obtain ⟨b1, hb1⟩ : ∃ q, w7.heap.size = q := ⟨_, rfl⟩
        rw [hb1] at HX1 ⊢
        clear hb7 hb78 hb68 HD1 HD2 hb1
        generalize w7.alloc (.cells #[.int .i64 zi, .bool mr, .bool mc, .bool mw, .int .i64 zo, .string zn, .int .i64 zk, .slice q1 n c1] 26) = w8 at *
        go_upto_region 12 with (go_at_call 16; refine HD2b.out.mono ?_; rintro e w9 ⟨q2, c2, rfl, hrc2, hb9⟩)
        have hb910 : Below w9.heap.size w9 (w9.alloc (.cells #[.int .i64 zi, .bool mr, .bool mc, .bool mw, .int .i64 zo, .string zn, .int .i64 zk, .slice q2 n c2] 26)) := (Below.refl _ w9).alloc (Nat.le_refl _) _
        have hb810 : Below w8.heap.size w8 (w9.alloc (.cells #[.int .i64 zi, .bool mr, .bool mc, .bool mw, .int .i64 zo, .string zn, .int .i64 zk, .slice q2 n c2] 26)) := hb9.trans (hb910.mono hb9.size)
        have HX2 := Lib.hid (HX1.out.bel hb810)
        have HY2 : Hid (At8 (w9.alloc (.cells #[.int .i64 zi, .bool mr, .bool mc, .bool mw, .int .i64 zo, .string zn, .int .i64 zk, .slice q2 n c2] 26)) w9.heap.size #[.int .i64 zi, .bool mr, .bool mc, .bool mw, .int .i64 zo, .string zn, .int .i64 zk, .slice q2 n c2]) := Lib.hid (heap_alloc_new w9 _)
        have HWx := Lib.hid (HW8.out.trans (hb810.mono HW8.out.size))
        have HE := Lib.hid (HEq.out _ q1 c1 q2 c2 _ _ (own_bel HRc1.out hb810) (own_bel hrc2 hb910))
        clear hrc2
        obtain ⟨b2, hb2⟩ : ∃ q, w9.heap.size = q := ⟨_, rfl⟩
        rw [hb2] at HY2 ⊢
        clear hb9 hb910 hb810 hb2
        generalize w9.alloc (.cells #[.int .i64 zi, .bool mr, .bool mc, .bool mw, .int .i64 zo, .string zn, .int .i64 zk, .slice q2 n c2] 26) = wx at *
        have x0 := HX2.out.cell (j := 0) rfl
        have x1 := HX2.out.cell (j := 1) rfl
        have x2 := HX2.out.cell (j := 2) rfl
        have x3 := HX2.out.cell (j := 3) rfl
        have x4 := HX2.out.cell (j := 4) rfl
        have x5 := HX2.out.cell (j := 5) rfl
        have x6 := HX2.out.cell (j := 6) rfl
        have x7 := HX2.out.cell (j := 7) rfl
        have y0 := HY2.out.cell (j := 0) rfl
        have y1 := HY2.out.cell (j := 1) rfl
        have y2 := HY2.out.cell (j := 2) rfl
        have y3 := HY2.out.cell (j := 3) rfl
        have y4 := HY2.out.cell (j := 4) rfl
        have y5 := HY2.out.cell (j := 5) rfl
        have y6 := HY2.out.cell (j := 6) rfl
        have y7 := HY2.out.cell (j := 7) rfl
        go_wp2_with (go_at_call 14; refine HE.out.mono ?_; rintro e wy ⟨rfl, hby⟩; have HBy := Lib.hid hby; clear hby)
        go_ret
        exact ⟨rfl, HWx.out.trans (HBy.out.mono HWx.out.size)⟩
    · have hneg : -(-(T : Int) - 1 + 1) = T := by omega
      go_upto_region 10 with (fail)
      have HO6 := Lib.hid (own_turn HO5.out HLen.out j HjN.out b1)
      have HLen6 : Hid ((l5.set j b1).length = N) := Lib.hid (by rw [List.length_set]; exact HLen.out)
      have HW6 : Hid (Below W.heap.size W (w5.setCell ⟨g5, j, none⟩ (.int .u8 (b1.toNat : Int)))) := Lib.hid (below_set1 HW5.out (Nat.le_trans hW3 HG5.out) j _)
      obtain ⟨l6, hl6⟩ : ∃ l, l5.set j b1 = l := ⟨_, rfl⟩
      rw [hl6] at HO6 HLen6
      clear hl6 hcell hfree hb1 hrem hn0
      generalize w5.setCell ⟨g5, j, none⟩ (.int .u8 (b1.toNat : Int)) = w6 at *
      have hby6 := own_bytes HO6.out HLen6.out
      have HBa : Hid (∀ V, Below w6.heap.size w6 V → BA V (some ⟨g5, 0, none⟩) N c5 l6 ∧ ∀ y, some (⟨g5, 0, none⟩ : Addr) = some y → y.block < V.heap.size) := Lib.hid fun V hV => ⟨ba_bel hby6.1 hV, fun y hy => Nat.lt_of_lt_of_le (hby6.2 y hy) hV.size⟩
      clear hby6
      cases hd : decW l6 with
      | none =>
        have HD1 : Hid (Calls Tryd.prog 13 #[.slice (some ⟨g5, 0, none⟩) N c5] w6 fun e w' => e = .returned (.tuple #[.agg #[.int .i64 0, .bool false, .bool false, .bool false, .int .i64 0, .string ⟨#[]⟩, .int .i64 0, .slice none 0 0], badV]) ∧ Below w6.heap.size w6 w') := Lib.hid ((decode_any _ _ _ _ w6 (HBa.out w6 (Below.refl _ _)).1 (HBa.out w6 (Below.refl _ _)).2 (HM.out.below HW6.out)).mono (by
          rintro e w' ⟨hb, hx⟩
          rw [hd] at hx
          exact ⟨hx, hb⟩))
        have HD2 : Hid (∀ V, Below w6.heap.size w6 V → Calls Tryd.prog 16 #[.slice (some ⟨g5, 0, none⟩) N c5] V fun e w' => e = .returned (.tuple #[.agg #[.int .i64 0, .bool false, .bool false, .bool false, .int .i64 0, .string ⟨#[]⟩, .int .i64 0, .slice none 0 0], .bool false]) ∧ Below V.heap.size V w') := Lib.hid fun V hV => (xdecode_any _ _ _ _ V (HBa.out V hV).1 (HBa.out V hV).2).mono (by
          rintro e w' ⟨hb, hx⟩
          rw [← decW_eq, hd] at hx
          exact ⟨hx, hb⟩)
        have HEq : Hid (∀ V, Calls Tryd.prog 14 #[.agg #[.int .i64 0, .bool false, .bool false, .bool false, .int .i64 0, .string ⟨#[]⟩, .int .i64 0, .slice none 0 0], .agg #[.int .i64 0, .bool false, .bool false, .bool false, .int .i64 0, .string ⟨#[]⟩, .int .i64 0, .slice none 0 0]] V fun e w' => e = .returned (.bool true) ∧ Below V.heap.size V w') := Lib.hid fun V => eq_any zM0 (.slice none 0 0) (.slice none 0 0) 0 0 V (World.ownsRow_nil _ _ _ _) (World.ownsRow_nil _ _ _ _) (by decide)
        clear hd
        go_upto_region 11 with (go_at_call 13; refine HD1.out.mono ?_; rintro e w7 ⟨rfl, hb7⟩)
        have hb78 : Below w7.heap.size w7 (w7.alloc (.cells #[.int .i64 0, .bool false, .bool false, .bool false, .int .i64 0, .string ⟨#[]⟩, .int .i64 0, .slice none 0 0] 26)) := (Below.refl _ w7).alloc (Nat.le_refl _) _
        have hb68 : Below w6.heap.size w6 (w7.alloc (.cells #[.int .i64 0, .bool false, .bool false, .bool false, .int .i64 0, .string ⟨#[]⟩, .int .i64 0, .slice none 0 0] 26)) := hb7.trans (hb78.mono hb7.size)
        have HX1 : Hid (At8 (w7.alloc (.cells #[.int .i64 0, .bool false, .bool false, .bool false, .int .i64 0, .string ⟨#[]⟩, .int .i64 0, .slice none 0 0] 26)) w7.heap.size #[.int .i64 0, .bool false, .bool false, .bool false, .int .i64 0, .string ⟨#[]⟩, .int .i64 0, .slice none 0 0]) := Lib.hid (heap_alloc_new w7 _)
        have HD2b := Lib.hid (HD2.out _ hb68)
        have HW8 := Lib.hid (HW6.out.trans (hb68.mono HW6.out.size))
        obtain ⟨b1, hb1⟩ : ∃ q, w7.heap.size = q := ⟨_, rfl⟩
        rw [hb1] at HX1 ⊢
        clear hb7 hb78 hb68 HD1 HD2 hb1
        generalize w7.alloc (.cells #[.int .i64 0, .bool false, .bool false, .bool false, .int .i64 0, .string ⟨#[]⟩, .int .i64 0, .slice none 0 0] 26) = w8 at *
        go_upto_region 12 with (go_at_call 16; refine HD2b.out.mono ?_; rintro e w9 ⟨rfl, hb9⟩)
        have hb910 : Below w9.heap.size w9 (w9.alloc (.cells #[.int .i64 0, .bool false, .bool false, .bool false, .int .i64 0, .string ⟨#[]⟩, .int .i64 0, .slice none 0 0] 26)) := (Below.refl _ w9).alloc (Nat.le_refl _) _
        have hb810 : Below w8.heap.size w8 (w9.alloc (.cells #[.int .i64 0, .bool false, .bool false, .bool false, .int .i64 0, .string ⟨#[]⟩, .int .i64 0, .slice none 0 0] 26)) := hb9.trans (hb910.mono hb9.size)
        have HX2 := Lib.hid (HX1.out.bel hb810)
        have HY2 : Hid (At8 (w9.alloc (.cells #[.int .i64 0, .bool false, .bool false, .bool false, .int .i64 0, .string ⟨#[]⟩, .int .i64 0, .slice none 0 0] 26)) w9.heap.size #[.int .i64 0, .bool false, .bool false, .bool false, .int .i64 0, .string ⟨#[]⟩, .int .i64 0, .slice none 0 0]) := Lib.hid (heap_alloc_new w9 _)
        have HWx := Lib.hid (HW8.out.trans (hb810.mono HW8.out.size))
        have HE := Lib.hid (HEq.out (w9.alloc (.cells #[.int .i64 0, .bool false, .bool false, .bool false, .int .i64 0, .string ⟨#[]⟩, .int .i64 0, .slice none 0 0] 26)))
        obtain ⟨b2, hb2⟩ : ∃ q, w9.heap.size = q := ⟨_, rfl⟩
        rw [hb2] at HY2 ⊢
        clear hb9 hb910 hb810 hb2
        generalize w9.alloc (.cells #[.int .i64 0, .bool false, .bool false, .bool false, .int .i64 0, .string ⟨#[]⟩, .int .i64 0, .slice none 0 0] 26) = wx at *
        have x0 := HX2.out.cell (j := 0) rfl
        have x1 := HX2.out.cell (j := 1) rfl
        have x2 := HX2.out.cell (j := 2) rfl
        have x3 := HX2.out.cell (j := 3) rfl
        have x4 := HX2.out.cell (j := 4) rfl
        have x5 := HX2.out.cell (j := 5) rfl
        have x6 := HX2.out.cell (j := 6) rfl
        have x7 := HX2.out.cell (j := 7) rfl
        have y0 := HY2.out.cell (j := 0) rfl
        have y1 := HY2.out.cell (j := 1) rfl
        have y2 := HY2.out.cell (j := 2) rfl
        have y3 := HY2.out.cell (j := 3) rfl
        have y4 := HY2.out.cell (j := 4) rfl
        have y5 := HY2.out.cell (j := 5) rfl
        have y6 := HY2.out.cell (j := 6) rfl
        have y7 := HY2.out.cell (j := 7) rfl
        go_wp2_with (first | (go_at_call 12; refine (bad_yes _).mono ?_; rintro e wz ⟨rfl, rfl⟩) | (go_at_call 14; refine HE.out.mono ?_; rintro e wy ⟨rfl, hby⟩; have HBy := Lib.hid hby; clear hby))
        go_ret
        exact ⟨rfl, HWx.out.trans (HBy.out.mono HWx.out.size)⟩
      | some M =>
        have hfew := dec_few hd
        obtain ⟨mi, mr, mc, mw, mo, mn, mk, rs⟩ := M
        obtain ⟨n, hn⟩ : ∃ n, rs.length = n := ⟨_, rfl⟩
        have HD1 : Hid (Calls Tryd.prog 13 #[.slice (some ⟨g5, 0, none⟩) N c5] w6 fun e w' => ∃ q c, e = .returned (.tuple #[.agg #[.int .i64 (mi : Int), .bool mr, .bool mc, .bool mw, .int .i64 (mo : Int), .string ⟨mn.toArray⟩, .int .i64 (mk : Int), .slice q n c], .nilIface]) ∧ RecC w6.heap.size w' (.slice q n c) rs ∧ Below w6.heap.size w6 w') := Lib.hid ((decode_any _ _ _ _ w6 (HBa.out w6 (Below.refl _ _)).1 (HBa.out w6 (Below.refl _ _)).2 (HM.out.below HW6.out)).mono (by
          rintro e w' ⟨hb, hx⟩
          rw [hd] at hx
          obtain ⟨v, he, hrc⟩ := hx
          obtain ⟨q, c, rfl⟩ := slice_of hrc
          simp only [hn] at he hrc
          unfold Msg.val at he
          simp only [] at he
          exact ⟨q, c, he, hrc, hb⟩))
        have HD2 : Hid (∀ V, Below w6.heap.size w6 V → Calls Tryd.prog 16 #[.slice (some ⟨g5, 0, none⟩) N c5] V fun e w' => ∃ q c, e = .returned (.tuple #[.agg #[.int .i64 (mi : Int), .bool mr, .bool mc, .bool mw, .int .i64 (mo : Int), .string ⟨mn.toArray⟩, .int .i64 (mk : Int), .slice q n c], .bool true]) ∧ RecC V.heap.size w' (.slice q n c) rs ∧ Below V.heap.size V w') := Lib.hid fun V hV => (xdecode_any _ _ _ _ V (HBa.out V hV).1 (HBa.out V hV).2).mono (by
          rintro e w' ⟨hb, hx⟩
          rw [← decW_eq, hd] at hx
          obtain ⟨v, he, hrc⟩ := hx
          obtain ⟨q, c, rfl⟩ := slice_of hrc
          simp only [hn] at he hrc
          unfold Msg.val at he
          simp only [] at he
          exact ⟨q, c, he, hrc, hb⟩)
        have HEq : Hid (∀ V q1 c1 q2 c2 B1 B2, RecC B1 V (.slice q1 n c1) rs → RecC B2 V (.slice q2 n c2) rs → Calls Tryd.prog 14 #[.agg #[.int .i64 (mi : Int), .bool mr, .bool mc, .bool mw, .int .i64 (mo : Int), .string ⟨mn.toArray⟩, .int .i64 (mk : Int), .slice q1 n c1], .agg #[.int .i64 (mi : Int), .bool mr, .bool mc, .bool mw, .int .i64 (mo : Int), .string ⟨mn.toArray⟩, .int .i64 (mk : Int), .slice q2 n c2]] V fun e w' => e = .returned (.bool true) ∧ Below V.heap.size V w') := Lib.hid fun V q1 c1 q2 c2 B1 B2 h1 h2 => eq_any ⟨mi, mr, mc, mw, mo, mn, mk, rs⟩ (.slice q1 n c1) (.slice q2 n c2) B1 B2 V h1 h2 (by simp only at hfew; show rs.length ≤ _; omega)
        clear hd hn hfew
        obtain ⟨zi, hzi⟩ : ∃ z : Int, (mi : Int) = z := ⟨_, rfl⟩
        obtain ⟨zo, hzo⟩ : ∃ z : Int, (mo : Int) = z := ⟨_, rfl⟩
        obtain ⟨zk, hzk⟩ : ∃ z : Int, (mk : Int) = z := ⟨_, rfl⟩
        obtain ⟨zn, hzn⟩ : ∃ z : ByteArray, (⟨mn.toArray⟩ : ByteArray) = z := ⟨_, rfl⟩
        rw [hzi, hzo, hzk, hzn] at HD1
        simp only [hzi, hzo, hzk, hzn] at HD2 HEq
        clear hzi hzo hzk hzn
        go_upto_region 11 with (go_at_call 13; refine HD1.out.mono ?_; rintro e w7 ⟨q1, c1, rfl, hrc1, hb7⟩)
        have hb78 : Below w7.heap.size w7 (w7.alloc (.cells #[.int .i64 zi, .bool mr, .bool mc, .bool mw, .int .i64 zo, .string zn, .int .i64 zk, .slice q1 n c1] 26)) := (Below.refl _ w7).alloc (Nat.le_refl _) _
        have hb68 : Below w6.heap.size w6 (w7.alloc (.cells #[.int .i64 zi, .bool mr, .bool mc, .bool mw, .int .i64 zo, .string zn, .int .i64 zk, .slice q1 n c1] 26)) := hb7.trans (hb78.mono hb7.size)
        have HX1 : Hid (At8 (w7.alloc (.cells #[.int .i64 zi, .bool mr, .bool mc, .bool mw, .int .i64 zo, .string zn, .int .i64 zk, .slice q1 n c1] 26)) w7.heap.size #[.int .i64 zi, .bool mr, .bool mc, .bool mw, .int .i64 zo, .string zn, .int .i64 zk, .slice q1 n c1]) := Lib.hid (heap_alloc_new w7 _)
        have HD2b := Lib.hid (HD2.out _ hb68)
        have HW8 := Lib.hid (HW6.out.trans (hb68.mono HW6.out.size))
        have HRc1 := Lib.hid (own_bel (own_bel hrc1 hb78) (Below.refl _ _))
        clear hrc1
        obtain ⟨b1, hb1⟩ : ∃ q, w7.heap.size = q := ⟨_, rfl⟩
        rw [hb1] at HX1 ⊢
        clear hb7 hb78 hb68 HD1 HD2 hb1
        generalize w7.alloc (.cells #[.int .i64 zi, .bool mr, .bool mc, .bool mw, .int .i64 zo, .string zn, .int .i64 zk, .slice q1 n c1] 26) = w8 at *
        go_upto_region 12 with (go_at_call 16; refine HD2b.out.mono ?_; rintro e w9 ⟨q2, c2, rfl, hrc2, hb9⟩)
        have hb910 : Below w9.heap.size w9 (w9.alloc (.cells #[.int .i64 zi, .bool mr, .bool mc, .bool mw, .int .i64 zo, .string zn, .int .i64 zk, .slice q2 n c2] 26)) := (Below.refl _ w9).alloc (Nat.le_refl _) _
        have hb810 : Below w8.heap.size w8 (w9.alloc (.cells #[.int .i64 zi, .bool mr, .bool mc, .bool mw, .int .i64 zo, .string zn, .int .i64 zk, .slice q2 n c2] 26)) := hb9.trans (hb910.mono hb9.size)
        have HX2 := Lib.hid (HX1.out.bel hb810)
        have HY2 : Hid (At8 (w9.alloc (.cells #[.int .i64 zi, .bool mr, .bool mc, .bool mw, .int .i64 zo, .string zn, .int .i64 zk, .slice q2 n c2] 26)) w9.heap.size #[.int .i64 zi, .bool mr, .bool mc, .bool mw, .int .i64 zo, .string zn, .int .i64 zk, .slice q2 n c2]) := Lib.hid (heap_alloc_new w9 _)
        have HWx := Lib.hid (HW8.out.trans (hb810.mono HW8.out.size))
        have HE := Lib.hid (HEq.out _ q1 c1 q2 c2 _ _ (own_bel HRc1.out hb810) (own_bel hrc2 hb910))
        clear hrc2
        obtain ⟨b2, hb2⟩ : ∃ q, w9.heap.size = q := ⟨_, rfl⟩
        rw [hb2] at HY2 ⊢
        clear hb9 hb910 hb810 hb2
        generalize w9.alloc (.cells #[.int .i64 zi, .bool mr, .bool mc, .bool mw, .int .i64 zo, .string zn, .int .i64 zk, .slice q2 n c2] 26) = wx at *
        have x0 := HX2.out.cell (j := 0) rfl
        have x1 := HX2.out.cell (j := 1) rfl
        have x2 := HX2.out.cell (j := 2) rfl
        have x3 := HX2.out.cell (j := 3) rfl
        have x4 := HX2.out.cell (j := 4) rfl
        have x5 := HX2.out.cell (j := 5) rfl
        have x6 := HX2.out.cell (j := 6) rfl
        have x7 := HX2.out.cell (j := 7) rfl
        have y0 := HY2.out.cell (j := 0) rfl
        have y1 := HY2.out.cell (j := 1) rfl
        have y2 := HY2.out.cell (j := 2) rfl
        have y3 := HY2.out.cell (j := 3) rfl
        have y4 := HY2.out.cell (j := 4) rfl
        have y5 := HY2.out.cell (j := 5) rfl
        have y6 := HY2.out.cell (j := 6) rfl
        have y7 := HY2.out.cell (j := 7) rfl
        go_wp2_with (go_at_call 14; refine HE.out.mono ?_; rintro e wy ⟨rfl, hby⟩; have HBy := Lib.hid hby; clear hby)
        go_ret
        exact ⟨rfl, HWx.out.trans (HBy.out.mono HWx.out.size)⟩
end Go.Proofs.YtepfeekfglpjoaaDoor

namespace Go.Proofs.YtepfeekfglpjoaaDoor
open Go.RowKit Go.Lib Go.Wi Go.Tx
theorem or4 : ∀ a : Fin 256, (a.val ||| 4) / 8 = a.val / 8 ∧ (a.val ||| 4) % 4 = a.val % 4 ∧ (a.val ||| 4) < 256 := by decide +kernel
theorem and4 : ∀ f : Fin 256, f.val &&& 4 = 0 ∨ f.val &&& 4 = 4 := by decide +kernel
theorem or_and4 (a f : Nat) (ha : a < 256) (hf : f < 256) : (a ||| (f &&& 4)) / 8 = a / 8 ∧ (a ||| (f &&& 4)) % 4 = a % 4 ∧ (a ||| (f &&& 4)) < 256 := by
  have h : f &&& 4 = 0 ∨ f &&& 4 = 4 := and4 ⟨f, hf⟩
  rcases h with h | h
  · rw [h, Nat.or_zero]; exact ⟨rfl, rfl, ha⟩
  · rw [h]; exact or4 ⟨a, ha⟩
theorem or_and240 (b f : Nat) (hb : b < 256) (hf : f < 256) : (b ||| (f &&& 240)) % 16 = b % 16 ∧ (b ||| (f &&& 240)) < 256 := by
  refine ⟨?_, Nat.or_lt_two_pow (n := 8) hb (Nat.lt_of_le_of_lt (Nat.and_le_left) hf)⟩
  rw [show (16 : Nat) = 2 ^ 4 from rfl, Nat.or_mod_two_pow, Nat.and_mod_two_pow, show 240 % 2 ^ 4 = 0 from rfl, Nat.and_zero, Nat.or_zero]
theorem and_byte (f : UInt8) (m : Nat) (hm : m < 256) : bits .and .u8 (f.toNat : Int) (m : Int) = ((f &&& UInt8.ofNat m).toNat : Int) := by
  have hf := f.toNat_lt
  rw [u8_and_nat f.toNat m (by omega) hm, UInt8.toNat_and, UInt8.toNat_ofNat_of_lt' hm]
theorem or_byte (a b : UInt8) : bits .or .u8 (a.toNat : Int) (b.toNat : Int) = ((a ||| b).toNat : Int) := by
  have ha := a.toNat_lt
  have hb := b.toNat_lt
  rw [u8_or_nat a.toNat b.toNat (by omega) (by omega), UInt8.toNat_or]
theorem byte_of {z : Int} (h0 : 0 ≤ z) (h1 : z ≤ 255) : ∃ b : UInt8, z = (b.toNat : Int) := ⟨UInt8.ofNat z.toNat, by rw [UInt8.toNat_ofNat_of_lt' (by show z.toNat < 256; omega)]; omega⟩
theorem flag_same {a b P Q : Nat} (hb : b < 256) (hQ : Q < 256) (h1 : P / 8 = a / 8) (h2 : P % 4 = a % 4) (h3 : Q % 16 = b % 16) : (P * 256 + Q) / 2048 = (a * 256 + b) / 2048 ∧ (32768 ≤ P * 256 + Q ↔ 32768 ≤ a * 256 + b) ∧ (P * 256 + Q) / 512 % 2 = (a * 256 + b) / 512 % 2 ∧ (P * 256 + Q) / 256 % 2 = (a * 256 + b) / 256 % 2 ∧ (P * 256 + Q) % 16 = (a * 256 + b) % 16 := by
  obtain ⟨u, hu⟩ : ∃ u, P * 256 + Q = u := ⟨_, rfl⟩
  obtain ⟨v, hv⟩ : ∃ v, a * 256 + b = v := ⟨_, rfl⟩
  rw [hu, hv]
  have e5 : u / 256 = P := by omega
  have e6 : v / 256 = a := by omega
  have f1 : u / 2048 = P / 8 := by clear h1 h2 h3 e6 hv hb; omega
  have f2 : v / 2048 = a / 8 := by clear h1 h2 h3 e5 hu hQ; omega
  have f3 : u / 512 = P / 2 := by clear h1 h2 h3 e6 hv hb; omega
  have f4 : v / 512 = a / 2 := by clear h1 h2 h3 e5 hu hQ; omega
  have m1 : u % 16 = Q % 16 := by clear h1 h2 h3 e6 hv hb; omega
  have m2 : v % 16 = b % 16 := by clear h1 h2 h3 e5 hu hQ; omega
  have p1 : P / 2 % 2 = a / 2 % 2 := by clear e5 e6 f1 f2 f3 f4 m1 m2 hu hv; omega
  have p2 : P % 2 = a % 2 := by clear e5 e6 f1 f2 f3 f4 m1 m2 hu hv; omega
  have p3 : 128 ≤ P ↔ 128 ≤ a := by clear e5 e6 f1 f2 f3 f4 m1 m2 hu hv; omega
  have q1 : 32768 ≤ u ↔ 128 ≤ P := by clear h1 h2 h3 e6 hv hb; omega
  have q2 : 32768 ≤ v ↔ 128 ≤ a := by clear h1 h2 h3 e5 hu hQ; omega
  refine ⟨by rw [f1, f2, h1], ?_, by rw [f3, f4, p1], by rw [e5, e6, p2], by rw [m1, m2, h3]⟩
  rw [q1, q2, p3]
/-- What WireBehind makes of the bytes. -/
def behindB (l : List UInt8) (A F o2 o3 : UInt8) : List UInt8 := (((((l.set 8 A).set 9 A).set 10 F).set 11 A).set 2 (o2 ||| (F &&& 4))).set 3 (o3 ||| (F &&& 240))
theorem behind_len (l : List UInt8) (A F o2 o3 : UInt8) : (behindB l A F o2 o3).length = l.length := by unfold behindB; simp only [List.length_set]
theorem behind_dec {i c : Int} {r q x : Bool} {n : List UInt8} {k : Int} {rs : List WRec} (hok : encOK i c r q x n k rs = true) (w : List UInt8) (hw : (msgB i c r q x n k rs ++ w).length ≤ 4096) (A F o2 o3 : UInt8)
    (h2 : (msgB i c r q x n k rs ++ w)[2]? = some o2) (h3 : (msgB i c r q x n k rs ++ w)[3]? = some o3) : decW (behindB (msgB i c r q x n k rs ++ w) A F o2 o3) = some (msgOf i c r q x n k rs) := by
  rw [decW_E, behind_len, if_pos hw]
  have hm := hok
  rw [encOK_may] at hm
  unfold mayB headMay at hm
  simp only [Bool.and_eq_true, decide_eq_true_eq] at hm
  obtain ⟨C, rfl⟩ : ∃ C : Nat, c = C := ⟨c.toNat, by omega⟩
  obtain ⟨G, hG, g0, g1, g2, g3, g4, g5⟩ := flag_read C (by omega) r q x
  have e2 : o2 = UInt8.ofNat ((G : Int) / 256 % 256).toNat := by
    rw [← hG]
    exact (Option.some.inj h2).symm
  have e3 : o3 = UInt8.ofNat ((G : Int) % 256).toNat := by
    rw [← hG]
    exact (Option.some.inj h3).symm
  have n2 : o2.toNat = G / 256 := by rw [e2, UInt8.toNat_ofNat_of_lt' (by show ((G : Int) / 256 % 256).toNat < 256; omega)]; omega
  have n3 : o3.toNat = G % 256 := by rw [e3, UInt8.toNat_ofNat_of_lt' (by show ((G : Int) % 256).toNat < 256; omega)]; omega
  obtain ⟨a1, a2, a3⟩ := or_and4 o2.toNat F.toNat (by omega) (by have := F.toNat_lt; omega)
  obtain ⟨b1, b2⟩ := or_and240 o3.toNat F.toNat (by omega) (by have := F.toNat_lt; omega)
  have t2 : (o2 ||| (F &&& 4)).toNat = o2.toNat ||| (F.toNat &&& 4) := by rw [UInt8.toNat_or, UInt8.toNat_and]; rfl
  have t3 : (o3 ||| (F &&& 240)).toNat = o3.toNat ||| (F.toNat &&& 240) := by rw [UInt8.toNat_or, UInt8.toNat_and]; rfl
  have hx : behindB (msgB i C r q x n k rs ++ w) A F o2 o3 = (wordB i ++ [o2 ||| (F &&& 4), o3 ||| (F &&& 240)] ++ wordB 1 ++ wordB rs.length ++ [A, A, F, A]) ++ subB n k ++ rs.flatMap WRec.bytes ++ w := rfl
  rw [hx]
  obtain ⟨s1, s2, s3, s4, s5⟩ := flag_same (a := o2.toNat) (b := o3.toNat) (by omega) b2 a1 a2 b1
  have hG2 : o2.toNat * 256 + o3.toNat = G := by omega
  rw [hG2] at s1 s2 s3 s4 s5
  have hF : (o2 ||| (F &&& 4)).toNat * 256 + (o3 ||| (F &&& 240)).toNat = (o2.toNat ||| (F.toNat &&& 4)) * 256 + (o3.toNat ||| (F.toNat &&& 240)) := by rw [t2, t3]
  obtain ⟨K, hK⟩ : ∃ K, (o2.toNat ||| (F.toNat &&& 4)) * 256 + (o3.toNat ||| (F.toNat &&& 240)) = K := ⟨_, rfl⟩
  rw [hK] at s1 s2 s3 s4 s5 hF
  have h := head_back (wordB i ++ [o2 ||| (F &&& 4), o3 ||| (F &&& 240)] ++ wordB 1 ++ wordB rs.length ++ [A, A, F, A]) w i C r q x n k rs hok rfl rfl rfl rfl K (by
    show (0 * 256 + (o2 ||| (F &&& 4)).toNat) * 256 + (o3 ||| (F &&& 240)).toNat = _
    rw [Nat.zero_mul, Nat.zero_add]
    exact hF) (by rw [s1]; exact g1) (by rw [← g2]; exact decide_eq_decide.2 s2) (by rw [← g3, s3]) (by rw [← g4, s4]) (by rw [s5, g5]; rfl)
  rw [h]
  rfl
end Go.Proofs.YtepfeekfglpjoaaDoor

namespace Go.Proofs.YtepfeekfglpjoaaDoor
open Go.RowKit Go.Lib Go.Wi Go.Tx
theorem own_at {B : Nat} {w : World} {g N c : Nat} {l : List UInt8} (h : OwnB B w (.slice (some ⟨g, 0, none⟩) N c) l) {j : Nat} {b : UInt8} (hj : l[j]? = some b) : w.cell? ⟨g, j, none⟩ = some (.int .u8 (b.toNat : Int)) := by
  have ha : ({ block := g, off := 0 } : Addr).add j = ⟨g, j, none⟩ := by unfold Addr.add; split <;> simp_all
  have := World.ownsRow.cells h (g := g) rfl j (u8V b) (by rw [List.getElem?_map, hj]; rfl)
  rw [← ha]
  exact this
set_option maxHeartbeats 4000000 in
set_option maxRecDepth 100000 in
theorem wireBehind_walk (i c k : Int) (r q x : Bool) (s : ByteArray) (a : Option Addr) (n cap : Nat) (rs : List WRec) (a1 : Option Addr) (n1 c1 : Nat) (l1 : List UInt8) (z2 z3 : Int) (W : World) (hs : s.size ≤ maxLen) (hrs : InRecs W a n cap rs) (hraw : BA W a1 n1 c1 l1) (w2 : (Lit.int .u8 z2).wf = true) (w3 : (Lit.int .u8 z3).wf = true) (hm : MaxAt W) :
    Calls Tryd.prog 7 #[.agg #[.int .i64 i, .bool r, .bool q, .bool x, .int .i64 c, .string s, .int .i64 k, .slice a n cap], .slice a1 n1 c1, .int .u8 z2, .int .u8 z3] W fun e w' => e = .returned (.bool true) ∧ Below W.heap.size W w' := by
  have HM := Lib.hid hm
  obtain ⟨R, hR⟩ : ∃ R, (rs.take 35).map cutRec = R := ⟨_, rfl⟩
  obtain ⟨nm, hnm⟩ : ∃ t, cutB s = t := ⟨_, rfl⟩
  obtain ⟨z, hz⟩ : ∃ z, R.length = z := ⟨_, rfl⟩
  have hRs : ∀ y ∈ R, y.name.size ≤ 300 ∧ y.data.size ≤ 300 := by
    rw [← hR]
    intro y hy
    obtain ⟨y0, _, rfl⟩ := List.mem_map.1 hy
    exact ⟨cutB_size _, cutB_size _⟩
  have hnm3 : nm.size ≤ 300 := hnm ▸ cutB_size s
  have HBg : Hid (∀ V, Below W.heap.size W V → Calls Tryd.prog 8 #[] V fun e w' => e = .returned (.bool true) ∧ Below V.heap.size V w') := Lib.hid fun V h => begun5_any V (hm.below h)
  have HCut : Hid (∀ V, Below W.heap.size W V → Calls Tryd.prog 9 #[.agg #[.int .i64 i, .bool r, .bool q, .bool x, .int .i64 c, .string s, .int .i64 k, .slice a n cap]] V fun e w' => ∃ p cc, e = .returned (.agg #[.int .i64 i, .bool r, .bool q, .bool x, .int .i64 c, .string nm, .int .i64 k, .slice p z cc]) ∧ WRecC V.heap.size w' (.slice p z cc) R ∧ Below V.heap.size V w') := Lib.hid fun V h => by
    have := mcut_any i c k r q x s a n cap rs V hs (hrs.below h)
    rw [hR, hnm, hz] at this
    exact this
  have HEncR : Hid (∀ V p cc B, WRecC B V (.slice p z cc) R → Calls Tryd.prog 10 #[.agg #[.int .i64 i, .bool r, .bool q, .bool x, .int .i64 c, .string nm, .int .i64 k, .slice p z cc]] V fun e w' => Below V.heap.size V w' ∧ ((encOK i c r q x nm.data.toList k R = true ∧ ∃ v, e = .returned v ∧ OwnB V.heap.size w' v (msgB i c r q x nm.data.toList k R)) ∨ (encOK i c r q x nm.data.toList k R = false ∧ e = .returned (.slice none 0 0)))) := Lib.hid fun V p cc B h => rencode_any i c k r q x nm (.slice p z cc) R V h.rows (by omega) (fun y hy => by have := hRs y hy; omega)
  have HB1 : Hid (Below W.heap.size W (W.alloc (.cells #[.int .i64 i, .bool r, .bool q, .bool x, .int .i64 c, .string s, .int .i64 k, .slice a n cap] 26))) := Lib.hid ((Below.refl _ W).alloc (Nat.le_refl _) _)
  have HA1 : Hid (At8 (W.alloc (.cells #[.int .i64 i, .bool r, .bool q, .bool x, .int .i64 c, .string s, .int .i64 k, .slice a n cap] 26)) W.heap.size #[.int .i64 i, .bool r, .bool q, .bool x, .int .i64 c, .string s, .int .i64 k, .slice a n cap]) := Lib.hid (heap_alloc_new W _)
  obtain ⟨A, rfl⟩ := byte_of (wf_u8 w2).1 (wf_u8 w2).2
  obtain ⟨F, rfl⟩ := byte_of (wf_u8 w3).1 (wf_u8 w3).2
  have hq1 := hraw.cap
  have hq2 := hraw.max
  have hq3 := hraw.len
  have HRaw : Hid (∀ V, Below W.heap.size W V → BA V a1 n1 c1 l1) := Lib.hid fun V h => ba_bel hraw h
  clear w2 w3
  cases hok : encOK i c r q x nm.data.toList k R with
  | false =>
    have HOk := Lib.hid hok
    clear hm hs hrs hR hnm hok hRs hnm3 hz hraw
    go_enter Tryd.func7, Tryd.ntmps7
    go_upto_region 1 with (fail)
    obtain ⟨bm, hbm⟩ : ∃ b, W.heap.size = b := ⟨_, rfl⟩
    have HBm := Lib.hid hbm
    rw [hbm] at HA1 ⊢
    clear hbm
    generalize W.alloc (.cells #[.int .i64 i, .bool r, .bool q, .bool x, .int .i64 c, .string s, .int .i64 k, .slice a n cap] 26) = W1 at *
    go_upto_region 4 with (go_at_call 8; refine (HBg.out _ HB1.out).mono ?_; rintro e w2 ⟨rfl, hb2⟩; have HB2 := Lib.hid (HB1.out.trans (hb2.mono HB1.out.size)); have HA2 := Lib.hid (HA1.out.bel hb2); clear hb2)
    have n0 := HA2.out.cell (j := 0) rfl
    have n1 := HA2.out.cell (j := 1) rfl
    have n2 := HA2.out.cell (j := 2) rfl
    have n3 := HA2.out.cell (j := 3) rfl
    have n4 := HA2.out.cell (j := 4) rfl
    have n5 := HA2.out.cell (j := 5) rfl
    have n6 := HA2.out.cell (j := 6) rfl
    have n7 := HA2.out.cell (j := 7) rfl
    go_wp2_with (first | (go_at_call 9; refine (HCut.out _ HB2.out).mono ?_; rintro e w3 ⟨p, cc, rfl, hrc, hb3⟩; have HEn := Lib.hid (HEncR.out w3 p cc _ hrc); have HB3 := Lib.hid (HB2.out.trans (hb3.mono HB2.out.size)); clear hrc hb3) | (go_at_call 10; refine HEn.out.mono ?_; rintro e w4 ⟨hb4, hq⟩; rcases hq with ⟨hq, _⟩ | ⟨_, rfl⟩; exact absurd (hq.symm.trans HOk.out) (by decide); have HB4 := Lib.hid (HB3.out.trans (hb4.mono HB3.out.size)); clear hb4))
    go_ret
    exact ⟨rfl, HB4.out⟩
  | true =>
    obtain ⟨_, _, _, hallok, hz32⟩ := enc_facts hok
    rw [hz] at hz32
    obtain ⟨u, hu⟩ : ∃ u, (msgB i c r q x nm.data.toList k R).length = u := ⟨_, rfl⟩
    have hu2 := enc_len hok
    rw [hu] at hu2
    obtain ⟨hu4, hu12⟩ := hu2
    obtain ⟨L, hL⟩ : ∃ L, msgB i c r q x nm.data.toList k R = L := ⟨_, rfl⟩
    have HEn2 : Hid (∀ V p cc B, WRecC B V (.slice p z cc) R → Calls Tryd.prog 10 #[.agg #[.int .i64 i, .bool r, .bool q, .bool x, .int .i64 c, .string nm, .int .i64 k, .slice p z cc]] V fun e w' => ∃ g gc, e = .returned (.slice (some ⟨g, 0, none⟩) u gc) ∧ V.heap.size ≤ g ∧ OwnB V.heap.size w' (.slice (some ⟨g, 0, none⟩) u gc) L ∧ g < w'.heap.size ∧ BA w' (some ⟨g, 0, none⟩) u gc L ∧ Below V.heap.size V w') := Lib.hid fun V p cc B h => (HEncR.out V p cc B h).mono (by
      rintro e w' ⟨hb, ⟨_, v, he, ho⟩ | ⟨hf, _⟩⟩
      · obtain ⟨g, gc, rfl, hg, hba⟩ := own_ba ho (by omega)
        rw [hu] at he ho hba
        rw [hL] at ho hba
        exact ⟨g, gc, he, (World.ownsRow.lt ho g rfl).1, ho, hg, hba, hb⟩
      · rw [hok] at hf; cases hf)
    have hdw0 := written_dec (i := i) (c := c) (r := r) (q := q) (x := x) (n := nm.data.toList) (k := k) (rs := R) hok [] (by rw [List.append_nil]; exact (enc_len hok).1)
    rw [List.append_nil, hL] at hdw0
    have HDecA : Hid (∀ l, decW l = some (msgOf i c r q x nm.data.toList k R) → ∀ V a n c', BA V a n c' l → (∀ y, a = some y → y.block < V.heap.size) → Below W.heap.size W V → Calls Tryd.prog 13 #[.slice a n c'] V fun e w' => ∃ p2 cc2, e = .returned (.tuple #[.agg #[.int .i64 i, .bool r, .bool q, .bool x, .int .i64 c, .string nm, .int .i64 k, .slice p2 z cc2], .nilIface]) ∧ RecC V.heap.size w' (.slice p2 z cc2) (R.map toRec) ∧ Below V.heap.size V w') := Lib.hid fun l hl V a n c' hba hg hV => by
      have h := dec_back hok hl a n c' V hba hg (HM.out.below hV)
      rw [hz] at h
      exact h
    have HEq : Hid (∀ V v1 v2 B1 B2, RecC B1 V v1 (R.map toRec) → RecC B2 V v2 (R.map toRec) → Calls Tryd.prog 14 #[.agg #[.int .i64 i, .bool r, .bool q, .bool x, .int .i64 c, .string nm, .int .i64 k, v1], .agg #[.int .i64 i, .bool r, .bool q, .bool x, .int .i64 c, .string nm, .int .i64 k, v2]] V fun e w' => e = .returned (.bool true) ∧ Below V.heap.size V w') := Lib.hid fun V v1 v2 B1 B2 h1 h2 => eq_back hok v1 v2 B1 B2 V h1 h2
    have HBeh : Hid (u + n1 ≤ 4096 → ∀ o2 o3, (L ++ l1)[2]? = some o2 → (L ++ l1)[3]? = some o3 → decW (behindB (L ++ l1) A F o2 o3) = some (msgOf i c r q x nm.data.toList k R)) := Lib.hid fun h o2 o3 h2 h3 => by
      rw [← hL] at h2 h3 ⊢
      exact behind_dec hok l1 (by rw [List.length_append, hu, hq3]; exact h) A F o2 o3 h2 h3
    have HLl : Hid (L.length = u) := Lib.hid (by rw [← hL]; exact hu)
    have HL1 := Lib.hid hq3
    have HDw0 := Lib.hid hdw0
    have hk0 : ((u : Int) == 0) = false := by rw [beq_eq_false_iff_ne]; omega
    clear hm hs hrs hR hnm hok hRs hnm3 hz hu hL hdw0 hallok hz32 hraw hq3
    by_cases hgood : n1 ≤ 100 ∧ u + n1 ≤ 4096
    · obtain ⟨h100, h4096⟩ := hgood
      have HBe := Lib.hid (HBeh.out h4096)
      have hk1 : ¬ (100 : Int) < (n1 : Int) := by omega
      have hk2 : ¬ (4096 : Int) < (u : Int) + (n1 : Int) := by omega
      go_enter Tryd.func7, Tryd.ntmps7
      go_upto_region 1 with (fail)
      obtain ⟨bm, hbm⟩ : ∃ b, W.heap.size = b := ⟨_, rfl⟩
      have HBm := Lib.hid hbm
      rw [hbm] at HA1 ⊢
      clear hbm
      generalize W.alloc (.cells #[.int .i64 i, .bool r, .bool q, .bool x, .int .i64 c, .string s, .int .i64 k, .slice a n cap] 26) = W1 at *
      go_upto_region 4 with (go_at_call 8; refine (HBg.out _ HB1.out).mono ?_; rintro e w2 ⟨rfl, hb2⟩; have HB2 := Lib.hid (HB1.out.trans (hb2.mono HB1.out.size)); have HA2 := Lib.hid (HA1.out.bel hb2); clear hb2)
      have n0 := HA2.out.cell (j := 0) rfl
      have n1 := HA2.out.cell (j := 1) rfl
      have n2 := HA2.out.cell (j := 2) rfl
      have n3 := HA2.out.cell (j := 3) rfl
      have n4 := HA2.out.cell (j := 4) rfl
      have n5 := HA2.out.cell (j := 5) rfl
      have n6 := HA2.out.cell (j := 6) rfl
      have n7 := HA2.out.cell (j := 7) rfl
      go_upto_region 7 with (first | (go_at_call 9; refine (HCut.out _ HB2.out).mono ?_; rintro e w3 ⟨p, cc, rfl, hrc, hb3⟩; have HEn := Lib.hid (HEn2.out w3 p cc _ hrc); have HB3 := Lib.hid (HB2.out.trans (hb3.mono HB2.out.size)); clear hrc hb3) | (go_at_call 10; refine HEn.out.mono ?_; rintro e w4 ⟨g, gc, rfl, _, hox, hg, hba, hb4⟩; have HB4 := Lib.hid (HB3.out.trans (hb4.mono HB3.out.size)); have HO4 := Lib.hid hox; have HG4 := Lib.hid hg; have HBa4 := Lib.hid hba; have hgc := hba.cap; have hgx := hba.max; clear hb4 hba hg hox))
      clear hk0 hk1 hk2 n0 n1 n2 n3 n4 n5 n6 n7
      have HDc := Lib.hid (HDecA.out L HDw0.out w4 _ _ _ HBa4.out (fun y hy => by cases hy; exact HG4.out) HB4.out)
      go_upto_region 8 with (go_at_call 13; refine HDc.out.mono ?_; rintro e w5 ⟨p2, cc2, rfl, hr5, hb5⟩; have HB5 := Lib.hid (HB4.out.trans (hb5.mono HB4.out.size)); have HR5 := Lib.hid hr5; have HBa5 := Lib.hid (ba_bel HBa4.out hb5); clear hr5 hb5)
      have hb6 : Below w5.heap.size w5 (w5.alloc (.cells #[.int .i64 i, .bool r, .bool q, .bool x, .int .i64 c, .string nm, .int .i64 k, .slice p2 z cc2] 26)) := (Below.refl _ w5).alloc (Nat.le_refl _) _
      have HB6 := Lib.hid (HB5.out.trans (hb6.mono HB5.out.size))
      have HR6 := Lib.hid (own_bel HR5.out hb6)
      have HBa6 := Lib.hid (ba_bel HBa5.out hb6)
      have HX6 : Hid (At8 (w5.alloc (.cells #[.int .i64 i, .bool r, .bool q, .bool x, .int .i64 c, .string nm, .int .i64 k, .slice p2 z cc2] 26)) w5.heap.size #[.int .i64 i, .bool r, .bool q, .bool x, .int .i64 c, .string nm, .int .i64 k, .slice p2 z cc2]) := Lib.hid (heap_alloc_new w5 _)
      obtain ⟨bx, hbx⟩ : ∃ b, w5.heap.size = b := ⟨_, rfl⟩
      rw [hbx] at HX6 ⊢
      clear hb6 hbx
      generalize w5.alloc (.cells #[.int .i64 i, .bool r, .bool q, .bool x, .int .i64 c, .string nm, .int .i64 k, .slice p2 z cc2] 26) = w6 at *
      have HRw := Lib.hid (HRaw.out w6 HB6.out)
      have HNil : Hid (OwnB w6.heap.size w6 (.slice none 0 0) []) := Lib.hid (World.ownsRow_nil _ _ _ _)
      go_upto_region 9 with (first | (at_builtin; (refine wpList_append_ba rfl _ _ rfl (B := w6.heap.size) (N := u) (l := []) rfl rfl HNil.out HBa6.out (by simp) (by omega) (Nat.le_refl _) ?_; intro p7 c7 w7 hO7 hb7; have HO7 := Lib.hid hO7; have HB7 := Lib.hid hb7; have HRw7 := Lib.hid (ba_bel HRw.out hb7); clear hO7 hb7)) | (at_builtin; (refine wpList_append_ba rfl _ _ rfl (B := w6.heap.size) (N := u + n1) (l := [] ++ L) rfl rfl HO7.out HRw7.out (by rw [List.nil_append, HLl.out]) (by omega) HB7.out.size ?_; intro p8 c8 w8 hO8 hb8; have HO8 := Lib.hid hO8; have HB8 := Lib.hid hb8; clear hO8 hb8)))
      have HN : Hid (([] ++ L ++ l1).length = u + n1) := Lib.hid (by rw [List.nil_append, List.length_append, HLl.out, HL1.out])
      have HB8b := Lib.hid (HB7.out.trans HB8.out)
      have HW8 := Lib.hid (HB6.out.trans (HB8b.out.mono HB6.out.size))
      obtain ⟨N, hN⟩ : ∃ m, u + n1 = m := ⟨_, rfl⟩
      obtain ⟨l8, hl8⟩ : ∃ l, L ++ l1 = l := ⟨_, rfl⟩
      have hN12 : 12 ≤ N := by omega
      have hN4 : N ≤ 4096 := by omega
      rw [List.nil_append, hN, hl8] at HN
      rw [List.nil_append, hN, hl8] at HO8
      rw [hN]
      rw [hl8] at HBe
      obtain ⟨g8, c8x, e8, hg8, hba8⟩ := own_ba HO8.out (by rw [HN.out]; omega)
      rw [HN.out] at e8 hba8
      cases e8
      have HX8 := Lib.hid (HX6.out.bel HB8b.out)
      have HR8 := Lib.hid (own_bel HR6.out HB8b.out)
      have HG8 := Lib.hid (World.ownsRow.lt HO8.out g8 rfl).1
      have hc8 := hba8.cap
      have hc8b := hba8.max
      have hat : ∀ j, j < 12 → ∃ b, l8[j]? = some b := fun j hj => ⟨_, List.getElem?_eq_getElem (by rw [HN.out]; omega)⟩
      obtain ⟨o2, ho2⟩ := hat 2 (by omega)
      obtain ⟨o3, ho3⟩ := hat 3 (by omega)
      obtain ⟨o8, ho8⟩ := hat 8 (by omega)
      obtain ⟨o9, ho9⟩ := hat 9 (by omega)
      obtain ⟨o10, ho10⟩ := hat 10 (by omega)
      obtain ⟨o11, ho11⟩ := hat 11 (by omega)
      have HDw := Lib.hid (HBe.out o2 o3 ho2 ho3)
      have m8 := own_at HO8.out ho8
      have m9 := own_at HO8.out ho9
      have m10 := own_at HO8.out ho10
      have m11 := own_at HO8.out ho11
      have f8 := own_free HO8.out 8
      have f9 := own_free HO8.out 9
      have f10 := own_free HO8.out 10
      have f11 := own_free HO8.out 11
      have i8 : (8 : Int) < (N : Int) := by omega
      have i9 : (9 : Int) < (N : Int) := by omega
      have i10 : (10 : Int) < (N : Int) := by omega
      have i11 : (11 : Int) < (N : Int) := by omega
      have HO2 := Lib.hid ho2
      have HO3 := Lib.hid ho3
      clear hN hl8 hat ho2 ho3 ho8 ho9 ho10 ho11 hba8 hg8 HBe HRw HNil HO7 HRw7
      go_upto_region 10 with (fail)
      have HO98 : Hid (OwnB w6.heap.size (w8.setCell ⟨g8, 8, none⟩ (.int .u8 (A.toNat : Int))) (.slice (some ⟨g8, 0, none⟩) N c8) (l8.set 8 A)) := Lib.hid (own_turn HO8.out (by exact HN.out) 8 (by omega) A)
      have HO99 : Hid (OwnB w6.heap.size ((w8.setCell ⟨g8, 8, none⟩ (.int .u8 (A.toNat : Int))).setCell ⟨g8, 9, none⟩ (.int .u8 (A.toNat : Int))) (.slice (some ⟨g8, 0, none⟩) N c8) ((l8.set 8 A).set 9 A)) := Lib.hid (own_turn HO98.out (by simp only [List.length_set]; exact HN.out) 9 (by omega) A)
      have HO910 : Hid (OwnB w6.heap.size (((w8.setCell ⟨g8, 8, none⟩ (.int .u8 (A.toNat : Int))).setCell ⟨g8, 9, none⟩ (.int .u8 (A.toNat : Int))).setCell ⟨g8, 10, none⟩ (.int .u8 (F.toNat : Int))) (.slice (some ⟨g8, 0, none⟩) N c8) (((l8.set 8 A).set 9 A).set 10 F)) := Lib.hid (own_turn HO99.out (by simp only [List.length_set]; exact HN.out) 10 (by omega) F)
      have HO911 : Hid (OwnB w6.heap.size ((((w8.setCell ⟨g8, 8, none⟩ (.int .u8 (A.toNat : Int))).setCell ⟨g8, 9, none⟩ (.int .u8 (A.toNat : Int))).setCell ⟨g8, 10, none⟩ (.int .u8 (F.toNat : Int))).setCell ⟨g8, 11, none⟩ (.int .u8 (A.toNat : Int))) (.slice (some ⟨g8, 0, none⟩) N c8) ((((l8.set 8 A).set 9 A).set 10 F).set 11 A)) := Lib.hid (own_turn HO910.out (by simp only [List.length_set]; exact HN.out) 11 (by omega) A)
      have hWg : W.heap.size ≤ g8 := Nat.le_trans HB6.out.size HG8.out
      have HK9 : Hid (Below w6.heap.size w6 ((((w8.setCell ⟨g8, 8, none⟩ (.int .u8 (A.toNat : Int))).setCell ⟨g8, 9, none⟩ (.int .u8 (A.toNat : Int))).setCell ⟨g8, 10, none⟩ (.int .u8 (F.toNat : Int))).setCell ⟨g8, 11, none⟩ (.int .u8 (A.toNat : Int)))) := Lib.hid (below_set1 (below_set1 (below_set1 (below_set1 HB8b.out HG8.out 8 _) HG8.out 9 _) HG8.out 10 _) HG8.out 11 _)
      obtain ⟨l9, hl9⟩ : ∃ l, (((l8.set 8 A).set 9 A).set 10 F).set 11 A = l := ⟨_, rfl⟩
      have ho2 : l9[2]? = some o2 := by rw [← hl9, List.getElem?_set_ne (by decide), List.getElem?_set_ne (by decide), List.getElem?_set_ne (by decide), List.getElem?_set_ne (by decide)]; exact HO2.out
      have ho3 : l9[3]? = some o3 := by rw [← hl9, List.getElem?_set_ne (by decide), List.getElem?_set_ne (by decide), List.getElem?_set_ne (by decide), List.getElem?_set_ne (by decide)]; exact HO3.out
      have hN9 : l9.length = N := by rw [← hl9]; simp only [List.length_set]; exact HN.out
      have HDw9 : Hid (decW ((l9.set 2 (o2 ||| (F &&& 4))).set 3 (o3 ||| (F &&& 240))) = some (msgOf i c r q x nm.data.toList k R)) := Lib.hid (by rw [← hl9]; exact HDw.out)
      rw [hl9] at HO911
      clear HO98 HO99 HO910 hl9 m8 m9 m10 m11 f8 f9 f10 f11 i8 i9 i10 i11 HDw HX8 HR8
      generalize (((w8.setCell ⟨g8, 8, none⟩ (.int .u8 (A.toNat : Int))).setCell ⟨g8, 9, none⟩ (.int .u8 (A.toNat : Int))).setCell ⟨g8, 10, none⟩ (.int .u8 (F.toNat : Int))).setCell ⟨g8, 11, none⟩ (.int .u8 (A.toNat : Int)) = w9 at *
      have m2 := own_at HO911.out ho2
      have f2 := own_free HO911.out 2
      have i2 : (2 : Int) < (N : Int) := by omega
      have hand : bits .and .u8 (F.toNat : Int) 4 = ((F &&& 4).toNat : Int) := and_byte F 4 (by decide)
      have hor := or_byte o2 (F &&& 4)
      obtain ⟨G, hG⟩ : ∃ G, F &&& 4 = G := ⟨_, rfl⟩
      obtain ⟨P, hP⟩ : ∃ P, o2 ||| (F &&& 4) = P := ⟨_, rfl⟩
      rw [hP] at hor HDw9
      rw [hG] at hand hor
      clear hP hG
      go_upto_region 11 with (fail)
      have HO10 := Lib.hid (own_turn HO911.out hN9 2 (by omega) P)
      have HK10 : Hid (Below w6.heap.size w6 (w9.setCell ⟨g8, 2, none⟩ (.int .u8 (P.toNat : Int)))) := Lib.hid (below_set1 HK9.out HG8.out 2 _)
      obtain ⟨la, hla⟩ : ∃ l, l9.set 2 P = l := ⟨_, rfl⟩
      have ho3 : la[3]? = some o3 := by rw [← hla, List.getElem?_set_ne (by decide)]; exact ho3
      have hNa : la.length = N := by rw [← hla, List.length_set]; exact hN9
      rw [hla] at HO10 HDw9
      clear hla m2 f2 i2 hand hor
      generalize w9.setCell ⟨g8, 2, none⟩ (.int .u8 (P.toNat : Int)) = wa at *
      have m3 := own_at HO10.out ho3
      have f3 := own_free HO10.out 3
      have i3 : (3 : Int) < (N : Int) := by omega
      have hand : bits .and .u8 (F.toNat : Int) 240 = ((F &&& 240).toNat : Int) := and_byte F 240 (by decide)
      have hor := or_byte o3 (F &&& 240)
      obtain ⟨G3, hG⟩ : ∃ G, F &&& 240 = G := ⟨_, rfl⟩
      obtain ⟨P3, hP⟩ : ∃ P, o3 ||| (F &&& 240) = P := ⟨_, rfl⟩
      rw [hP] at hor HDw9
      rw [hG] at hand hor
      clear hP hG
      go_upto_region 12 with (fail)
      have HO11 := Lib.hid (own_turn HO10.out hNa 3 (by omega) P3)
      have HK11 : Hid (Below w6.heap.size w6 (wa.setCell ⟨g8, 3, none⟩ (.int .u8 (P3.toNat : Int)))) := Lib.hid (below_set1 HK10.out HG8.out 3 _)
      obtain ⟨lb, hlb⟩ : ∃ l, la.set 3 P3 = l := ⟨_, rfl⟩
      have hNb : lb.length = N := by rw [← hlb, List.length_set]; exact hNa
      rw [hlb] at HO11 HDw9
      clear hlb m3 f3 i3 hand hor ho3
      generalize wa.setCell ⟨g8, 3, none⟩ (.int .u8 (P3.toNat : Int)) = wb at *
      have hbb := own_bytes HO11.out hNb
      have HWb := Lib.hid (HB6.out.trans (HK11.out.mono HB6.out.size))
      have HDd := Lib.hid (HDecA.out lb HDw9.out wb _ _ _ hbb.1 hbb.2 HWb.out)
      have HXb := Lib.hid (HX6.out.bel HK11.out)
      have HRb := Lib.hid (own_bel HR6.out HK11.out)
      clear hbb
      go_upto_region 13 with (go_at_call 13; refine HDd.out.mono ?_; rintro e wc ⟨p3, cc3, rfl, hrc, hbc⟩; have HBc := Lib.hid (HWb.out.trans (hbc.mono HWb.out.size)); have HRc := Lib.hid hrc; have HXc := Lib.hid (HXb.out.bel hbc); have HRbc := Lib.hid (own_bel HRb.out hbc); clear hrc hbc)
      have hbd : Below wc.heap.size wc (wc.alloc (.cells #[.int .i64 i, .bool r, .bool q, .bool x, .int .i64 c, .string nm, .int .i64 k, .slice p3 z cc3] 26)) := (Below.refl _ wc).alloc (Nat.le_refl _) _
      have HBd := Lib.hid (HBc.out.trans (hbd.mono HBc.out.size))
      have HXd := Lib.hid (HXc.out.bel hbd)
      have HYd : Hid (At8 (wc.alloc (.cells #[.int .i64 i, .bool r, .bool q, .bool x, .int .i64 c, .string nm, .int .i64 k, .slice p3 z cc3] 26)) wc.heap.size #[.int .i64 i, .bool r, .bool q, .bool x, .int .i64 c, .string nm, .int .i64 k, .slice p3 z cc3]) := Lib.hid (heap_alloc_new wc _)
      have HE := Lib.hid (HEq.out _ _ _ _ _ (own_bel HRbc.out hbd) (own_bel HRc.out hbd))
      obtain ⟨by3, hby3⟩ : ∃ b, wc.heap.size = b := ⟨_, rfl⟩
      rw [hby3] at HYd ⊢
      clear hbd hby3
      generalize wc.alloc (.cells #[.int .i64 i, .bool r, .bool q, .bool x, .int .i64 c, .string nm, .int .i64 k, .slice p3 z cc3] 26) = wd at *
      have x0 := HXd.out.cell (j := 0) rfl
      have x1 := HXd.out.cell (j := 1) rfl
      have x2 := HXd.out.cell (j := 2) rfl
      have x3 := HXd.out.cell (j := 3) rfl
      have x4 := HXd.out.cell (j := 4) rfl
      have x5 := HXd.out.cell (j := 5) rfl
      have x6 := HXd.out.cell (j := 6) rfl
      have x7 := HXd.out.cell (j := 7) rfl
      have y0 := HYd.out.cell (j := 0) rfl
      have y1 := HYd.out.cell (j := 1) rfl
      have y2 := HYd.out.cell (j := 2) rfl
      have y3 := HYd.out.cell (j := 3) rfl
      have y4 := HYd.out.cell (j := 4) rfl
      have y5 := HYd.out.cell (j := 5) rfl
      have y6 := HYd.out.cell (j := 6) rfl
      have y7 := HYd.out.cell (j := 7) rfl
      go_wp2_with (go_at_call 14; refine HE.out.mono ?_; rintro e we ⟨rfl, hbe⟩; have HBe2 := Lib.hid (HBd.out.trans (hbe.mono HBd.out.size)); clear hbe)
      go_ret
      exact ⟨rfl, HBe2.out⟩
    · have hcase : (100 : Int) < (n1 : Int) ∨ (¬ (100 : Int) < (n1 : Int) ∧ (4096 : Int) < (u : Int) + (n1 : Int)) := by omega
      clear hgood
      rcases hcase with h1 | ⟨h1, h2⟩
      all_goals
        go_enter Tryd.func7, Tryd.ntmps7
        go_upto_region 1 with (fail)
        obtain ⟨bm, hbm⟩ : ∃ b, W.heap.size = b := ⟨_, rfl⟩
        have HBm := Lib.hid hbm
        rw [hbm] at HA1 ⊢
        clear hbm
        generalize W.alloc (.cells #[.int .i64 i, .bool r, .bool q, .bool x, .int .i64 c, .string s, .int .i64 k, .slice a n cap] 26) = W1 at *
        go_upto_region 4 with (go_at_call 8; refine (HBg.out _ HB1.out).mono ?_; rintro e w2 ⟨rfl, hb2⟩; have HB2 := Lib.hid (HB1.out.trans (hb2.mono HB1.out.size)); have HA2 := Lib.hid (HA1.out.bel hb2); clear hb2)
        have n0 := HA2.out.cell (j := 0) rfl
        have n1 := HA2.out.cell (j := 1) rfl
        have n2 := HA2.out.cell (j := 2) rfl
        have n3 := HA2.out.cell (j := 3) rfl
        have n4 := HA2.out.cell (j := 4) rfl
        have n5 := HA2.out.cell (j := 5) rfl
        have n6 := HA2.out.cell (j := 6) rfl
        have n7 := HA2.out.cell (j := 7) rfl
        go_wp2_with (first | (go_at_call 9; refine (HCut.out _ HB2.out).mono ?_; rintro e w3 ⟨p, cc, rfl, hrc, hb3⟩; have HEn := Lib.hid (HEn2.out w3 p cc _ hrc); have HB3 := Lib.hid (HB2.out.trans (hb3.mono HB2.out.size)); clear hrc hb3) | (go_at_call 10; refine HEn.out.mono ?_; rintro e w4 ⟨g, gc, rfl, _, hox, hg, hba, hb4⟩; have HB4 := Lib.hid (HB3.out.trans (hb4.mono HB3.out.size)); have HO4 := Lib.hid hox; have HG4 := Lib.hid hg; have HBa4 := Lib.hid hba; have hgc := hba.cap; have hgx := hba.max; clear hb4 hba hg hox))
        go_ret
        exact ⟨rfl, HB4.out⟩
end Go.Proofs.YtepfeekfglpjoaaDoor

