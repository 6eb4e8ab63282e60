/- Contracts and plain facts that the law leans on. -/
import Derived.Test.YtepfeekfglpjoaaDoorWsCc
import Derived.Test.YtepfeekfglpjoaaDoorWsCe
namespace Go.Proofs.YtepfeekfglpjoaaDoor
open Go.RowKit Go.Lib Go.Wi Go.Tx
theorem set8_any {w : World} {b : Nat} {y0 y1 y2 y3 y4 y5 y6 y7 : Value} (h : At8 w b #[y0, y1, y2, y3, y4, y5, y6, y7]) (x0 x1 x2 x3 x4 x5 x6 x7 : Value) : At8 (set8 w b x0 x1 x2 x3 x4 x5 x6 x7) b #[x0, x1, x2, x3, x4, x5, x6, x7] := by
  have h8 := (((((((h.set 0 x0).set 1 x1).set 2 x2).set 3 x3).set 4 x4).set 5 x5).set 6 x6).set 7 x7
  have e : (((((((#[y0, y1, y2, y3, y4, y5, y6, y7].setIfInBounds 0 x0).setIfInBounds 1 x1).setIfInBounds 2 x2).setIfInBounds 3 x3).setIfInBounds 4 x4).setIfInBounds 5 x5).setIfInBounds 6 x6).setIfInBounds 7 x7 = #[x0, x1, x2, x3, x4, x5, x6, x7] := by simp
  rw [e] at h8
  exact h8
theorem bytes_same (s : ByteArray) : (⟨s.data.toList.toArray⟩ : ByteArray) = s := by cases s; simp
/-- Records that may be written read as what is read back. -/
theorem rec_same {B : Nat} {w : World} {v : Value} {R : List WRec} (h : WRecC B w v R) (hok : ∀ y ∈ R, y.ok = true) : RecC B w v (R.map toRec) := by
  unfold RecC
  have e : (R.map toRec).flatMap recCells = R.flatMap wCells := by
    clear h
    induction R with
    | nil => rfl
    | cons y R ih =>
      rw [List.map_cons, List.flatMap_cons, List.flatMap_cons, ih (fun z hz => hok z (by simp [hz]))]
      congr 1
      have hy := hok y (by simp)
      obtain ⟨nm, k, t, d⟩ := y
      unfold WRec.ok recOK subOK wordOK lifeOK at hy
      simp only [Bool.and_eq_true, decide_eq_true_eq] at hy
      obtain ⟨⟨⟨_, hk, _⟩, ht, _⟩, _⟩ := hy
      have ek : ((k.toNat : Nat) : Int) = k := by omega
      have et : ((t.toNat : Nat) : Int) = t := by omega
      unfold recCells toRec wCells
      simp only [bytes_same, ek, et]
  rw [e, List.length_map]
  exact h
theorem enc_facts {i c k : Int} {r q x : Bool} {n : List UInt8} {rs : List WRec} (hok : encOK i c r q x n k rs = true) : ((i.toNat : Nat) : Int) = i ∧ ((c.toNat : Nat) : Int) = c ∧ ((k.toNat : Nat) : Int) = k ∧ (∀ y ∈ rs, y.ok = true) ∧ rs.length ≤ 32 := by
  have hm := hok
  rw [encOK_may] at hm
  unfold mayB headMay at hm
  simp only [Bool.and_eq_true, decide_eq_true_eq] at hm
  exact ⟨by omega, by omega, by omega, fun y hy => List.all_eq_true.1 hm.1.2 y hy, by omega⟩
/-- The message that was cut, and what is read back: the document's Eq is true. -/
theorem eq_back {i c k : Int} {r q x : Bool} {nm : ByteArray} {R : List WRec} (hok : encOK i c r q x nm.data.toList k R = true) (v1 v2 : Value) (B1 B2 : Nat) (w : World) (h1 : RecC B1 w v1 (R.map toRec)) (h2 : RecC B2 w v2 (R.map toRec)) :
    Calls Tryd.prog 14 #[.agg #[.int .i64 i, .bool r, .bool q, .bool x, .int .i64 c, .string nm, .int .i64 k, v1], .agg #[.int .i64 i, .bool r, .bool q, .bool x, .int .i64 c, .string nm, .int .i64 k, v2]] w fun e w' => e = .returned (.bool true) ∧ Below w.heap.size w w' := by
  obtain ⟨e1, e2, e3, _, h32⟩ := enc_facts hok
  have h := eq_any (msgOf i c r q x nm.data.toList k R) v1 v2 B1 B2 w h1 h2 (by show (R.map toRec).length ≤ _; rw [List.length_map]; omega)
  unfold Msg.val msgOf at h
  simp only [e1, e2, e3, bytes_same] at h
  exact h
/-- What was written, whatever follows, is read by the program. -/
theorem dec_back {i c k : Int} {r q x : Bool} {nm : ByteArray} {R : List WRec} (hok : encOK i c r q x nm.data.toList k R = true) {l : List UInt8} (hl : decW l = some (msgOf i c r q x nm.data.toList k R)) (a : Option Addr) (n c' : Nat) (w : World) (h : BA w a n c' l) (hold : ∀ x, a = some x → x.block < w.heap.size) (hm : MaxAt w) :
    Calls Tryd.prog 13 #[.slice a n c'] w fun e w' => ∃ p cc, e = .returned (.tuple #[.agg #[.int .i64 i, .bool r, .bool q, .bool x, .int .i64 c, .string nm, .int .i64 k, .slice p R.length cc], .nilIface]) ∧ RecC w.heap.size w' (.slice p R.length cc) (R.map toRec) ∧ Below w.heap.size w w' := by
  obtain ⟨e1, e2, e3, _, h32⟩ := enc_facts hok
  refine (decode_any a n c' l w h hold hm).mono ?_
  rintro e w' ⟨hb, hx⟩
  rw [hl] at hx
  obtain ⟨v, he, hr⟩ := hx
  have hr2 : RecC w.heap.size w' v (R.map toRec) := hr
  obtain ⟨p, cc, rfl⟩ := slice_of hr2
  rw [List.length_map] at hr2 he
  unfold Msg.val msgOf at he
  simp only [e1, e2, e3, bytes_same] at he
  exact ⟨p, cc, he, hr2, hb⟩
end Go.Proofs.YtepfeekfglpjoaaDoor

namespace Go.Proofs.YtepfeekfglpjoaaDoor
open Go.RowKit Go.Lib Go.Wi Go.Tx
set_option maxHeartbeats 4000000 in
set_option maxRecDepth 100000 in
theorem wireCode_walk (i c k : Int) (r q x : Bool) (s : ByteArray) (a : Option Addr) (n cap : Nat) (rs : List WRec) (W : World) (hs : s.size ≤ maxLen) (hrs : InRecs W a n cap rs) (hm : MaxAt W) :
    Calls Tryd.prog 3 #[.agg #[.int .i64 i, .bool r, .bool q, .bool x, .int .i64 c, .string s, .int .i64 k, .slice a n cap]] W fun e w' => e = .returned (.bool true) ∧ Below W.heap.size W w' := by
  have HM := Lib.hid hm
  obtain ⟨R, hR⟩ : ∃ R, (rs.take 35).map cutRec = R := ⟨_, rfl⟩
  obtain ⟨nm, hnm⟩ : ∃ t, cutB s = t := ⟨_, rfl⟩
  obtain ⟨z, hz⟩ : ∃ z, R.length = z := ⟨_, rfl⟩
  have hRs : ∀ y ∈ R, y.name.size ≤ 300 ∧ y.data.size ≤ 300 := by
    rw [← hR]
    intro y hy
    obtain ⟨y0, _, rfl⟩ := List.mem_map.1 hy
    exact ⟨cutB_size _, cutB_size _⟩
  have hnm3 : nm.size ≤ 300 := hnm ▸ cutB_size s
  have HBg : Hid (∀ V, Below W.heap.size W V → Calls Tryd.prog 8 #[] V fun e w' => e = .returned (.bool true) ∧ Below V.heap.size V w') := Lib.hid fun V h => begun5_any V (hm.below h)
  have HCut : Hid (∀ V, Below W.heap.size W V → Calls Tryd.prog 9 #[.agg #[.int .i64 i, .bool r, .bool q, .bool x, .int .i64 c, .string s, .int .i64 k, .slice a n cap]] V fun e w' => ∃ p cc, e = .returned (.agg #[.int .i64 i, .bool r, .bool q, .bool x, .int .i64 c, .string nm, .int .i64 k, .slice p z cc]) ∧ WRecC V.heap.size w' (.slice p z cc) R ∧ Below V.heap.size V w') := Lib.hid fun V h => by
    have := mcut_any i c k r q x s a n cap rs V hs (hrs.below h)
    rw [hR, hnm, hz] at this
    exact this
  have HEncR : Hid (∀ V p cc B, WRecC B V (.slice p z cc) R → Calls Tryd.prog 10 #[.agg #[.int .i64 i, .bool r, .bool q, .bool x, .int .i64 c, .string nm, .int .i64 k, .slice p z cc]] V fun e w' => Below V.heap.size V w' ∧ ((encOK i c r q x nm.data.toList k R = true ∧ ∃ v, e = .returned v ∧ OwnB V.heap.size w' v (msgB i c r q x nm.data.toList k R)) ∨ (encOK i c r q x nm.data.toList k R = false ∧ e = .returned (.slice none 0 0)))) := Lib.hid fun V p cc B h => rencode_any i c k r q x nm (.slice p z cc) R V h.rows (by omega) (fun y hy => by have := hRs y hy; omega)
  have HB1 : Hid (Below W.heap.size W (W.alloc (.cells #[.int .i64 i, .bool r, .bool q, .bool x, .int .i64 c, .string s, .int .i64 k, .slice a n cap] 26))) := Lib.hid ((Below.refl _ W).alloc (Nat.le_refl _) _)
  have HA1 : Hid (At8 (W.alloc (.cells #[.int .i64 i, .bool r, .bool q, .bool x, .int .i64 c, .string s, .int .i64 k, .slice a n cap] 26)) W.heap.size #[.int .i64 i, .bool r, .bool q, .bool x, .int .i64 c, .string s, .int .i64 k, .slice a n cap]) := Lib.hid (heap_alloc_new W _)
  have HWenc : Hid (∀ V p cc B, WRecC B V (.slice p z cc) R → Below W.heap.size W V → Calls Tryd.prog 11 #[.agg #[.int .i64 i, .bool r, .bool q, .bool x, .int .i64 c, .string nm, .int .i64 k, .slice p z cc]] V fun e w' => Below V.heap.size V w' ∧ ((encOK i c r q x nm.data.toList k R = true ∧ ∃ v, e = .returned (.tuple #[v, .nilIface]) ∧ OwnB (V.heap.size + 2) w' v (msgB i c r q x nm.data.toList k R)) ∨ (encOK i c r q x nm.data.toList k R = false ∧ e = .returned (.tuple #[.slice none 0 0, badV])))) := Lib.hid fun V p cc B h hV => wencode_any i c k r q x nm (.slice p z cc) R V h.rows (by unfold maxLen; omega) (fun y hy => by have := hRs y hy; unfold maxLen; omega) (HM.out.below hV)
  cases hok : encOK i c r q x nm.data.toList k R with
  | false =>
    have HOk := Lib.hid hok
    clear hm hs hrs hR hnm hok hRs hnm3 hz
    go_enter Tryd.func3, Tryd.ntmps3
    go_upto_region 1 with (fail)
    obtain ⟨bm, hbm⟩ : ∃ b, W.heap.size = b := ⟨_, rfl⟩
    have HBm := Lib.hid hbm
    rw [hbm] at HA1 ⊢
    clear hbm
    generalize W.alloc (.cells #[.int .i64 i, .bool r, .bool q, .bool x, .int .i64 c, .string s, .int .i64 k, .slice a n cap] 26) = W1 at *
    go_upto_region 4 with (go_at_call 8; refine (HBg.out _ HB1.out).mono ?_; rintro e w2 ⟨rfl, hb2⟩; have HB2 := Lib.hid (HB1.out.trans (hb2.mono HB1.out.size)); have HA2 := Lib.hid (HA1.out.bel hb2); clear hb2)
    have n0 := HA2.out.cell (j := 0) rfl
    have n1 := HA2.out.cell (j := 1) rfl
    have n2 := HA2.out.cell (j := 2) rfl
    have n3 := HA2.out.cell (j := 3) rfl
    have n4 := HA2.out.cell (j := 4) rfl
    have n5 := HA2.out.cell (j := 5) rfl
    have n6 := HA2.out.cell (j := 6) rfl
    have n7 := HA2.out.cell (j := 7) rfl
    go_upto_region 5 with (go_at_call 9; refine (HCut.out _ HB2.out).mono ?_; rintro e w3 ⟨p, cc, rfl, hrc, hb3⟩; have HRc := Lib.hid hrc; have HB3 := Lib.hid (HB2.out.trans (hb3.mono HB2.out.size)); have HA3 := Lib.hid (HA2.out.bel hb3); have HLt := Lib.hid HA2.out.lt; have m0 := HA3.out.cell (j := 0) rfl; have g0 := HA3.out.free 0; have m1 := HA3.out.cell (j := 1) rfl; have g1 := HA3.out.free 1; have m2 := HA3.out.cell (j := 2) rfl; have g2 := HA3.out.free 2; have m3 := HA3.out.cell (j := 3) rfl; have g3 := HA3.out.free 3; have m4 := HA3.out.cell (j := 4) rfl; have g4 := HA3.out.free 4; have m5 := HA3.out.cell (j := 5) rfl; have g5 := HA3.out.free 5; have m6 := HA3.out.cell (j := 6) rfl; have g6 := HA3.out.free 6; have m7 := HA3.out.cell (j := 7) rfl; have g7 := HA3.out.free 7; clear hrc hb3)
    have HA3 : Hid (At8 (set8 w3 bm (.int .i64 i) (.bool r) (.bool q) (.bool x) (.int .i64 c) (.string nm) (.int .i64 k) (.slice p z cc)) bm #[.int .i64 i, .bool r, .bool q, .bool x, .int .i64 c, .string nm, .int .i64 k, .slice p z cc]) := Lib.hid (set8_any HA3.out _ _ _ _ _ _ _ _)
    have HB3 : Hid (Below W.heap.size W (set8 w3 bm (.int .i64 i) (.bool r) (.bool q) (.bool x) (.int .i64 c) (.string nm) (.int .i64 k) (.slice p z cc))) := Lib.hid (below_set8 HB3.out (by rw [HBm.out]; exact Nat.le_refl _))
    have HRc : Hid (WRecC w2.heap.size (set8 w3 bm (.int .i64 i) (.bool r) (.bool q) (.bool x) (.int .i64 c) (.string nm) (.int .i64 k) (.slice p z cc)) (.slice p z cc) R) := Lib.hid (own_set8 HRc.out HLt.out)
    unfold set8 at HA3 HB3 HRc
    clear m0 g0 m1 g1 m2 g2 m3 g3 m4 g4 m5 g5 m6 g6 m7 g7 n0 n1 n2 n3 n4 n5 n6 n7
    generalize (((((((w3.setCell ⟨bm, 0, none⟩ (.int .i64 i)).setCell ⟨bm, 1, none⟩ (.bool r)).setCell ⟨bm, 2, none⟩ (.bool q)).setCell ⟨bm, 3, none⟩ (.bool x)).setCell ⟨bm, 4, none⟩ (.int .i64 c)).setCell ⟨bm, 5, none⟩ (.string nm)).setCell ⟨bm, 6, none⟩ (.int .i64 k)).setCell ⟨bm, 7, none⟩ (.slice p z cc) = W4 at *
    have m0 := HA3.out.cell (j := 0) rfl
    have m1 := HA3.out.cell (j := 1) rfl
    have m2 := HA3.out.cell (j := 2) rfl
    have m3 := HA3.out.cell (j := 3) rfl
    have m4 := HA3.out.cell (j := 4) rfl
    have m5 := HA3.out.cell (j := 5) rfl
    have m6 := HA3.out.cell (j := 6) rfl
    have m7 := HA3.out.cell (j := 7) rfl
    go_upto_region 6 with (go_at_call 10; refine (HEncR.out _ p cc _ HRc.out).mono ?_; rintro e w5 ⟨hb5, hq⟩; rcases hq with ⟨hq, _⟩ | ⟨_, rfl⟩; exact absurd (hq.symm.trans HOk.out) (by decide); have HB5 := Lib.hid (HB3.out.trans (hb5.mono HB3.out.size)); have HRc5 := Lib.hid (own_bel HRc.out hb5); have HA5 := Lib.hid (HA3.out.bel hb5); clear hb5)
    clear m0 m1 m2 m3 m4 m5 m6 m7
    have m0 := HA5.out.cell (j := 0) rfl
    have m1 := HA5.out.cell (j := 1) rfl
    have m2 := HA5.out.cell (j := 2) rfl
    have m3 := HA5.out.cell (j := 3) rfl
    have m4 := HA5.out.cell (j := 4) rfl
    have m5 := HA5.out.cell (j := 5) rfl
    have m6 := HA5.out.cell (j := 6) rfl
    have m7 := HA5.out.cell (j := 7) rfl
    go_wp2_with (first | (go_at_call 11; refine (HWenc.out _ p cc _ HRc5.out HB5.out).mono ?_; rintro e w6 ⟨hb6, hq⟩; rcases hq with ⟨hq, _⟩ | ⟨_, rfl⟩; exact absurd (hq.symm.trans HOk.out) (by decide); have HB6 := Lib.hid (HB5.out.trans (hb6.mono HB5.out.size)); clear hb6) | (go_at_call 12; refine (bad_yes _).mono ?_; rintro e w7 ⟨rfl, rfl⟩))
    go_ret
    exact ⟨rfl, HB6.out⟩
  | true =>
    obtain ⟨_, _, _, hallok, hz32⟩ := enc_facts hok
    rw [hz] at hz32
    have hdw := written_dec (i := i) (c := c) (r := r) (q := q) (x := x) (n := nm.data.toList) (k := k) (rs := R) hok [] (by rw [List.append_nil]; exact (enc_len hok).1)
    rw [List.append_nil] at hdw
    have HRec : Hid (∀ B V v, WRecC B V v R → RecC B V v (R.map toRec)) := Lib.hid fun B V v h => rec_same h hallok
    obtain ⟨u, hu⟩ : ∃ u, (msgB i c r q x nm.data.toList k R).length = u := ⟨_, rfl⟩
    have hu2 := enc_len hok
    rw [hu] at hu2
    obtain ⟨hu4, hu12⟩ := hu2
    obtain ⟨L, hL⟩ : ∃ L, msgB i c r q x nm.data.toList k R = L := ⟨_, rfl⟩
    have HEn2 : Hid (∀ V p cc B, WRecC B V (.slice p z cc) R → Calls Tryd.prog 10 #[.agg #[.int .i64 i, .bool r, .bool q, .bool x, .int .i64 c, .string nm, .int .i64 k, .slice p z cc]] V fun e w' => ∃ g gc, e = .returned (.slice (some ⟨g, 0, none⟩) u gc) ∧ V.heap.size ≤ g ∧ OwnB V.heap.size w' (.slice (some ⟨g, 0, none⟩) u gc) L ∧ g < w'.heap.size ∧ BA w' (some ⟨g, 0, none⟩) u gc L ∧ Below V.heap.size V w') := Lib.hid fun V p cc B h => (HEncR.out V p cc B h).mono (by
      rintro e w' ⟨hb, ⟨_, v, he, ho⟩ | ⟨hf, _⟩⟩
      · obtain ⟨g, gc, rfl, hg, hba⟩ := own_ba ho (by omega)
        rw [hu] at he ho hba
        rw [hL] at ho hba
        exact ⟨g, gc, he, (World.ownsRow.lt ho g rfl).1, ho, hg, hba, hb⟩
      · rw [hok] at hf; cases hf)
    have HWn2 : Hid (∀ V p cc B, WRecC B V (.slice p z cc) R → Below W.heap.size W V → Calls Tryd.prog 11 #[.agg #[.int .i64 i, .bool r, .bool q, .bool x, .int .i64 c, .string nm, .int .i64 k, .slice p z cc]] V fun e w' => ∃ g gc, e = .returned (.tuple #[.slice (some ⟨g, 0, none⟩) u gc, .nilIface]) ∧ OwnB (V.heap.size + 2) w' (.slice (some ⟨g, 0, none⟩) u gc) L ∧ g < w'.heap.size ∧ BA w' (some ⟨g, 0, none⟩) u gc L ∧ Below V.heap.size V w') := Lib.hid fun V p cc B h hV => (HWenc.out V p cc B h hV).mono (by
      rintro e w' ⟨hb, ⟨_, v, he, ho⟩ | ⟨hf, _⟩⟩
      · obtain ⟨g, gc, rfl, hg, hba⟩ := own_ba ho (by omega)
        rw [hu] at he ho hba
        rw [hL] at ho hba
        exact ⟨g, gc, he, ho, hg, hba, hb⟩
      · rw [hok] at hf; cases hf)
    rw [hL] at hdw
    have HDec : Hid (∀ V g gc, BA V (some ⟨g, 0, none⟩) u gc L → g < V.heap.size → Below W.heap.size W V → Calls Tryd.prog 13 #[.slice (some ⟨g, 0, none⟩) u gc] V fun e w' => ∃ p2 cc2, e = .returned (.tuple #[.agg #[.int .i64 i, .bool r, .bool q, .bool x, .int .i64 c, .string nm, .int .i64 k, .slice p2 z cc2], .nilIface]) ∧ RecC V.heap.size w' (.slice p2 z cc2) (R.map toRec) ∧ Below V.heap.size V w') := Lib.hid fun V g gc hba hg hV => by
      have h := dec_back hok hdw (some ⟨g, 0, none⟩) u gc V hba (fun y hy => by cases hy; exact hg) (HM.out.below hV)
      rw [hz] at h
      exact h
    have HEq : Hid (∀ V v1 v2 B1 B2, RecC B1 V v1 (R.map toRec) → RecC B2 V v2 (R.map toRec) → Calls Tryd.prog 14 #[.agg #[.int .i64 i, .bool r, .bool q, .bool x, .int .i64 c, .string nm, .int .i64 k, v1], .agg #[.int .i64 i, .bool r, .bool q, .bool x, .int .i64 c, .string nm, .int .i64 k, v2]] V fun e w' => e = .returned (.bool true) ∧ Below V.heap.size V w') := Lib.hid fun V v1 v2 B1 B2 h1 h2 => eq_back hok v1 v2 B1 B2 V h1 h2
    have hL0 : 0 < L.length := by rw [← hL, hu]; omega
    have HStr : Hid (∀ B V v, OwnB B V v L → (convert 29 9 v).run Tryd.prog V = .ok (.string ⟨L.toArray⟩) V) := Lib.hid fun B V v h => own_str h hL0
    obtain ⟨S, hS⟩ : ∃ S : ByteArray, (⟨L.toArray⟩ : ByteArray) = S := ⟨_, rfl⟩
    rw [hS] at HStr
    have hk0 : ((u : Int) == 0) = false := by rw [beq_eq_false_iff_ne]; omega
    clear hm hs hrs hR hnm hok hRs hnm3 hz hu hL hdw hallok hS hL0 hz32
    go_enter Tryd.func3, Tryd.ntmps3
    go_upto_region 1 with (fail)
    obtain ⟨bm, hbm⟩ : ∃ b, W.heap.size = b := ⟨_, rfl⟩
    have HBm := Lib.hid hbm
    rw [hbm] at HA1 ⊢
    clear hbm
    generalize W.alloc (.cells #[.int .i64 i, .bool r, .bool q, .bool x, .int .i64 c, .string s, .int .i64 k, .slice a n cap] 26) = W1 at *
    go_upto_region 4 with (go_at_call 8; refine (HBg.out _ HB1.out).mono ?_; rintro e w2 ⟨rfl, hb2⟩; have HB2 := Lib.hid (HB1.out.trans (hb2.mono HB1.out.size)); have HA2 := Lib.hid (HA1.out.bel hb2); clear hb2)
    have n0 := HA2.out.cell (j := 0) rfl
    have n1 := HA2.out.cell (j := 1) rfl
    have n2 := HA2.out.cell (j := 2) rfl
    have n3 := HA2.out.cell (j := 3) rfl
    have n4 := HA2.out.cell (j := 4) rfl
    have n5 := HA2.out.cell (j := 5) rfl
    have n6 := HA2.out.cell (j := 6) rfl
    have n7 := HA2.out.cell (j := 7) rfl
    go_upto_region 5 with (go_at_call 9; refine (HCut.out _ HB2.out).mono ?_; rintro e w3 ⟨p, cc, rfl, hrc, hb3⟩; have HRc := Lib.hid hrc; have HB3 := Lib.hid (HB2.out.trans (hb3.mono HB2.out.size)); have HA3 := Lib.hid (HA2.out.bel hb3); have HLt := Lib.hid HA2.out.lt; have m0 := HA3.out.cell (j := 0) rfl; have g0 := HA3.out.free 0; have m1 := HA3.out.cell (j := 1) rfl; have g1 := HA3.out.free 1; have m2 := HA3.out.cell (j := 2) rfl; have g2 := HA3.out.free 2; have m3 := HA3.out.cell (j := 3) rfl; have g3 := HA3.out.free 3; have m4 := HA3.out.cell (j := 4) rfl; have g4 := HA3.out.free 4; have m5 := HA3.out.cell (j := 5) rfl; have g5 := HA3.out.free 5; have m6 := HA3.out.cell (j := 6) rfl; have g6 := HA3.out.free 6; have m7 := HA3.out.cell (j := 7) rfl; have g7 := HA3.out.free 7; clear hrc hb3)
    have HA3 : Hid (At8 (set8 w3 bm (.int .i64 i) (.bool r) (.bool q) (.bool x) (.int .i64 c) (.string nm) (.int .i64 k) (.slice p z cc)) bm #[.int .i64 i, .bool r, .bool q, .bool x, .int .i64 c, .string nm, .int .i64 k, .slice p z cc]) := Lib.hid (set8_any HA3.out _ _ _ _ _ _ _ _)
    have HB3 : Hid (Below W.heap.size W (set8 w3 bm (.int .i64 i) (.bool r) (.bool q) (.bool x) (.int .i64 c) (.string nm) (.int .i64 k) (.slice p z cc))) := Lib.hid (below_set8 HB3.out (by rw [HBm.out]; exact Nat.le_refl _))
    have HRc : Hid (WRecC w2.heap.size (set8 w3 bm (.int .i64 i) (.bool r) (.bool q) (.bool x) (.int .i64 c) (.string nm) (.int .i64 k) (.slice p z cc)) (.slice p z cc) R) := Lib.hid (own_set8 HRc.out HLt.out)
    unfold set8 at HA3 HB3 HRc
    clear m0 g0 m1 g1 m2 g2 m3 g3 m4 g4 m5 g5 m6 g6 m7 g7 n0 n1 n2 n3 n4 n5 n6 n7
    generalize (((((((w3.setCell ⟨bm, 0, none⟩ (.int .i64 i)).setCell ⟨bm, 1, none⟩ (.bool r)).setCell ⟨bm, 2, none⟩ (.bool q)).setCell ⟨bm, 3, none⟩ (.bool x)).setCell ⟨bm, 4, none⟩ (.int .i64 c)).setCell ⟨bm, 5, none⟩ (.string nm)).setCell ⟨bm, 6, none⟩ (.int .i64 k)).setCell ⟨bm, 7, none⟩ (.slice p z cc) = W4 at *
    have m0 := HA3.out.cell (j := 0) rfl
    have m1 := HA3.out.cell (j := 1) rfl
    have m2 := HA3.out.cell (j := 2) rfl
    have m3 := HA3.out.cell (j := 3) rfl
    have m4 := HA3.out.cell (j := 4) rfl
    have m5 := HA3.out.cell (j := 5) rfl
    have m6 := HA3.out.cell (j := 6) rfl
    have m7 := HA3.out.cell (j := 7) rfl
    go_upto_region 6 with (go_at_call 10; refine (HEn2.out _ p cc _ HRc.out).mono ?_; rintro e w5 ⟨ga, ca, rfl, _, hoa, hga, _, hb5⟩; have HB5 := Lib.hid (HB3.out.trans (hb5.mono HB3.out.size)); have HRc5 := Lib.hid (own_bel HRc.out hb5); have HA5 := Lib.hid (HA3.out.bel hb5); have HOa := Lib.hid hoa; clear hb5 hoa hga)
    clear m0 m1 m2 m3 m4 m5 m6 m7
    have m0 := HA5.out.cell (j := 0) rfl
    have m1 := HA5.out.cell (j := 1) rfl
    have m2 := HA5.out.cell (j := 2) rfl
    have m3 := HA5.out.cell (j := 3) rfl
    have m4 := HA5.out.cell (j := 4) rfl
    have m5 := HA5.out.cell (j := 5) rfl
    have m6 := HA5.out.cell (j := 6) rfl
    have m7 := HA5.out.cell (j := 7) rfl
    go_upto_region 9 with (go_at_call 11; refine (HWn2.out _ p cc _ HRc5.out HB5.out).mono ?_; rintro e w6 ⟨gb, cb, rfl, hob, hgb, hba, hb6⟩; have HB6 := Lib.hid (HB5.out.trans (hb6.mono HB5.out.size)); have HRc6 := Lib.hid (own_bel HRc5.out hb6); have HA6 := Lib.hid (HA5.out.bel hb6); have HOa6 := Lib.hid (own_bel HOa.out hb6); have HOb := Lib.hid hob; have HDc := Lib.hid (HDec.out w6 gb cb hba hgb HB6.out); have hcb := hba.cap; have hcx := hba.max; clear hob hgb hba hb6)
    clear hk0 m0 m1 m2 m3 m4 m5 m6 m7
    go_upto_region 10 with (go_at_call 13; refine HDc.out.mono ?_; rintro e w7 ⟨p2, cc2, rfl, hr7, hb7⟩; have HB7 := Lib.hid (HB6.out.trans (hb7.mono HB6.out.size)); have HR7 := Lib.hid hr7; have HRc7 := Lib.hid (own_bel HRc6.out hb7); have HA7 := Lib.hid (HA6.out.bel hb7); have HOa7 := Lib.hid (own_bel HOa6.out hb7); have HOb7 := Lib.hid (own_bel HOb.out hb7); clear hr7 hb7)
    have hb8 : Below w7.heap.size w7 (w7.alloc (.cells #[.int .i64 i, .bool r, .bool q, .bool x, .int .i64 c, .string nm, .int .i64 k, .slice p2 z cc2] 26)) := (Below.refl _ w7).alloc (Nat.le_refl _) _
    have HB8 := Lib.hid (HB7.out.trans (hb8.mono HB7.out.size))
    have HR8 := Lib.hid (own_bel HR7.out hb8)
    have HRm8 := Lib.hid (HRec.out _ _ _ (own_bel HRc7.out hb8))
    have HA8 := Lib.hid (HA7.out.bel hb8)
    have hsa := HStr.out _ _ _ (own_bel HOa7.out hb8)
    have hsb := HStr.out _ _ _ (own_bel HOb7.out hb8)
    have HX8 : Hid (At8 (w7.alloc (.cells #[.int .i64 i, .bool r, .bool q, .bool x, .int .i64 c, .string nm, .int .i64 k, .slice p2 z cc2] 26)) w7.heap.size #[.int .i64 i, .bool r, .bool q, .bool x, .int .i64 c, .string nm, .int .i64 k, .slice p2 z cc2]) := Lib.hid (heap_alloc_new w7 _)
    clear hb8
    obtain ⟨b7, hb7⟩ : ∃ b, w7.heap.size = b := ⟨_, rfl⟩
    rw [hb7] at HX8 ⊢
    clear hb7
    generalize w7.alloc (.cells #[.int .i64 i, .bool r, .bool q, .bool x, .int .i64 c, .string nm, .int .i64 k, .slice p2 z cc2] 26) = w8 at *
    have m0 := HA8.out.cell (j := 0) rfl
    have m1 := HA8.out.cell (j := 1) rfl
    have m2 := HA8.out.cell (j := 2) rfl
    have m3 := HA8.out.cell (j := 3) rfl
    have m4 := HA8.out.cell (j := 4) rfl
    have m5 := HA8.out.cell (j := 5) rfl
    have m6 := HA8.out.cell (j := 6) rfl
    have m7 := HA8.out.cell (j := 7) rfl
    have v0 := HX8.out.cell (j := 0) rfl
    have v1 := HX8.out.cell (j := 1) rfl
    have v2 := HX8.out.cell (j := 2) rfl
    have v3 := HX8.out.cell (j := 3) rfl
    have v4 := HX8.out.cell (j := 4) rfl
    have v5 := HX8.out.cell (j := 5) rfl
    have v6 := HX8.out.cell (j := 6) rfl
    have v7 := HX8.out.cell (j := 7) rfl
    go_wp2_with (go_at_call 14; refine (HEq.out _ _ _ _ _ HR8.out HRm8.out).mono ?_; rintro e w9 ⟨rfl, hb9⟩; have HB9 := Lib.hid (HB8.out.trans (hb9.mono HB8.out.size)); clear hb9)
    go_ret
    exact ⟨rfl, HB9.out⟩
end Go.Proofs.YtepfeekfglpjoaaDoor

