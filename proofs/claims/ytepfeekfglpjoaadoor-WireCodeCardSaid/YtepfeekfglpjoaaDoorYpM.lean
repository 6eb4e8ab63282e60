/- Contract of the document's May. -/
import Derived.Test.YtepfeekfglpjoaaDoorWsCc
namespace Go.Proofs.YtepfeekfglpjoaaDoor
open Go.RowKit Go.Lib Go.Wi Go.Tx
def headMay (i c : Int) (m : Nat) (n : List UInt8) (k : Int) : Bool := decide (0 ≤ i) && decide (i ≤ 65535) && decide (0 ≤ c) && decide (c ≤ 15) && okS n && decide (1 ≤ k) && decide (k ≤ 65535) && decide ((m : Int) ≤ 32)
def mayB (i c : Int) (n : List UInt8) (k : Int) (rs : List WRec) : Bool := headMay i c rs.length n k && rs.all WRec.ok
theorem head_may (i c : Int) (r q x : Bool) (m : Nat) (n : List UInt8) (k : Int) (hm : m ≤ 32) : headOK i c r q x m n k = headMay i c m n k := by
  have h1 : wordOK (m : Nat) 0 = true := by unfold wordOK; rw [Bool.and_eq_true, decide_eq_true_eq, decide_eq_true_eq]; omega
  have h2 : decide ((m : Int) ≤ 32) = true := decide_eq_true (by omega)
  unfold headOK headMay subOK
  rw [h1, h2]
  unfold codeOK
  by_cases hc0 : 0 ≤ c
  · by_cases hc1 : c ≤ 15
    · rw [flagV_word c r q x hc0 hc1]
      unfold wordOK
      rw [decide_eq_true hc0, decide_eq_true hc1]
      generalize decide (0 ≤ i) = a
      generalize decide (i ≤ 65535) = b
      generalize decide (1 ≤ k) = d
      generalize decide (k ≤ 65535) = e
      cases a <;> cases b <;> cases d <;> cases e <;> cases okS n <;> rfl
    · rw [decide_eq_false hc1]
      simp
  · rw [decide_eq_false hc0]
    simp
set_option maxHeartbeats 8000000 in
set_option maxRecDepth 100000 in
theorem may_any (i c k : Int) (r q x : Bool) (n : ByteArray) (rv : Value) (rs : List WRec) (w : World) (hrs : RowsAt w rv rs) (hn : n.size ≤ 1000000) (hnd : ∀ r ∈ rs, r.name.size ≤ 1000000 ∧ r.data.size ≤ 1000000) :
    Calls Tryd.prog 18 #[.agg #[.int .i64 i, .bool r, .bool q, .bool x, .int .i64 c, .string n, .int .i64 k, rv]] w fun e w' => e = .returned (.bool (mayB i c n.data.toList k rs)) ∧ Below w.heap.size w w' := by
  have HB1 : Hid (∀ o, Below w.heap.size w (w.alloc o)) := Lib.hid (fun o => (Below.refl _ _).alloc (Nat.le_refl _) o)
  have HRow : Hid (∀ W g cc, Below w.heap.size w W → rv = .slice (some ⟨g, 0, none⟩) rs.length cc → RecAt W g rs) := Lib.hid (fun W g cc h e => by
    rcases hrs.below h with ⟨e1, _⟩ | ⟨g1, c1, e1, hg, hr⟩
    · rw [e] at e1; cases e1
    · rw [e] at e1
      have e3 : g = g1 := by injection e1 with a; injection a with a; injection a
      subst e3
      exact hr)
  have hrv : ∃ a cc, rv = .slice a rs.length cc := by
    rcases hrs with ⟨e1, e2⟩ | ⟨g1, c1, e1, _⟩
    · exact ⟨none, 0, by rw [e1, e2]; rfl⟩
    · exact ⟨_, _, e1⟩
  obtain ⟨ra, rc, hrv⟩ := hrv
  subst hrv
  have hra : rs.length = 0 ∨ ∃ g, ra = some ⟨g, 0, none⟩ := by
    rcases hrs with ⟨e1, e2⟩ | ⟨g1, c1, e1, _⟩
    · exact .inl (by rw [e2]; rfl)
    · injection e1 with a; exact .inr ⟨g1, a⟩
  have HRa := Lib.hid hra
  have HNd := Lib.hid hnd
  have HMy : Hid (mayB i c n.data.toList k rs = (headMay i c rs.length n.data.toList k && rs.all WRec.ok)) := Lib.hid rfl
  obtain ⟨m, hml⟩ : ∃ m, rs.length = m := ⟨_, rfl⟩
  rw [hml] at HRow HMy HRa ⊢
  have HM := Lib.hid hml
  have HCl : Hid (∀ (s : ByteArray) W, s.size ≤ 1000000 → Calls Tryd.prog 27 #[.string s] W fun e w' => e = .returned (.bool (okS s.data.toList)) ∧ Below W.heap.size W w') := Lib.hid (fun s W h => rclean7_any s W h)
  have HCn : Hid (∀ W, Calls Tryd.prog 27 #[.string n] W fun e w' => e = .returned (.bool (okS n.data.toList)) ∧ Below W.heap.size W w') := Lib.hid (fun W => rclean7_any n W hn)
  have HFi : Hid (∀ (r : WRec) W, r ∈ rs → Calls Tryd.prog 26 #[.agg #[.string r.name, .int .i64 r.kind, .int .i64 r.ttl, .string r.data]] W fun e w' => e = .returned (.bool (datOK r.kind r.data.data.toList)) ∧ Below W.heap.size W w') := Lib.hid (fun r W h => rfine_any r.name r.kind r.ttl r.data W (hnd r h).2)
  clear hrs hn hnd hra hml
  have HBx : Hid (∀ W, Below (w.alloc (.cells #[.int .i64 i, .bool r, .bool q, .bool x, .int .i64 c, .string n, .int .i64 k, .slice ra m rc] 26)).heap.size (w.alloc (.cells #[.int .i64 i, .bool r, .bool q, .bool x, .int .i64 c, .string n, .int .i64 k, .slice ra m rc] 26)) W → ∀ j y, (#[.int .i64 i, .bool r, .bool q, .bool x, .int .i64 c, .string n, .int .i64 k, .slice ra m rc] : Array Value)[j]? = some y → W.cell? ⟨w.heap.size, j, none⟩ = some y) := Lib.hid (fun W h j y hy => by
    have e2 := World.cell?_alloc_new w #[.int .i64 i, .bool r, .bool q, .bool x, .int .i64 c, .string n, .int .i64 k, .slice ra m rc] 26 j
    rw [hy] at e2
    rw [← e2]
    unfold World.cell?
    rw [h.block w.heap.size (by show w.heap.size < (w.heap.push _).size; simp)])
  by_cases h0 : 0 ≤ i
  rotate_left
  · have HX : Hid (mayB i c n.data.toList k rs = false) := Lib.hid (by rw [HMy.out]; unfold headMay; simp [h0])
    go_enter Tryd.func18, Tryd.ntmps18
    go_wp2
    go_ret
    exact ⟨by rw [HX.out]; rfl, HB1.out _⟩
  by_cases h1 : i ≤ 65535
  rotate_left
  · have HX : Hid (mayB i c n.data.toList k rs = false) := Lib.hid (by rw [HMy.out]; unfold headMay; simp [h1])
    go_enter Tryd.func18, Tryd.ntmps18
    go_wp2
    go_ret
    exact ⟨by rw [HX.out]; rfl, HB1.out _⟩
  by_cases h2 : 0 ≤ c
  rotate_left
  · have HX : Hid (mayB i c n.data.toList k rs = false) := Lib.hid (by rw [HMy.out]; unfold headMay; simp [h2])
    go_enter Tryd.func18, Tryd.ntmps18
    go_wp2
    go_ret
    exact ⟨by rw [HX.out]; rfl, HB1.out _⟩
  by_cases h3 : c ≤ 15
  rotate_left
  · have HX : Hid (mayB i c n.data.toList k rs = false) := Lib.hid (by rw [HMy.out]; unfold headMay; simp [h3])
    go_enter Tryd.func18, Tryd.ntmps18
    go_wp2
    go_ret
    exact ⟨by rw [HX.out]; rfl, HB1.out _⟩
  obtain ⟨okn, hokn⟩ : ∃ b, okS n.data.toList = b := ⟨_, rfl⟩
  rw [hokn] at HCn
  cases okn
  · have HX : Hid (mayB i c n.data.toList k rs = false) := Lib.hid (by rw [HMy.out]; unfold headMay; simp [hokn])
    clear hokn
    go_enter Tryd.func18, Tryd.ntmps18
    go_wp2_with (go_at_call 27; refine (HCn.out _).mono ?_; rintro e w1 ⟨rfl, hb1⟩; have HB2 := Lib.hid hb1; have e6 := HBx.out _ hb1 6 _ rfl; have e7 := HBx.out _ hb1 7 _ rfl; clear hb1)
    go_ret
    exact ⟨by rw [HX.out]; rfl, (HB1.out _).trans (HB2.out.mono (HB1.out _).size)⟩
  by_cases h5 : 1 ≤ k
  rotate_left
  · have HX : Hid (mayB i c n.data.toList k rs = false) := Lib.hid (by rw [HMy.out]; unfold headMay; simp [h5])
    go_enter Tryd.func18, Tryd.ntmps18
    go_wp2_with (go_at_call 27; refine (HCn.out _).mono ?_; rintro e w1 ⟨rfl, hb1⟩; have HB2 := Lib.hid hb1; have e6 := HBx.out _ hb1 6 _ rfl; have e7 := HBx.out _ hb1 7 _ rfl; clear hb1)
    go_ret
    exact ⟨by rw [HX.out]; rfl, (HB1.out _).trans (HB2.out.mono (HB1.out _).size)⟩
  by_cases h6 : k ≤ 65535
  rotate_left
  · have HX : Hid (mayB i c n.data.toList k rs = false) := Lib.hid (by rw [HMy.out]; unfold headMay; simp [h6])
    go_enter Tryd.func18, Tryd.ntmps18
    go_wp2_with (go_at_call 27; refine (HCn.out _).mono ?_; rintro e w1 ⟨rfl, hb1⟩; have HB2 := Lib.hid hb1; have e6 := HBx.out _ hb1 6 _ rfl; have e7 := HBx.out _ hb1 7 _ rfl; clear hb1)
    go_ret
    exact ⟨by rw [HX.out]; rfl, (HB1.out _).trans (HB2.out.mono (HB1.out _).size)⟩
  by_cases h7 : (m : Int) ≤ 32
  rotate_left
  · have HX : Hid (mayB i c n.data.toList k rs = false) := Lib.hid (by rw [HMy.out]; unfold headMay; simp [h7])
    go_enter Tryd.func18, Tryd.ntmps18
    go_wp2_with (go_at_call 27; refine (HCn.out _).mono ?_; rintro e w1 ⟨rfl, hb1⟩; have HB2 := Lib.hid hb1; have e6 := HBx.out _ hb1 6 _ rfl; have e7 := HBx.out _ hb1 7 _ rfl; clear hb1)
    go_ret
    exact ⟨by rw [HX.out]; rfl, (HB1.out _).trans (HB2.out.mono (HB1.out _).size)⟩
  have HX : Hid (mayB i c n.data.toList k rs = rs.all WRec.ok) := Lib.hid (by rw [HMy.out]; unfold headMay; simp [h0, h1, h2, h3, hokn, h5, h6, h7])
  clear hokn
  go_enter Tryd.func18, Tryd.ntmps18
  go_upto_region 3 with (go_at_call 27; refine (HCn.out _).mono ?_; rintro e w1 ⟨rfl, hb1⟩; have HB2 := Lib.hid hb1; have e6 := HBx.out _ hb1 6 _ rfl; have e7 := HBx.out _ hb1 7 _ rfl; clear hb1)
  clear e6 e7 h0 h1 h2 h3 h5 h6
  go_wp2
  go_loopw [3] (fun iv wr => ∃ (j : Nat), j ≤ m ∧ iv = .int .i64 j ∧ (rs.take j).all WRec.ok = true ∧ Below (w.alloc (.cells #[.int .i64 i, .bool r, .bool q, .bool x, .int .i64 c, .string n, .int .i64 k, .slice ra m rc] 26)).heap.size (w.alloc (.cells #[.int .i64 i, .bool r, .bool q, .bool x, .int .i64 c, .string n, .int .i64 k, .slice ra m rc] 26)) wr) (fun iv _ => m - (intOf iv).toNat)
  case atStart => exact ⟨0, Nat.zero_le _, rfl, rfl, HB2.out⟩
  case round =>
    obtain ⟨j, hj, rfl, hall, hbr⟩ := hrel
    have e7 := HBx.out _ hbr 7 _ rfl
    have HAll := Lib.hid hall
    have HBr := Lib.hid hbr
    have HBw := Lib.hid ((HB1.out _).trans (hbr.mono (HB1.out _).size))
    clear hall hbr
    by_cases hlt : j < m
    · obtain ⟨rj, hx⟩ : ∃ y, rs[j]? = some y := ⟨_, List.getElem?_eq_getElem (by rw [HM.out]; exact hlt)⟩
      have hra := HRa.out.resolve_left (by omega)
      obtain ⟨g, rfl⟩ := hra
      obtain ⟨x0, x1, x2, x3⟩ := HRow.out _ g rc HBw.out rfl j rj hx
      have hin : rj ∈ rs := List.mem_of_getElem? hx
      have HTk := Lib.hid (recs_take hx).2
      have HNok : Hid (rj.ok = false → mayB i c n.data.toList k rs = false) := Lib.hid (fun h => by
        rw [HX.out]
        exact List.all_eq_false.2 ⟨rj, hin, by rw [h]; decide⟩)
      have HC := Lib.hid (fun W => HCl.out rj.name W (HNd.out rj hin).1)
      have HF := Lib.hid (fun W => HFi.out rj W hin)
      have HOk : Hid (rj.ok = ((okS rj.name.data.toList && (decide (1 ≤ rj.kind) && decide (rj.kind ≤ 65535))) && (decide (0 ≤ rj.ttl) && decide (rj.ttl ≤ 2147483647)) && datOK rj.kind rj.data.data.toList)) := Lib.hid rfl
      have HBo : Hid (∀ o, Below wr.heap.size wr (wr.alloc o)) := Lib.hid (fun o => (Below.refl _ _).alloc (Nat.le_refl _) o)
      have hj0 : (0 : Int) ≤ (j : Int) := by omega
      have hj1 : (j : Int) < (m : Int) := by omega
      have hsz : wr.heap.size < (wr.alloc (.cells #[.string rj.name, .int .i64 rj.kind, .int .i64 rj.ttl, .string rj.data] 48)).heap.size := by show _ < (wr.heap.push _).size; simp
      have HRb : Hid (∀ W, Below (wr.alloc (.cells #[.string rj.name, .int .i64 rj.kind, .int .i64 rj.ttl, .string rj.data] 48)).heap.size (wr.alloc (.cells #[.string rj.name, .int .i64 rj.kind, .int .i64 rj.ttl, .string rj.data] 48)) W → ∀ j y, (#[.string rj.name, .int .i64 rj.kind, .int .i64 rj.ttl, .string rj.data] : Array Value)[j]? = some y → W.cell? ⟨wr.heap.size, j, none⟩ = some y) := Lib.hid (fun W h j y hy => by
        have e2 := World.cell?_alloc_new wr #[.string rj.name, .int .i64 rj.kind, .int .i64 rj.ttl, .string rj.data] 48 j
        rw [hy] at e2
        rw [← e2]
        unfold World.cell?
        rw [h.block wr.heap.size hsz])
      obtain ⟨okn, hokn⟩ : ∃ b, okS rj.name.data.toList = b := ⟨_, rfl⟩
      obtain ⟨okd, hokd⟩ : ∃ b, datOK rj.kind rj.data.data.toList = b := ⟨_, rfl⟩
      rw [hokn] at HC HOk
      rw [hokd] at HF HOk
      clear hx hin hokn hokd hsz
      cases okn
      · have HX := Lib.hid (HNok.out (by rw [HOk.out]; simp))
        go_wp2_with (go_at_call 27; refine (HC.out _).mono ?_; rintro e w1 ⟨rfl, hb1⟩; have HB3 := Lib.hid hb1; have f0 := HRb.out _ hb1 0 _ rfl; have f1 := HRb.out _ hb1 1 _ rfl; have f2 := HRb.out _ hb1 2 _ rfl; have f3 := HRb.out _ hb1 3 _ rfl; clear hb1)
        go_ret
        exact ⟨by rw [HX.out]; rfl, HBw.out.trans (((HBo.out _).trans (HB3.out.mono (HBo.out _).size)).mono HBw.out.size)⟩
      by_cases b1 : 1 ≤ rj.kind
      rotate_left
      · have HX := Lib.hid (HNok.out (by rw [HOk.out]; simp [b1]))
        go_wp2_with (go_at_call 27; refine (HC.out _).mono ?_; rintro e w1 ⟨rfl, hb1⟩; have HB3 := Lib.hid hb1; have f0 := HRb.out _ hb1 0 _ rfl; have f1 := HRb.out _ hb1 1 _ rfl; have f2 := HRb.out _ hb1 2 _ rfl; have f3 := HRb.out _ hb1 3 _ rfl; clear hb1)
        go_ret
        exact ⟨by rw [HX.out]; rfl, HBw.out.trans (((HBo.out _).trans (HB3.out.mono (HBo.out _).size)).mono HBw.out.size)⟩
      by_cases b2 : rj.kind ≤ 65535
      rotate_left
      · have HX := Lib.hid (HNok.out (by rw [HOk.out]; simp [b2]))
        go_wp2_with (go_at_call 27; refine (HC.out _).mono ?_; rintro e w1 ⟨rfl, hb1⟩; have HB3 := Lib.hid hb1; have f0 := HRb.out _ hb1 0 _ rfl; have f1 := HRb.out _ hb1 1 _ rfl; have f2 := HRb.out _ hb1 2 _ rfl; have f3 := HRb.out _ hb1 3 _ rfl; clear hb1)
        go_ret
        exact ⟨by rw [HX.out]; rfl, HBw.out.trans (((HBo.out _).trans (HB3.out.mono (HBo.out _).size)).mono HBw.out.size)⟩
      by_cases b3 : 0 ≤ rj.ttl
      rotate_left
      · have HX := Lib.hid (HNok.out (by rw [HOk.out]; simp [b3]))
        go_wp2_with (go_at_call 27; refine (HC.out _).mono ?_; rintro e w1 ⟨rfl, hb1⟩; have HB3 := Lib.hid hb1; have f0 := HRb.out _ hb1 0 _ rfl; have f1 := HRb.out _ hb1 1 _ rfl; have f2 := HRb.out _ hb1 2 _ rfl; have f3 := HRb.out _ hb1 3 _ rfl; clear hb1)
        go_ret
        exact ⟨by rw [HX.out]; rfl, HBw.out.trans (((HBo.out _).trans (HB3.out.mono (HBo.out _).size)).mono HBw.out.size)⟩
      by_cases b4 : rj.ttl ≤ 2147483647
      rotate_left
      · have HX := Lib.hid (HNok.out (by rw [HOk.out]; simp [b4]))
        go_wp2_with (go_at_call 27; refine (HC.out _).mono ?_; rintro e w1 ⟨rfl, hb1⟩; have HB3 := Lib.hid hb1; have f0 := HRb.out _ hb1 0 _ rfl; have f1 := HRb.out _ hb1 1 _ rfl; have f2 := HRb.out _ hb1 2 _ rfl; have f3 := HRb.out _ hb1 3 _ rfl; clear hb1)
        go_ret
        exact ⟨by rw [HX.out]; rfl, HBw.out.trans (((HBo.out _).trans (HB3.out.mono (HBo.out _).size)).mono HBw.out.size)⟩
      cases okd
      · have HX := Lib.hid (HNok.out (by rw [HOk.out]; simp))
        go_wp2_with (first | (go_at_call 27; refine (HC.out _).mono ?_; rintro e w1 ⟨rfl, hb1⟩; have HB3 := Lib.hid hb1; have f0 := HRb.out _ hb1 0 _ rfl; have f1 := HRb.out _ hb1 1 _ rfl; have f2 := HRb.out _ hb1 2 _ rfl; have f3 := HRb.out _ hb1 3 _ rfl; clear hb1) | (go_at_call 26; refine (HF.out _).mono ?_; rintro e w4 ⟨rfl, hb4⟩; have HB4 := Lib.hid (HB3.out.trans (hb4.mono HB3.out.size)); clear hb4))
        go_ret
        exact ⟨by rw [HX.out]; rfl, HBw.out.trans (((HBo.out _).trans (HB4.out.mono (HBo.out _).size)).mono HBw.out.size)⟩
      have HT2 : Hid ((rs.take (j + 1)).all WRec.ok = true) := Lib.hid (by rw [HTk.out, HAll.out, HOk.out]; simp [b1, b2, b3, b4])
      go_wp2_with (first | (go_at_call 27; refine (HC.out _).mono ?_; rintro e w1 ⟨rfl, hb1⟩; have HB3 := Lib.hid hb1; have f0 := HRb.out _ hb1 0 _ rfl; have f1 := HRb.out _ hb1 1 _ rfl; have f2 := HRb.out _ hb1 2 _ rfl; have f3 := HRb.out _ hb1 3 _ rfl; clear hb1) | (go_at_call 26; refine (HF.out _).mono ?_; rintro e w4 ⟨rfl, hb4⟩; have HB4 := Lib.hid (HB3.out.trans (hb4.mono HB3.out.size)); clear hb4))
      go_roundw
      case rel => exact ⟨j + 1, hlt, by go_num, HT2.out, HBr.out.trans (((HBo.out _).trans (HB4.out.mono (HBo.out _).size)).mono HBr.out.size)⟩
      case measure => simp [intOf]; omega
    · obtain rfl : j = m := by omega
      have HX2 : Hid (mayB i c n.data.toList k rs = true) := Lib.hid (by
        have h := HAll.out
        rw [List.take_of_length_le (by rw [HM.out]; exact Nat.le_refl _)] at h
        rw [HX.out, h])
      go_wp2
      go_ret
      exact ⟨by rw [HX2.out]; rfl, HBw.out⟩
end Go.Proofs.YtepfeekfglpjoaaDoor
