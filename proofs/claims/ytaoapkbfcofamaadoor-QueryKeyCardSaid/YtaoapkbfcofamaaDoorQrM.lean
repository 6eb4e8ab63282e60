/- QueryKey: keys of two queries, and of a text. -/
import Derived.Test.YtaoapkbfcofamaaDoorQcCc
import Derived.Deep.RegionLaw
import Derived.Deep.CutRange
namespace Go.Proofs.YtaoapkbfcofamaaDoor
open Go.RowKit Go.Lib Go.Tx
theorem isE_of (l : List UInt8) : (⟨l.toArray⟩ : ByteArray).toList.isEmpty = decide (l = []) := by
  rw [Go.Lib.toList_data]
  cases l <;> rfl
/-- Two queries' blocks, side by side. -/
theorem two_kb (w : World) (a0 : Int) (a1 a2 : ByteArray) (a3 b0 : Int) (b1 b2 : ByteArray) (b3 : Int) (W : World) (hW : (w.alloc (.cells #[.int .i64 a0, .string a1, .string a2, .int .i64 a3] 23)).alloc (.cells #[.int .i64 b0, .string b1, .string b2, .int .i64 b3] 23) = W) :
    KB w w.heap.size a0 a1 a2 a3 W ∧ KB w (w.heap.size + 1) b0 b1 b2 b3 W := by
  obtain ⟨W', hW', h1, h2, _, h4⟩ := two_q w (.cells #[.int .i64 a0, .string a1, .string a2, .int .i64 a3] 23) (.cells #[.int .i64 b0, .string b1, .string b2, .int .i64 b3] 23)
  rw [hW] at hW'
  subst hW'
  exact ⟨⟨h1, Nat.le_refl _, h4⟩, ⟨h2, Nat.le_succ _, h4⟩⟩
theorem KB.drew {w0 W : World} {b : Nat} {r0 r3 : Int} {r1 r2 : ByteArray} (h : KB w0 b r0 r1 r2 r3 W) : KB w0 b r0 r1 r2 r3 W.drew := ⟨h.at_, h.own, h.bel.drew⟩

set_option maxHeartbeats 8000000 in
set_option maxRecDepth 100000 in
theorem qk_yye_k (w : World) (f0 : Int) (f1 f2 : ByteArray) (f3 g0 : Int) (g1 g2 : ByteArray) (g3 : Int) (s S : ByteArray) (a0 : Int) (a1 a2 : ByteArray) (a3 b0 : Int) (b1 b2 : ByteArray) (b3 x0 : Int) (x1 x2 : ByteArray) (x3 y0 : Int) (y1 y2 : ByteArray) (y3 c d : Int) (kA kB : ByteArray) (r0 : Int) (r1 r2 : ByteArray) (r3 : Int) (hc : c = 0) (hd : d = 0)
    (HB : Hid (∀ W, Below w.heap.size w W → Calls Tryd.prog 6 #[] W fun e w' => e = .returned (.bool true) ∧ Below W.heap.size W w'))
    (HXa : Hid (∀ W, Calls Tryd.prog 7 #[.agg #[.int .i64 f0, .string f1, .string f2, .int .i64 f3]] W fun e w' => e = .returned (.agg #[.int .i64 a0, .string a1, .string a2, .int .i64 a3]) ∧ Below W.heap.size W w'))
    (HXb : Hid (∀ W, Calls Tryd.prog 7 #[.agg #[.int .i64 g0, .string g1, .string g2, .int .i64 g3]] W fun e w' => e = .returned (.agg #[.int .i64 b0, .string b1, .string b2, .int .i64 b3]) ∧ Below W.heap.size W w'))
    (HRa : Hid (∀ W, Calls Tryd.prog 9 #[.agg #[.int .i64 a0, .string a1, .string a2, .int .i64 a3]] W fun e w' => e = .returned (.tuple #[.agg #[.int .i64 x0, .string x1, .string x2, .int .i64 x3], .int .i64 c]) ∧ Below W.heap.size W w'))
    (HRb : Hid (∀ W, Calls Tryd.prog 9 #[.agg #[.int .i64 b0, .string b1, .string b2, .int .i64 b3]] W fun e w' => e = .returned (.tuple #[.agg #[.int .i64 y0, .string y1, .string y2, .int .i64 y3], .int .i64 d]) ∧ Below W.heap.size W w'))
    (HKa : Hid (∀ W, Below w.heap.size w W → Calls Tryd.prog 12 #[.agg #[.int .i64 a0, .string a1, .string a2, .int .i64 a3]] W fun e w' => e = .returned (.string kA) ∧ Below W.heap.size W w'))
    (HKb : Hid (∀ W, Below w.heap.size w W → Calls Tryd.prog 12 #[.agg #[.int .i64 b0, .string b1, .string b2, .int .i64 b3]] W fun e w' => e = .returned (.string kB) ∧ Below W.heap.size W w'))
    (HE : Hid (∀ W, Calls Tryd.prog 11 #[.agg #[.int .i64 x0, .string x1, .string x2, .int .i64 x3], .agg #[.int .i64 y0, .string y1, .string y2, .int .i64 y3]] W fun e w' => e = .returned (.bool true) ∧ Below W.heap.size W w'))
    (HEx : Hid (∀ W, Calls Tryd.prog 11 #[.agg #[.int .i64 x0, .string x1, .string x2, .int .i64 x3], .agg #[.int .i64 x0, .string x1, .string x2, .int .i64 x3]] W fun e w' => e = .returned (.bool true) ∧ Below W.heap.size W w'))
    (HF : Hid (∀ W, Below w.heap.size w W → Calls Tryd.prog 13 #[.string kA] W fun e w' => e = .returned (.tuple #[.agg #[.int .i64 x0, .string x1, .string x2, .int .i64 x3], .bool true]) ∧ Below W.heap.size W w'))
    (HCut : Hid (∀ W, Calls Tryd.prog 14 #[.string s, .int .i64 300] W fun e w' => e = .returned (.string S) ∧ w' = W))
    (HFs : Hid (∀ W, Below w.heap.size w W → Calls Tryd.prog 13 #[.string S] W fun e w' => e = .returned (.tuple #[.agg #[.int .i64 r0, .string r1, .string r2, .int .i64 r3], .bool true]) ∧ Below W.heap.size W w'))
    (HKr : Hid (∀ W, Below w.heap.size w W → Calls Tryd.prog 12 #[.agg #[.int .i64 r0, .string r1, .string r2, .int .i64 r3]] W fun e w' => e = .returned (.string S) ∧ Below W.heap.size W w'))
    (hka : kA.toList.isEmpty = false) (hkb : kB.toList.isEmpty = false)
    (hkk : (kA.toList == kB.toList) = true)
    (hSe : S.toList.isEmpty = false) :
    Calls Tryd.prog 4 #[.agg #[.int .i64 f0, .string f1, .string f2, .int .i64 f3], .agg #[.int .i64 g0, .string g1, .string g2, .int .i64 g3], .string s] w fun e w' => e = .returned (.bool true) ∧ Below w.heap.size w w' := by
  have hc1 : (c == 0) = true := by simpa using hc
  have hd1 : (d == 0) = true := by simpa using hd
  have hSS : (S.toList == S.toList) = true := by simp
  clear hc hd
  have HN : Hid (∀ W, (w.alloc (.cells #[.int .i64 f0, .string f1, .string f2, .int .i64 f3] 23)).alloc (.cells #[.int .i64 g0, .string g1, .string g2, .int .i64 g3] 23) = W → KB w w.heap.size f0 f1 f2 f3 W ∧ KB w (w.heap.size + 1) g0 g1 g2 g3 W) := Lib.hid (fun W h => two_kb w _ _ _ _ _ _ _ _ W h)
  go_enter Tryd.func4, Tryd.ntmps4
  go_upto_region 1 with (fail)
  obtain ⟨W, hW⟩ : ∃ W, (w.alloc (.cells #[.int .i64 f0, .string f1, .string f2, .int .i64 f3] 23)).alloc (.cells #[.int .i64 g0, .string g1, .string g2, .int .i64 g3] 23) = W := ⟨_, rfl⟩
  obtain ⟨hA, hB⟩ := HN.out W hW
  have A0 := Lib.hid hA
  have B0 := Lib.hid hB
  rw [hW]
  clear hW HN hA hB
  go_upto_region 4 with (go_at_call 6; refine (HB.out _ A0.out.bel).mono ?_; rintro e w1 ⟨rfl, hb⟩; have A1 := Lib.hid (A0.out.below hb).drew; have B1 := Lib.hid (B0.out.below hb).drew; clear hb)
  obtain ⟨p0, p1, p2, p3⟩ := A1.out.cells
  obtain ⟨q0, q1, q2, q3⟩ := B1.out.cells
  go_cut [] from 21 to 24 (fun wx => KB w w.heap.size a0 a1 a2 a3 wx ∧ KB w (w.heap.size + 1) b0 b1 b2 b3 wx)
  · go_region_law (first | (go_simp; go_at_call 7; with_reducible refine (HXa.out _).mono ?_; rintro e w2 ⟨rfl, hb⟩; have A2 := Lib.hid (A1.out.below hb); have B2 := Lib.hid (B1.out.below hb); obtain ⟨s0, s1, s2, s3⟩ := B2.out.cells; clear hb) | (go_simp; go_at_call 7; with_reducible refine (HXb.out _).mono ?_; rintro e w3 ⟨rfl, hb⟩; have A3 := Lib.hid (A2.out.below hb); have B3 := Lib.hid (B2.out.below hb); obtain ⟨t0, t1, t2, t3⟩ := A3.out.cells; obtain ⟨u0, u1, u2, u3⟩ := A3.out.frees; obtain ⟨i0, i1, i2, i3⟩ := B3.out.cells; obtain ⟨j0, j1, j2, j3⟩ := B3.out.frees; clear hb))
    all_goals
      go_wp2
      go_meet
      exact ⟨(A3.out.put _ _ _ _).other (by omega) (Nat.le_succ _) _ _ _ _, (B3.out.other (by omega) (Nat.le_refl _) _ _ _ _).put _ _ _ _⟩
  obtain ⟨hA, hB⟩ := hcut
  have A3 := Lib.hid hA
  have B3 := Lib.hid hB
  clear hA hB p0 p1 p2 p3 q0 q1 q2 q3 A0 B0 A1 B1
  obtain ⟨p0, p1, p2, p3⟩ := A3.out.cells
  go_upto_region 6 with (go_at_call 9; refine (HRa.out _).mono ?_; rintro e w4 ⟨rfl, hb⟩; have A4 := Lib.hid (A3.out.below hb); have B4 := Lib.hid (B3.out.below hb); clear hb)
  obtain ⟨W5, hW5⟩ : ∃ W5, w4.alloc (.cells #[.int .i64 x0, .string x1, .string x2, .int .i64 x3] 23) = W5 := ⟨_, rfl⟩
  have A5 := Lib.hid (A4.out.below (al_bel w4 (.cells #[.int .i64 x0, .string x1, .string x2, .int .i64 x3] 23)))
  have B5 := Lib.hid (B4.out.below (al_bel w4 (.cells #[.int .i64 x0, .string x1, .string x2, .int .i64 x3] 23)))
  have X5 := Lib.hid (KB.new A4.out.bel x0 x1 x2 x3)
  rw [hW5] at A5 B5 X5 ⊢
  clear hW5 p0 p1 p2 p3
  obtain ⟨p0, p1, p2, p3⟩ := B5.out.cells
  go_upto_region 7 with (go_at_call 9; refine (HRb.out _).mono ?_; rintro e w6 ⟨rfl, hb⟩; have A6 := Lib.hid (A5.out.below hb); have B6 := Lib.hid (B5.out.below hb); have X6 := Lib.hid (X5.out.below hb); clear hb)
  obtain ⟨W7, hW7⟩ : ∃ W7, w6.alloc (.cells #[.int .i64 y0, .string y1, .string y2, .int .i64 y3] 23) = W7 := ⟨_, rfl⟩
  have A7 := Lib.hid (A6.out.below (al_bel w6 (.cells #[.int .i64 y0, .string y1, .string y2, .int .i64 y3] 23))).drew
  have B7 := Lib.hid (B6.out.below (al_bel w6 (.cells #[.int .i64 y0, .string y1, .string y2, .int .i64 y3] 23))).drew
  have X7 := Lib.hid (X6.out.below (al_bel w6 (.cells #[.int .i64 y0, .string y1, .string y2, .int .i64 y3] 23))).drew
  have Y7 := Lib.hid (KB.new X6.out.bel y0 y1 y2 y3).drew
  rw [hW7] at A7 B7 X7 Y7 ⊢
  clear hW7 p0 p1 p2 p3
  obtain ⟨p0, p1, p2, p3⟩ := A7.out.cells
  obtain ⟨q0, q1, q2, q3⟩ := B7.out.cells
  go_cut [12, 13] from 35 to 38 (fun kv lv wx => kv = .string kA ∧ lv = .string kB ∧ KB w w4.heap.size x0 x1 x2 x3 wx ∧ KB w w6.heap.size y0 y1 y2 y3 wx)
  · go_region_law (first | (go_simp; go_at_call 12; with_reducible refine (HKa.out _ A7.out.bel).mono ?_; rintro e w8 ⟨rfl, hb⟩; have B8 := Lib.hid (B7.out.below hb); have X8 := Lib.hid (X7.out.below hb); have Y8 := Lib.hid (Y7.out.below hb); obtain ⟨s0, s1, s2, s3⟩ := B8.out.cells; clear hb) | (go_simp; go_at_call 12; with_reducible refine (HKb.out _ B8.out.bel).mono ?_; rintro e w9 ⟨rfl, hb⟩; have X9 := Lib.hid (X8.out.below hb); have Y9 := Lib.hid (Y8.out.below hb); clear hb))
    all_goals
      go_wp2
      go_meet
      exact ⟨rfl, rfl, X9.out, Y9.out⟩
  obtain ⟨rfl, rfl, hX, hY⟩ := hcut
  have X9 := Lib.hid hX
  have Y9 := Lib.hid hY
  clear hX hY p0 p1 p2 p3 q0 q1 q2 q3 A7 B7 X7 Y7 A3 B3 A4 B4 A5 B5 X5 A6 B6 X6
  obtain ⟨p0, p1, p2, p3⟩ := X9.out.cells
  obtain ⟨q0, q1, q2, q3⟩ := Y9.out.cells
  go_upto_region 12 with (go_at_call 11; refine (HE.out _).mono ?_; rintro e w10 ⟨rfl, hb⟩; have X10 := Lib.hid (X9.out.below hb); clear hb)
  go_upto_region 14 with (go_at_call 13; refine (HF.out _ X10.out.bel).mono ?_; rintro e w11 ⟨rfl, hb⟩; have X11 := Lib.hid (X10.out.below hb); clear hb)
  obtain ⟨W12, hW12⟩ : ∃ W12, w11.alloc (.cells #[.int .i64 x0, .string x1, .string x2, .int .i64 x3] 23) = W12 := ⟨_, rfl⟩
  have X12 := Lib.hid (X11.out.below (al_bel w11 (.cells #[.int .i64 x0, .string x1, .string x2, .int .i64 x3] 23)))
  have R12 := Lib.hid (KB.new X11.out.bel x0 x1 x2 x3)
  rw [hW12] at X12 R12 ⊢
  clear hW12 p0 p1 p2 p3 q0 q1 q2 q3
  obtain ⟨p0, p1, p2, p3⟩ := X12.out.cells
  obtain ⟨q0, q1, q2, q3⟩ := R12.out.cells
  go_upto_region 16 with (go_at_call 11; refine (HEx.out _).mono ?_; rintro e w13 ⟨rfl, hb⟩; have X13 := Lib.hid (X12.out.below hb); clear hb)
  clear p0 p1 p2 p3 q0 q1 q2 q3
  go_upto_region 18 with (first | (go_at_call 14; refine (HCut.out _).mono ?_; rintro e w14 ⟨rfl, rfl⟩) | (go_at_call 13; refine (HFs.out _ X13.out.bel).mono ?_; rintro e w15 ⟨rfl, hb⟩; have X15 := Lib.hid (X13.out.below hb); clear hb))
  obtain ⟨W16, hW16⟩ : ∃ W16, w15.alloc (.cells #[.int .i64 r0, .string r1, .string r2, .int .i64 r3] 23) = W16 := ⟨_, rfl⟩
  have R16 := Lib.hid (KB.new X15.out.bel r0 r1 r2 r3)
  rw [hW16] at R16 ⊢
  clear hW16
  obtain ⟨p0, p1, p2, p3⟩ := R16.out.cells
  go_wp2_with (go_at_call 12; refine (HKr.out _ R16.out.bel).mono ?_; rintro e w17 ⟨rfl, hb⟩; have R17 := Lib.hid (R16.out.below hb); clear hb)
  go_ret
  exact ⟨rfl, R17.out.bel⟩
set_option maxHeartbeats 8000000 in
set_option maxRecDepth 100000 in
theorem qk_yye_z (w : World) (f0 : Int) (f1 f2 : ByteArray) (f3 g0 : Int) (g1 g2 : ByteArray) (g3 : Int) (s S : ByteArray) (a0 : Int) (a1 a2 : ByteArray) (a3 b0 : Int) (b1 b2 : ByteArray) (b3 x0 : Int) (x1 x2 : ByteArray) (x3 y0 : Int) (y1 y2 : ByteArray) (y3 c d : Int) (kA kB : ByteArray) (r0 : Int) (r1 r2 : ByteArray) (r3 : Int) (hc : c = 0) (hd : d = 0)
    (HB : Hid (∀ W, Below w.heap.size w W → Calls Tryd.prog 6 #[] W fun e w' => e = .returned (.bool true) ∧ Below W.heap.size W w'))
    (HXa : Hid (∀ W, Calls Tryd.prog 7 #[.agg #[.int .i64 f0, .string f1, .string f2, .int .i64 f3]] W fun e w' => e = .returned (.agg #[.int .i64 a0, .string a1, .string a2, .int .i64 a3]) ∧ Below W.heap.size W w'))
    (HXb : Hid (∀ W, Calls Tryd.prog 7 #[.agg #[.int .i64 g0, .string g1, .string g2, .int .i64 g3]] W fun e w' => e = .returned (.agg #[.int .i64 b0, .string b1, .string b2, .int .i64 b3]) ∧ Below W.heap.size W w'))
    (HRa : Hid (∀ W, Calls Tryd.prog 9 #[.agg #[.int .i64 a0, .string a1, .string a2, .int .i64 a3]] W fun e w' => e = .returned (.tuple #[.agg #[.int .i64 x0, .string x1, .string x2, .int .i64 x3], .int .i64 c]) ∧ Below W.heap.size W w'))
    (HRb : Hid (∀ W, Calls Tryd.prog 9 #[.agg #[.int .i64 b0, .string b1, .string b2, .int .i64 b3]] W fun e w' => e = .returned (.tuple #[.agg #[.int .i64 y0, .string y1, .string y2, .int .i64 y3], .int .i64 d]) ∧ Below W.heap.size W w'))
    (HKa : Hid (∀ W, Below w.heap.size w W → Calls Tryd.prog 12 #[.agg #[.int .i64 a0, .string a1, .string a2, .int .i64 a3]] W fun e w' => e = .returned (.string kA) ∧ Below W.heap.size W w'))
    (HKb : Hid (∀ W, Below w.heap.size w W → Calls Tryd.prog 12 #[.agg #[.int .i64 b0, .string b1, .string b2, .int .i64 b3]] W fun e w' => e = .returned (.string kB) ∧ Below W.heap.size W w'))
    (HE : Hid (∀ W, Calls Tryd.prog 11 #[.agg #[.int .i64 x0, .string x1, .string x2, .int .i64 x3], .agg #[.int .i64 y0, .string y1, .string y2, .int .i64 y3]] W fun e w' => e = .returned (.bool true) ∧ Below W.heap.size W w'))
    (HEx : Hid (∀ W, Calls Tryd.prog 11 #[.agg #[.int .i64 x0, .string x1, .string x2, .int .i64 x3], .agg #[.int .i64 x0, .string x1, .string x2, .int .i64 x3]] W fun e w' => e = .returned (.bool true) ∧ Below W.heap.size W w'))
    (HF : Hid (∀ W, Below w.heap.size w W → Calls Tryd.prog 13 #[.string kA] W fun e w' => e = .returned (.tuple #[.agg #[.int .i64 x0, .string x1, .string x2, .int .i64 x3], .bool true]) ∧ Below W.heap.size W w'))
    (HCut : Hid (∀ W, Calls Tryd.prog 14 #[.string s, .int .i64 300] W fun e w' => e = .returned (.string S) ∧ w' = W))
    (HFs : Hid (∀ W, Below w.heap.size w W → Calls Tryd.prog 13 #[.string S] W fun e w' => e = .returned (.tuple #[.agg #[.int .i64 r0, .string r1, .string r2, .int .i64 r3], .bool false]) ∧ Below W.heap.size W w'))
    (hka : kA.toList.isEmpty = false) (hkb : kB.toList.isEmpty = false)
    (hkk : (kA.toList == kB.toList) = true) :
    Calls Tryd.prog 4 #[.agg #[.int .i64 f0, .string f1, .string f2, .int .i64 f3], .agg #[.int .i64 g0, .string g1, .string g2, .int .i64 g3], .string s] w fun e w' => e = .returned (.bool true) ∧ Below w.heap.size w w' := by
  have hc1 : (c == 0) = true := by simpa using hc
  have hd1 : (d == 0) = true := by simpa using hd
  have hSS : (S.toList == S.toList) = true := by simp
  clear hc hd
  have HN : Hid (∀ W, (w.alloc (.cells #[.int .i64 f0, .string f1, .string f2, .int .i64 f3] 23)).alloc (.cells #[.int .i64 g0, .string g1, .string g2, .int .i64 g3] 23) = W → KB w w.heap.size f0 f1 f2 f3 W ∧ KB w (w.heap.size + 1) g0 g1 g2 g3 W) := Lib.hid (fun W h => two_kb w _ _ _ _ _ _ _ _ W h)
  go_enter Tryd.func4, Tryd.ntmps4
  go_upto_region 1 with (fail)
  obtain ⟨W, hW⟩ : ∃ W, (w.alloc (.cells #[.int .i64 f0, .string f1, .string f2, .int .i64 f3] 23)).alloc (.cells #[.int .i64 g0, .string g1, .string g2, .int .i64 g3] 23) = W := ⟨_, rfl⟩
  obtain ⟨hA, hB⟩ := HN.out W hW
  have A0 := Lib.hid hA
  have B0 := Lib.hid hB
  rw [hW]
  clear hW HN hA hB
  go_upto_region 4 with (go_at_call 6; refine (HB.out _ A0.out.bel).mono ?_; rintro e w1 ⟨rfl, hb⟩; have A1 := Lib.hid (A0.out.below hb).drew; have B1 := Lib.hid (B0.out.below hb).drew; clear hb)
  obtain ⟨p0, p1, p2, p3⟩ := A1.out.cells
  obtain ⟨q0, q1, q2, q3⟩ := B1.out.cells
  go_cut [] from 21 to 24 (fun wx => KB w w.heap.size a0 a1 a2 a3 wx ∧ KB w (w.heap.size + 1) b0 b1 b2 b3 wx)
  · go_region_law (first | (go_simp; go_at_call 7; with_reducible refine (HXa.out _).mono ?_; rintro e w2 ⟨rfl, hb⟩; have A2 := Lib.hid (A1.out.below hb); have B2 := Lib.hid (B1.out.below hb); obtain ⟨s0, s1, s2, s3⟩ := B2.out.cells; clear hb) | (go_simp; go_at_call 7; with_reducible refine (HXb.out _).mono ?_; rintro e w3 ⟨rfl, hb⟩; have A3 := Lib.hid (A2.out.below hb); have B3 := Lib.hid (B2.out.below hb); obtain ⟨t0, t1, t2, t3⟩ := A3.out.cells; obtain ⟨u0, u1, u2, u3⟩ := A3.out.frees; obtain ⟨i0, i1, i2, i3⟩ := B3.out.cells; obtain ⟨j0, j1, j2, j3⟩ := B3.out.frees; clear hb))
    all_goals
      go_wp2
      go_meet
      exact ⟨(A3.out.put _ _ _ _).other (by omega) (Nat.le_succ _) _ _ _ _, (B3.out.other (by omega) (Nat.le_refl _) _ _ _ _).put _ _ _ _⟩
  obtain ⟨hA, hB⟩ := hcut
  have A3 := Lib.hid hA
  have B3 := Lib.hid hB
  clear hA hB p0 p1 p2 p3 q0 q1 q2 q3 A0 B0 A1 B1
  obtain ⟨p0, p1, p2, p3⟩ := A3.out.cells
  go_upto_region 6 with (go_at_call 9; refine (HRa.out _).mono ?_; rintro e w4 ⟨rfl, hb⟩; have A4 := Lib.hid (A3.out.below hb); have B4 := Lib.hid (B3.out.below hb); clear hb)
  obtain ⟨W5, hW5⟩ : ∃ W5, w4.alloc (.cells #[.int .i64 x0, .string x1, .string x2, .int .i64 x3] 23) = W5 := ⟨_, rfl⟩
  have A5 := Lib.hid (A4.out.below (al_bel w4 (.cells #[.int .i64 x0, .string x1, .string x2, .int .i64 x3] 23)))
  have B5 := Lib.hid (B4.out.below (al_bel w4 (.cells #[.int .i64 x0, .string x1, .string x2, .int .i64 x3] 23)))
  have X5 := Lib.hid (KB.new A4.out.bel x0 x1 x2 x3)
  rw [hW5] at A5 B5 X5 ⊢
  clear hW5 p0 p1 p2 p3
  obtain ⟨p0, p1, p2, p3⟩ := B5.out.cells
  go_upto_region 7 with (go_at_call 9; refine (HRb.out _).mono ?_; rintro e w6 ⟨rfl, hb⟩; have A6 := Lib.hid (A5.out.below hb); have B6 := Lib.hid (B5.out.below hb); have X6 := Lib.hid (X5.out.below hb); clear hb)
  obtain ⟨W7, hW7⟩ : ∃ W7, w6.alloc (.cells #[.int .i64 y0, .string y1, .string y2, .int .i64 y3] 23) = W7 := ⟨_, rfl⟩
  have A7 := Lib.hid (A6.out.below (al_bel w6 (.cells #[.int .i64 y0, .string y1, .string y2, .int .i64 y3] 23))).drew
  have B7 := Lib.hid (B6.out.below (al_bel w6 (.cells #[.int .i64 y0, .string y1, .string y2, .int .i64 y3] 23))).drew
  have X7 := Lib.hid (X6.out.below (al_bel w6 (.cells #[.int .i64 y0, .string y1, .string y2, .int .i64 y3] 23))).drew
  have Y7 := Lib.hid (KB.new X6.out.bel y0 y1 y2 y3).drew
  rw [hW7] at A7 B7 X7 Y7 ⊢
  clear hW7 p0 p1 p2 p3
  obtain ⟨p0, p1, p2, p3⟩ := A7.out.cells
  obtain ⟨q0, q1, q2, q3⟩ := B7.out.cells
  go_cut [12, 13] from 35 to 38 (fun kv lv wx => kv = .string kA ∧ lv = .string kB ∧ KB w w4.heap.size x0 x1 x2 x3 wx ∧ KB w w6.heap.size y0 y1 y2 y3 wx)
  · go_region_law (first | (go_simp; go_at_call 12; with_reducible refine (HKa.out _ A7.out.bel).mono ?_; rintro e w8 ⟨rfl, hb⟩; have B8 := Lib.hid (B7.out.below hb); have X8 := Lib.hid (X7.out.below hb); have Y8 := Lib.hid (Y7.out.below hb); obtain ⟨s0, s1, s2, s3⟩ := B8.out.cells; clear hb) | (go_simp; go_at_call 12; with_reducible refine (HKb.out _ B8.out.bel).mono ?_; rintro e w9 ⟨rfl, hb⟩; have X9 := Lib.hid (X8.out.below hb); have Y9 := Lib.hid (Y8.out.below hb); clear hb))
    all_goals
      go_wp2
      go_meet
      exact ⟨rfl, rfl, X9.out, Y9.out⟩
  obtain ⟨rfl, rfl, hX, hY⟩ := hcut
  have X9 := Lib.hid hX
  have Y9 := Lib.hid hY
  clear hX hY p0 p1 p2 p3 q0 q1 q2 q3 A7 B7 X7 Y7 A3 B3 A4 B4 A5 B5 X5 A6 B6 X6
  obtain ⟨p0, p1, p2, p3⟩ := X9.out.cells
  obtain ⟨q0, q1, q2, q3⟩ := Y9.out.cells
  go_upto_region 12 with (go_at_call 11; refine (HE.out _).mono ?_; rintro e w10 ⟨rfl, hb⟩; have X10 := Lib.hid (X9.out.below hb); clear hb)
  go_upto_region 14 with (go_at_call 13; refine (HF.out _ X10.out.bel).mono ?_; rintro e w11 ⟨rfl, hb⟩; have X11 := Lib.hid (X10.out.below hb); clear hb)
  obtain ⟨W12, hW12⟩ : ∃ W12, w11.alloc (.cells #[.int .i64 x0, .string x1, .string x2, .int .i64 x3] 23) = W12 := ⟨_, rfl⟩
  have X12 := Lib.hid (X11.out.below (al_bel w11 (.cells #[.int .i64 x0, .string x1, .string x2, .int .i64 x3] 23)))
  have R12 := Lib.hid (KB.new X11.out.bel x0 x1 x2 x3)
  rw [hW12] at X12 R12 ⊢
  clear hW12 p0 p1 p2 p3 q0 q1 q2 q3
  obtain ⟨p0, p1, p2, p3⟩ := X12.out.cells
  obtain ⟨q0, q1, q2, q3⟩ := R12.out.cells
  go_upto_region 16 with (go_at_call 11; refine (HEx.out _).mono ?_; rintro e w13 ⟨rfl, hb⟩; have X13 := Lib.hid (X12.out.below hb); clear hb)
  clear p0 p1 p2 p3 q0 q1 q2 q3
  go_upto_region 18 with (first | (go_at_call 14; refine (HCut.out _).mono ?_; rintro e w14 ⟨rfl, rfl⟩) | (go_at_call 13; refine (HFs.out _ X13.out.bel).mono ?_; rintro e w15 ⟨rfl, hb⟩; have X15 := Lib.hid (X13.out.below hb); clear hb))
  obtain ⟨W16, hW16⟩ : ∃ W16, w15.alloc (.cells #[.int .i64 r0, .string r1, .string r2, .int .i64 r3] 23) = W16 := ⟨_, rfl⟩
  have R16 := Lib.hid (KB.new X15.out.bel r0 r1 r2 r3)
  rw [hW16] at R16 ⊢
  clear hW16
  obtain ⟨p0, p1, p2, p3⟩ := R16.out.cells
  go_wp2
  go_ret
  exact ⟨rfl, R16.out.bel⟩
set_option maxHeartbeats 8000000 in
set_option maxRecDepth 100000 in
theorem qk_yyd_k (w : World) (f0 : Int) (f1 f2 : ByteArray) (f3 g0 : Int) (g1 g2 : ByteArray) (g3 : Int) (s S : ByteArray) (a0 : Int) (a1 a2 : ByteArray) (a3 b0 : Int) (b1 b2 : ByteArray) (b3 x0 : Int) (x1 x2 : ByteArray) (x3 y0 : Int) (y1 y2 : ByteArray) (y3 c d : Int) (kA kB : ByteArray) (r0 : Int) (r1 r2 : ByteArray) (r3 : Int) (hc : c = 0) (hd : d = 0)
    (HB : Hid (∀ W, Below w.heap.size w W → Calls Tryd.prog 6 #[] W fun e w' => e = .returned (.bool true) ∧ Below W.heap.size W w'))
    (HXa : Hid (∀ W, Calls Tryd.prog 7 #[.agg #[.int .i64 f0, .string f1, .string f2, .int .i64 f3]] W fun e w' => e = .returned (.agg #[.int .i64 a0, .string a1, .string a2, .int .i64 a3]) ∧ Below W.heap.size W w'))
    (HXb : Hid (∀ W, Calls Tryd.prog 7 #[.agg #[.int .i64 g0, .string g1, .string g2, .int .i64 g3]] W fun e w' => e = .returned (.agg #[.int .i64 b0, .string b1, .string b2, .int .i64 b3]) ∧ Below W.heap.size W w'))
    (HRa : Hid (∀ W, Calls Tryd.prog 9 #[.agg #[.int .i64 a0, .string a1, .string a2, .int .i64 a3]] W fun e w' => e = .returned (.tuple #[.agg #[.int .i64 x0, .string x1, .string x2, .int .i64 x3], .int .i64 c]) ∧ Below W.heap.size W w'))
    (HRb : Hid (∀ W, Calls Tryd.prog 9 #[.agg #[.int .i64 b0, .string b1, .string b2, .int .i64 b3]] W fun e w' => e = .returned (.tuple #[.agg #[.int .i64 y0, .string y1, .string y2, .int .i64 y3], .int .i64 d]) ∧ Below W.heap.size W w'))
    (HKa : Hid (∀ W, Below w.heap.size w W → Calls Tryd.prog 12 #[.agg #[.int .i64 a0, .string a1, .string a2, .int .i64 a3]] W fun e w' => e = .returned (.string kA) ∧ Below W.heap.size W w'))
    (HKb : Hid (∀ W, Below w.heap.size w W → Calls Tryd.prog 12 #[.agg #[.int .i64 b0, .string b1, .string b2, .int .i64 b3]] W fun e w' => e = .returned (.string kB) ∧ Below W.heap.size W w'))
    (HE : Hid (∀ W, Calls Tryd.prog 11 #[.agg #[.int .i64 x0, .string x1, .string x2, .int .i64 x3], .agg #[.int .i64 y0, .string y1, .string y2, .int .i64 y3]] W fun e w' => e = .returned (.bool false) ∧ Below W.heap.size W w'))
    (HEx : Hid (∀ W, Calls Tryd.prog 11 #[.agg #[.int .i64 x0, .string x1, .string x2, .int .i64 x3], .agg #[.int .i64 x0, .string x1, .string x2, .int .i64 x3]] W fun e w' => e = .returned (.bool true) ∧ Below W.heap.size W w'))
    (HF : Hid (∀ W, Below w.heap.size w W → Calls Tryd.prog 13 #[.string kA] W fun e w' => e = .returned (.tuple #[.agg #[.int .i64 x0, .string x1, .string x2, .int .i64 x3], .bool true]) ∧ Below W.heap.size W w'))
    (HCut : Hid (∀ W, Calls Tryd.prog 14 #[.string s, .int .i64 300] W fun e w' => e = .returned (.string S) ∧ w' = W))
    (HFs : Hid (∀ W, Below w.heap.size w W → Calls Tryd.prog 13 #[.string S] W fun e w' => e = .returned (.tuple #[.agg #[.int .i64 r0, .string r1, .string r2, .int .i64 r3], .bool true]) ∧ Below W.heap.size W w'))
    (HKr : Hid (∀ W, Below w.heap.size w W → Calls Tryd.prog 12 #[.agg #[.int .i64 r0, .string r1, .string r2, .int .i64 r3]] W fun e w' => e = .returned (.string S) ∧ Below W.heap.size W w'))
    (hka : kA.toList.isEmpty = false) (hkb : kB.toList.isEmpty = false)
    (hkk : (kA.toList == kB.toList) = false)
    (hSe : S.toList.isEmpty = false) :
    Calls Tryd.prog 4 #[.agg #[.int .i64 f0, .string f1, .string f2, .int .i64 f3], .agg #[.int .i64 g0, .string g1, .string g2, .int .i64 g3], .string s] w fun e w' => e = .returned (.bool true) ∧ Below w.heap.size w w' := by
  have hc1 : (c == 0) = true := by simpa using hc
  have hd1 : (d == 0) = true := by simpa using hd
  have hSS : (S.toList == S.toList) = true := by simp
  clear hc hd
  have HN : Hid (∀ W, (w.alloc (.cells #[.int .i64 f0, .string f1, .string f2, .int .i64 f3] 23)).alloc (.cells #[.int .i64 g0, .string g1, .string g2, .int .i64 g3] 23) = W → KB w w.heap.size f0 f1 f2 f3 W ∧ KB w (w.heap.size + 1) g0 g1 g2 g3 W) := Lib.hid (fun W h => two_kb w _ _ _ _ _ _ _ _ W h)
  go_enter Tryd.func4, Tryd.ntmps4
  go_upto_region 1 with (fail)
  obtain ⟨W, hW⟩ : ∃ W, (w.alloc (.cells #[.int .i64 f0, .string f1, .string f2, .int .i64 f3] 23)).alloc (.cells #[.int .i64 g0, .string g1, .string g2, .int .i64 g3] 23) = W := ⟨_, rfl⟩
  obtain ⟨hA, hB⟩ := HN.out W hW
  have A0 := Lib.hid hA
  have B0 := Lib.hid hB
  rw [hW]
  clear hW HN hA hB
  go_upto_region 4 with (go_at_call 6; refine (HB.out _ A0.out.bel).mono ?_; rintro e w1 ⟨rfl, hb⟩; have A1 := Lib.hid (A0.out.below hb).drew; have B1 := Lib.hid (B0.out.below hb).drew; clear hb)
  obtain ⟨p0, p1, p2, p3⟩ := A1.out.cells
  obtain ⟨q0, q1, q2, q3⟩ := B1.out.cells
  go_cut [] from 21 to 24 (fun wx => KB w w.heap.size a0 a1 a2 a3 wx ∧ KB w (w.heap.size + 1) b0 b1 b2 b3 wx)
  · go_region_law (first | (go_simp; go_at_call 7; with_reducible refine (HXa.out _).mono ?_; rintro e w2 ⟨rfl, hb⟩; have A2 := Lib.hid (A1.out.below hb); have B2 := Lib.hid (B1.out.below hb); obtain ⟨s0, s1, s2, s3⟩ := B2.out.cells; clear hb) | (go_simp; go_at_call 7; with_reducible refine (HXb.out _).mono ?_; rintro e w3 ⟨rfl, hb⟩; have A3 := Lib.hid (A2.out.below hb); have B3 := Lib.hid (B2.out.below hb); obtain ⟨t0, t1, t2, t3⟩ := A3.out.cells; obtain ⟨u0, u1, u2, u3⟩ := A3.out.frees; obtain ⟨i0, i1, i2, i3⟩ := B3.out.cells; obtain ⟨j0, j1, j2, j3⟩ := B3.out.frees; clear hb))
    all_goals
      go_wp2
      go_meet
      exact ⟨(A3.out.put _ _ _ _).other (by omega) (Nat.le_succ _) _ _ _ _, (B3.out.other (by omega) (Nat.le_refl _) _ _ _ _).put _ _ _ _⟩
  obtain ⟨hA, hB⟩ := hcut
  have A3 := Lib.hid hA
  have B3 := Lib.hid hB
  clear hA hB p0 p1 p2 p3 q0 q1 q2 q3 A0 B0 A1 B1
  obtain ⟨p0, p1, p2, p3⟩ := A3.out.cells
  go_upto_region 6 with (go_at_call 9; refine (HRa.out _).mono ?_; rintro e w4 ⟨rfl, hb⟩; have A4 := Lib.hid (A3.out.below hb); have B4 := Lib.hid (B3.out.below hb); clear hb)
  obtain ⟨W5, hW5⟩ : ∃ W5, w4.alloc (.cells #[.int .i64 x0, .string x1, .string x2, .int .i64 x3] 23) = W5 := ⟨_, rfl⟩
  have A5 := Lib.hid (A4.out.below (al_bel w4 (.cells #[.int .i64 x0, .string x1, .string x2, .int .i64 x3] 23)))
  have B5 := Lib.hid (B4.out.below (al_bel w4 (.cells #[.int .i64 x0, .string x1, .string x2, .int .i64 x3] 23)))
  have X5 := Lib.hid (KB.new A4.out.bel x0 x1 x2 x3)
  rw [hW5] at A5 B5 X5 ⊢
  clear hW5 p0 p1 p2 p3
  obtain ⟨p0, p1, p2, p3⟩ := B5.out.cells
  go_upto_region 7 with (go_at_call 9; refine (HRb.out _).mono ?_; rintro e w6 ⟨rfl, hb⟩; have A6 := Lib.hid (A5.out.below hb); have B6 := Lib.hid (B5.out.below hb); have X6 := Lib.hid (X5.out.below hb); clear hb)
  obtain ⟨W7, hW7⟩ : ∃ W7, w6.alloc (.cells #[.int .i64 y0, .string y1, .string y2, .int .i64 y3] 23) = W7 := ⟨_, rfl⟩
  have A7 := Lib.hid (A6.out.below (al_bel w6 (.cells #[.int .i64 y0, .string y1, .string y2, .int .i64 y3] 23))).drew
  have B7 := Lib.hid (B6.out.below (al_bel w6 (.cells #[.int .i64 y0, .string y1, .string y2, .int .i64 y3] 23))).drew
  have X7 := Lib.hid (X6.out.below (al_bel w6 (.cells #[.int .i64 y0, .string y1, .string y2, .int .i64 y3] 23))).drew
  have Y7 := Lib.hid (KB.new X6.out.bel y0 y1 y2 y3).drew
  rw [hW7] at A7 B7 X7 Y7 ⊢
  clear hW7 p0 p1 p2 p3
  obtain ⟨p0, p1, p2, p3⟩ := A7.out.cells
  obtain ⟨q0, q1, q2, q3⟩ := B7.out.cells
  go_cut [12, 13] from 35 to 38 (fun kv lv wx => kv = .string kA ∧ lv = .string kB ∧ KB w w4.heap.size x0 x1 x2 x3 wx ∧ KB w w6.heap.size y0 y1 y2 y3 wx)
  · go_region_law (first | (go_simp; go_at_call 12; with_reducible refine (HKa.out _ A7.out.bel).mono ?_; rintro e w8 ⟨rfl, hb⟩; have B8 := Lib.hid (B7.out.below hb); have X8 := Lib.hid (X7.out.below hb); have Y8 := Lib.hid (Y7.out.below hb); obtain ⟨s0, s1, s2, s3⟩ := B8.out.cells; clear hb) | (go_simp; go_at_call 12; with_reducible refine (HKb.out _ B8.out.bel).mono ?_; rintro e w9 ⟨rfl, hb⟩; have X9 := Lib.hid (X8.out.below hb); have Y9 := Lib.hid (Y8.out.below hb); clear hb))
    all_goals
      go_wp2
      go_meet
      exact ⟨rfl, rfl, X9.out, Y9.out⟩
  obtain ⟨rfl, rfl, hX, hY⟩ := hcut
  have X9 := Lib.hid hX
  have Y9 := Lib.hid hY
  clear hX hY p0 p1 p2 p3 q0 q1 q2 q3 A7 B7 X7 Y7 A3 B3 A4 B4 A5 B5 X5 A6 B6 X6
  obtain ⟨p0, p1, p2, p3⟩ := X9.out.cells
  obtain ⟨q0, q1, q2, q3⟩ := Y9.out.cells
  go_upto_region 12 with (go_at_call 11; refine (HE.out _).mono ?_; rintro e w10 ⟨rfl, hb⟩; have X10 := Lib.hid (X9.out.below hb); clear hb)
  go_upto_region 14 with (go_at_call 13; refine (HF.out _ X10.out.bel).mono ?_; rintro e w11 ⟨rfl, hb⟩; have X11 := Lib.hid (X10.out.below hb); clear hb)
  obtain ⟨W12, hW12⟩ : ∃ W12, w11.alloc (.cells #[.int .i64 x0, .string x1, .string x2, .int .i64 x3] 23) = W12 := ⟨_, rfl⟩
  have X12 := Lib.hid (X11.out.below (al_bel w11 (.cells #[.int .i64 x0, .string x1, .string x2, .int .i64 x3] 23)))
  have R12 := Lib.hid (KB.new X11.out.bel x0 x1 x2 x3)
  rw [hW12] at X12 R12 ⊢
  clear hW12 p0 p1 p2 p3 q0 q1 q2 q3
  obtain ⟨p0, p1, p2, p3⟩ := X12.out.cells
  obtain ⟨q0, q1, q2, q3⟩ := R12.out.cells
  go_upto_region 16 with (go_at_call 11; refine (HEx.out _).mono ?_; rintro e w13 ⟨rfl, hb⟩; have X13 := Lib.hid (X12.out.below hb); clear hb)
  clear p0 p1 p2 p3 q0 q1 q2 q3
  go_upto_region 18 with (first | (go_at_call 14; refine (HCut.out _).mono ?_; rintro e w14 ⟨rfl, rfl⟩) | (go_at_call 13; refine (HFs.out _ X13.out.bel).mono ?_; rintro e w15 ⟨rfl, hb⟩; have X15 := Lib.hid (X13.out.below hb); clear hb))
  obtain ⟨W16, hW16⟩ : ∃ W16, w15.alloc (.cells #[.int .i64 r0, .string r1, .string r2, .int .i64 r3] 23) = W16 := ⟨_, rfl⟩
  have R16 := Lib.hid (KB.new X15.out.bel r0 r1 r2 r3)
  rw [hW16] at R16 ⊢
  clear hW16
  obtain ⟨p0, p1, p2, p3⟩ := R16.out.cells
  go_wp2_with (go_at_call 12; refine (HKr.out _ R16.out.bel).mono ?_; rintro e w17 ⟨rfl, hb⟩; have R17 := Lib.hid (R16.out.below hb); clear hb)
  go_ret
  exact ⟨rfl, R17.out.bel⟩
set_option maxHeartbeats 8000000 in
set_option maxRecDepth 100000 in
theorem qk_yyd_z (w : World) (f0 : Int) (f1 f2 : ByteArray) (f3 g0 : Int) (g1 g2 : ByteArray) (g3 : Int) (s S : ByteArray) (a0 : Int) (a1 a2 : ByteArray) (a3 b0 : Int) (b1 b2 : ByteArray) (b3 x0 : Int) (x1 x2 : ByteArray) (x3 y0 : Int) (y1 y2 : ByteArray) (y3 c d : Int) (kA kB : ByteArray) (r0 : Int) (r1 r2 : ByteArray) (r3 : Int) (hc : c = 0) (hd : d = 0)
    (HB : Hid (∀ W, Below w.heap.size w W → Calls Tryd.prog 6 #[] W fun e w' => e = .returned (.bool true) ∧ Below W.heap.size W w'))
    (HXa : Hid (∀ W, Calls Tryd.prog 7 #[.agg #[.int .i64 f0, .string f1, .string f2, .int .i64 f3]] W fun e w' => e = .returned (.agg #[.int .i64 a0, .string a1, .string a2, .int .i64 a3]) ∧ Below W.heap.size W w'))
    (HXb : Hid (∀ W, Calls Tryd.prog 7 #[.agg #[.int .i64 g0, .string g1, .string g2, .int .i64 g3]] W fun e w' => e = .returned (.agg #[.int .i64 b0, .string b1, .string b2, .int .i64 b3]) ∧ Below W.heap.size W w'))
    (HRa : Hid (∀ W, Calls Tryd.prog 9 #[.agg #[.int .i64 a0, .string a1, .string a2, .int .i64 a3]] W fun e w' => e = .returned (.tuple #[.agg #[.int .i64 x0, .string x1, .string x2, .int .i64 x3], .int .i64 c]) ∧ Below W.heap.size W w'))
    (HRb : Hid (∀ W, Calls Tryd.prog 9 #[.agg #[.int .i64 b0, .string b1, .string b2, .int .i64 b3]] W fun e w' => e = .returned (.tuple #[.agg #[.int .i64 y0, .string y1, .string y2, .int .i64 y3], .int .i64 d]) ∧ Below W.heap.size W w'))
    (HKa : Hid (∀ W, Below w.heap.size w W → Calls Tryd.prog 12 #[.agg #[.int .i64 a0, .string a1, .string a2, .int .i64 a3]] W fun e w' => e = .returned (.string kA) ∧ Below W.heap.size W w'))
    (HKb : Hid (∀ W, Below w.heap.size w W → Calls Tryd.prog 12 #[.agg #[.int .i64 b0, .string b1, .string b2, .int .i64 b3]] W fun e w' => e = .returned (.string kB) ∧ Below W.heap.size W w'))
    (HE : Hid (∀ W, Calls Tryd.prog 11 #[.agg #[.int .i64 x0, .string x1, .string x2, .int .i64 x3], .agg #[.int .i64 y0, .string y1, .string y2, .int .i64 y3]] W fun e w' => e = .returned (.bool false) ∧ Below W.heap.size W w'))
    (HEx : Hid (∀ W, Calls Tryd.prog 11 #[.agg #[.int .i64 x0, .string x1, .string x2, .int .i64 x3], .agg #[.int .i64 x0, .string x1, .string x2, .int .i64 x3]] W fun e w' => e = .returned (.bool true) ∧ Below W.heap.size W w'))
    (HF : Hid (∀ W, Below w.heap.size w W → Calls Tryd.prog 13 #[.string kA] W fun e w' => e = .returned (.tuple #[.agg #[.int .i64 x0, .string x1, .string x2, .int .i64 x3], .bool true]) ∧ Below W.heap.size W w'))
    (HCut : Hid (∀ W, Calls Tryd.prog 14 #[.string s, .int .i64 300] W fun e w' => e = .returned (.string S) ∧ w' = W))
    (HFs : Hid (∀ W, Below w.heap.size w W → Calls Tryd.prog 13 #[.string S] W fun e w' => e = .returned (.tuple #[.agg #[.int .i64 r0, .string r1, .string r2, .int .i64 r3], .bool false]) ∧ Below W.heap.size W w'))
    (hka : kA.toList.isEmpty = false) (hkb : kB.toList.isEmpty = false)
    (hkk : (kA.toList == kB.toList) = false) :
    Calls Tryd.prog 4 #[.agg #[.int .i64 f0, .string f1, .string f2, .int .i64 f3], .agg #[.int .i64 g0, .string g1, .string g2, .int .i64 g3], .string s] w fun e w' => e = .returned (.bool true) ∧ Below w.heap.size w w' := by
  have hc1 : (c == 0) = true := by simpa using hc
  have hd1 : (d == 0) = true := by simpa using hd
  have hSS : (S.toList == S.toList) = true := by simp
  clear hc hd
  have HN : Hid (∀ W, (w.alloc (.cells #[.int .i64 f0, .string f1, .string f2, .int .i64 f3] 23)).alloc (.cells #[.int .i64 g0, .string g1, .string g2, .int .i64 g3] 23) = W → KB w w.heap.size f0 f1 f2 f3 W ∧ KB w (w.heap.size + 1) g0 g1 g2 g3 W) := Lib.hid (fun W h => two_kb w _ _ _ _ _ _ _ _ W h)
  go_enter Tryd.func4, Tryd.ntmps4
  go_upto_region 1 with (fail)
  obtain ⟨W, hW⟩ : ∃ W, (w.alloc (.cells #[.int .i64 f0, .string f1, .string f2, .int .i64 f3] 23)).alloc (.cells #[.int .i64 g0, .string g1, .string g2, .int .i64 g3] 23) = W := ⟨_, rfl⟩
  obtain ⟨hA, hB⟩ := HN.out W hW
  have A0 := Lib.hid hA
  have B0 := Lib.hid hB
  rw [hW]
  clear hW HN hA hB
  go_upto_region 4 with (go_at_call 6; refine (HB.out _ A0.out.bel).mono ?_; rintro e w1 ⟨rfl, hb⟩; have A1 := Lib.hid (A0.out.below hb).drew; have B1 := Lib.hid (B0.out.below hb).drew; clear hb)
  obtain ⟨p0, p1, p2, p3⟩ := A1.out.cells
  obtain ⟨q0, q1, q2, q3⟩ := B1.out.cells
  go_cut [] from 21 to 24 (fun wx => KB w w.heap.size a0 a1 a2 a3 wx ∧ KB w (w.heap.size + 1) b0 b1 b2 b3 wx)
  · go_region_law (first | (go_simp; go_at_call 7; with_reducible refine (HXa.out _).mono ?_; rintro e w2 ⟨rfl, hb⟩; have A2 := Lib.hid (A1.out.below hb); have B2 := Lib.hid (B1.out.below hb); obtain ⟨s0, s1, s2, s3⟩ := B2.out.cells; clear hb) | (go_simp; go_at_call 7; with_reducible refine (HXb.out _).mono ?_; rintro e w3 ⟨rfl, hb⟩; have A3 := Lib.hid (A2.out.below hb); have B3 := Lib.hid (B2.out.below hb); obtain ⟨t0, t1, t2, t3⟩ := A3.out.cells; obtain ⟨u0, u1, u2, u3⟩ := A3.out.frees; obtain ⟨i0, i1, i2, i3⟩ := B3.out.cells; obtain ⟨j0, j1, j2, j3⟩ := B3.out.frees; clear hb))
    all_goals
      go_wp2
      go_meet
      exact ⟨(A3.out.put _ _ _ _).other (by omega) (Nat.le_succ _) _ _ _ _, (B3.out.other (by omega) (Nat.le_refl _) _ _ _ _).put _ _ _ _⟩
  obtain ⟨hA, hB⟩ := hcut
  have A3 := Lib.hid hA
  have B3 := Lib.hid hB
  clear hA hB p0 p1 p2 p3 q0 q1 q2 q3 A0 B0 A1 B1
  obtain ⟨p0, p1, p2, p3⟩ := A3.out.cells
  go_upto_region 6 with (go_at_call 9; refine (HRa.out _).mono ?_; rintro e w4 ⟨rfl, hb⟩; have A4 := Lib.hid (A3.out.below hb); have B4 := Lib.hid (B3.out.below hb); clear hb)
  obtain ⟨W5, hW5⟩ : ∃ W5, w4.alloc (.cells #[.int .i64 x0, .string x1, .string x2, .int .i64 x3] 23) = W5 := ⟨_, rfl⟩
  have A5 := Lib.hid (A4.out.below (al_bel w4 (.cells #[.int .i64 x0, .string x1, .string x2, .int .i64 x3] 23)))
  have B5 := Lib.hid (B4.out.below (al_bel w4 (.cells #[.int .i64 x0, .string x1, .string x2, .int .i64 x3] 23)))
  have X5 := Lib.hid (KB.new A4.out.bel x0 x1 x2 x3)
  rw [hW5] at A5 B5 X5 ⊢
  clear hW5 p0 p1 p2 p3
  obtain ⟨p0, p1, p2, p3⟩ := B5.out.cells
  go_upto_region 7 with (go_at_call 9; refine (HRb.out _).mono ?_; rintro e w6 ⟨rfl, hb⟩; have A6 := Lib.hid (A5.out.below hb); have B6 := Lib.hid (B5.out.below hb); have X6 := Lib.hid (X5.out.below hb); clear hb)
  obtain ⟨W7, hW7⟩ : ∃ W7, w6.alloc (.cells #[.int .i64 y0, .string y1, .string y2, .int .i64 y3] 23) = W7 := ⟨_, rfl⟩
  have A7 := Lib.hid (A6.out.below (al_bel w6 (.cells #[.int .i64 y0, .string y1, .string y2, .int .i64 y3] 23))).drew
  have B7 := Lib.hid (B6.out.below (al_bel w6 (.cells #[.int .i64 y0, .string y1, .string y2, .int .i64 y3] 23))).drew
  have X7 := Lib.hid (X6.out.below (al_bel w6 (.cells #[.int .i64 y0, .string y1, .string y2, .int .i64 y3] 23))).drew
  have Y7 := Lib.hid (KB.new X6.out.bel y0 y1 y2 y3).drew
  rw [hW7] at A7 B7 X7 Y7 ⊢
  clear hW7 p0 p1 p2 p3
  obtain ⟨p0, p1, p2, p3⟩ := A7.out.cells
  obtain ⟨q0, q1, q2, q3⟩ := B7.out.cells
  go_cut [12, 13] from 35 to 38 (fun kv lv wx => kv = .string kA ∧ lv = .string kB ∧ KB w w4.heap.size x0 x1 x2 x3 wx ∧ KB w w6.heap.size y0 y1 y2 y3 wx)
  · go_region_law (first | (go_simp; go_at_call 12; with_reducible refine (HKa.out _ A7.out.bel).mono ?_; rintro e w8 ⟨rfl, hb⟩; have B8 := Lib.hid (B7.out.below hb); have X8 := Lib.hid (X7.out.below hb); have Y8 := Lib.hid (Y7.out.below hb); obtain ⟨s0, s1, s2, s3⟩ := B8.out.cells; clear hb) | (go_simp; go_at_call 12; with_reducible refine (HKb.out _ B8.out.bel).mono ?_; rintro e w9 ⟨rfl, hb⟩; have X9 := Lib.hid (X8.out.below hb); have Y9 := Lib.hid (Y8.out.below hb); clear hb))
    all_goals
      go_wp2
      go_meet
      exact ⟨rfl, rfl, X9.out, Y9.out⟩
  obtain ⟨rfl, rfl, hX, hY⟩ := hcut
  have X9 := Lib.hid hX
  have Y9 := Lib.hid hY
  clear hX hY p0 p1 p2 p3 q0 q1 q2 q3 A7 B7 X7 Y7 A3 B3 A4 B4 A5 B5 X5 A6 B6 X6
  obtain ⟨p0, p1, p2, p3⟩ := X9.out.cells
  obtain ⟨q0, q1, q2, q3⟩ := Y9.out.cells
  go_upto_region 12 with (go_at_call 11; refine (HE.out _).mono ?_; rintro e w10 ⟨rfl, hb⟩; have X10 := Lib.hid (X9.out.below hb); clear hb)
  go_upto_region 14 with (go_at_call 13; refine (HF.out _ X10.out.bel).mono ?_; rintro e w11 ⟨rfl, hb⟩; have X11 := Lib.hid (X10.out.below hb); clear hb)
  obtain ⟨W12, hW12⟩ : ∃ W12, w11.alloc (.cells #[.int .i64 x0, .string x1, .string x2, .int .i64 x3] 23) = W12 := ⟨_, rfl⟩
  have X12 := Lib.hid (X11.out.below (al_bel w11 (.cells #[.int .i64 x0, .string x1, .string x2, .int .i64 x3] 23)))
  have R12 := Lib.hid (KB.new X11.out.bel x0 x1 x2 x3)
  rw [hW12] at X12 R12 ⊢
  clear hW12 p0 p1 p2 p3 q0 q1 q2 q3
  obtain ⟨p0, p1, p2, p3⟩ := X12.out.cells
  obtain ⟨q0, q1, q2, q3⟩ := R12.out.cells
  go_upto_region 16 with (go_at_call 11; refine (HEx.out _).mono ?_; rintro e w13 ⟨rfl, hb⟩; have X13 := Lib.hid (X12.out.below hb); clear hb)
  clear p0 p1 p2 p3 q0 q1 q2 q3
  go_upto_region 18 with (first | (go_at_call 14; refine (HCut.out _).mono ?_; rintro e w14 ⟨rfl, rfl⟩) | (go_at_call 13; refine (HFs.out _ X13.out.bel).mono ?_; rintro e w15 ⟨rfl, hb⟩; have X15 := Lib.hid (X13.out.below hb); clear hb))
  obtain ⟨W16, hW16⟩ : ∃ W16, w15.alloc (.cells #[.int .i64 r0, .string r1, .string r2, .int .i64 r3] 23) = W16 := ⟨_, rfl⟩
  have R16 := Lib.hid (KB.new X15.out.bel r0 r1 r2 r3)
  rw [hW16] at R16 ⊢
  clear hW16
  obtain ⟨p0, p1, p2, p3⟩ := R16.out.cells
  go_wp2
  go_ret
  exact ⟨rfl, R16.out.bel⟩
set_option maxHeartbeats 8000000 in
set_option maxRecDepth 100000 in
theorem qk_yn_k (w : World) (f0 : Int) (f1 f2 : ByteArray) (f3 g0 : Int) (g1 g2 : ByteArray) (g3 : Int) (s S : ByteArray) (a0 : Int) (a1 a2 : ByteArray) (a3 b0 : Int) (b1 b2 : ByteArray) (b3 x0 : Int) (x1 x2 : ByteArray) (x3 y0 : Int) (y1 y2 : ByteArray) (y3 c d : Int) (kA kB : ByteArray) (r0 : Int) (r1 r2 : ByteArray) (r3 : Int) (hc : c = 0) (hd : d ≠ 0)
    (HB : Hid (∀ W, Below w.heap.size w W → Calls Tryd.prog 6 #[] W fun e w' => e = .returned (.bool true) ∧ Below W.heap.size W w'))
    (HXa : Hid (∀ W, Calls Tryd.prog 7 #[.agg #[.int .i64 f0, .string f1, .string f2, .int .i64 f3]] W fun e w' => e = .returned (.agg #[.int .i64 a0, .string a1, .string a2, .int .i64 a3]) ∧ Below W.heap.size W w'))
    (HXb : Hid (∀ W, Calls Tryd.prog 7 #[.agg #[.int .i64 g0, .string g1, .string g2, .int .i64 g3]] W fun e w' => e = .returned (.agg #[.int .i64 b0, .string b1, .string b2, .int .i64 b3]) ∧ Below W.heap.size W w'))
    (HRa : Hid (∀ W, Calls Tryd.prog 9 #[.agg #[.int .i64 a0, .string a1, .string a2, .int .i64 a3]] W fun e w' => e = .returned (.tuple #[.agg #[.int .i64 x0, .string x1, .string x2, .int .i64 x3], .int .i64 c]) ∧ Below W.heap.size W w'))
    (HRb : Hid (∀ W, Calls Tryd.prog 9 #[.agg #[.int .i64 b0, .string b1, .string b2, .int .i64 b3]] W fun e w' => e = .returned (.tuple #[.agg #[.int .i64 y0, .string y1, .string y2, .int .i64 y3], .int .i64 d]) ∧ Below W.heap.size W w'))
    (HKa : Hid (∀ W, Below w.heap.size w W → Calls Tryd.prog 12 #[.agg #[.int .i64 a0, .string a1, .string a2, .int .i64 a3]] W fun e w' => e = .returned (.string kA) ∧ Below W.heap.size W w'))
    (HKb : Hid (∀ W, Below w.heap.size w W → Calls Tryd.prog 12 #[.agg #[.int .i64 b0, .string b1, .string b2, .int .i64 b3]] W fun e w' => e = .returned (.string kB) ∧ Below W.heap.size W w'))
    (HEx : Hid (∀ W, Calls Tryd.prog 11 #[.agg #[.int .i64 x0, .string x1, .string x2, .int .i64 x3], .agg #[.int .i64 x0, .string x1, .string x2, .int .i64 x3]] W fun e w' => e = .returned (.bool true) ∧ Below W.heap.size W w'))
    (HF : Hid (∀ W, Below w.heap.size w W → Calls Tryd.prog 13 #[.string kA] W fun e w' => e = .returned (.tuple #[.agg #[.int .i64 x0, .string x1, .string x2, .int .i64 x3], .bool true]) ∧ Below W.heap.size W w'))
    (HCut : Hid (∀ W, Calls Tryd.prog 14 #[.string s, .int .i64 300] W fun e w' => e = .returned (.string S) ∧ w' = W))
    (HFs : Hid (∀ W, Below w.heap.size w W → Calls Tryd.prog 13 #[.string S] W fun e w' => e = .returned (.tuple #[.agg #[.int .i64 r0, .string r1, .string r2, .int .i64 r3], .bool true]) ∧ Below W.heap.size W w'))
    (HKr : Hid (∀ W, Below w.heap.size w W → Calls Tryd.prog 12 #[.agg #[.int .i64 r0, .string r1, .string r2, .int .i64 r3]] W fun e w' => e = .returned (.string S) ∧ Below W.heap.size W w'))
    (hka : kA.toList.isEmpty = false) (hkb : kB.toList.isEmpty = true)
    (hSe : S.toList.isEmpty = false) :
    Calls Tryd.prog 4 #[.agg #[.int .i64 f0, .string f1, .string f2, .int .i64 f3], .agg #[.int .i64 g0, .string g1, .string g2, .int .i64 g3], .string s] w fun e w' => e = .returned (.bool true) ∧ Below w.heap.size w w' := by
  have hc1 : (c == 0) = true := by simpa using hc
  have hd1 : (d == 0) = false := by simpa using hd
  have hSS : (S.toList == S.toList) = true := by simp
  clear hc hd
  have HN : Hid (∀ W, (w.alloc (.cells #[.int .i64 f0, .string f1, .string f2, .int .i64 f3] 23)).alloc (.cells #[.int .i64 g0, .string g1, .string g2, .int .i64 g3] 23) = W → KB w w.heap.size f0 f1 f2 f3 W ∧ KB w (w.heap.size + 1) g0 g1 g2 g3 W) := Lib.hid (fun W h => two_kb w _ _ _ _ _ _ _ _ W h)
  go_enter Tryd.func4, Tryd.ntmps4
  go_upto_region 1 with (fail)
  obtain ⟨W, hW⟩ : ∃ W, (w.alloc (.cells #[.int .i64 f0, .string f1, .string f2, .int .i64 f3] 23)).alloc (.cells #[.int .i64 g0, .string g1, .string g2, .int .i64 g3] 23) = W := ⟨_, rfl⟩
  obtain ⟨hA, hB⟩ := HN.out W hW
  have A0 := Lib.hid hA
  have B0 := Lib.hid hB
  rw [hW]
  clear hW HN hA hB
  go_upto_region 4 with (go_at_call 6; refine (HB.out _ A0.out.bel).mono ?_; rintro e w1 ⟨rfl, hb⟩; have A1 := Lib.hid (A0.out.below hb).drew; have B1 := Lib.hid (B0.out.below hb).drew; clear hb)
  obtain ⟨p0, p1, p2, p3⟩ := A1.out.cells
  obtain ⟨q0, q1, q2, q3⟩ := B1.out.cells
  go_cut [] from 21 to 24 (fun wx => KB w w.heap.size a0 a1 a2 a3 wx ∧ KB w (w.heap.size + 1) b0 b1 b2 b3 wx)
  · go_region_law (first | (go_simp; go_at_call 7; with_reducible refine (HXa.out _).mono ?_; rintro e w2 ⟨rfl, hb⟩; have A2 := Lib.hid (A1.out.below hb); have B2 := Lib.hid (B1.out.below hb); obtain ⟨s0, s1, s2, s3⟩ := B2.out.cells; clear hb) | (go_simp; go_at_call 7; with_reducible refine (HXb.out _).mono ?_; rintro e w3 ⟨rfl, hb⟩; have A3 := Lib.hid (A2.out.below hb); have B3 := Lib.hid (B2.out.below hb); obtain ⟨t0, t1, t2, t3⟩ := A3.out.cells; obtain ⟨u0, u1, u2, u3⟩ := A3.out.frees; obtain ⟨i0, i1, i2, i3⟩ := B3.out.cells; obtain ⟨j0, j1, j2, j3⟩ := B3.out.frees; clear hb))
    all_goals
      go_wp2
      go_meet
      exact ⟨(A3.out.put _ _ _ _).other (by omega) (Nat.le_succ _) _ _ _ _, (B3.out.other (by omega) (Nat.le_refl _) _ _ _ _).put _ _ _ _⟩
  obtain ⟨hA, hB⟩ := hcut
  have A3 := Lib.hid hA
  have B3 := Lib.hid hB
  clear hA hB p0 p1 p2 p3 q0 q1 q2 q3 A0 B0 A1 B1
  obtain ⟨p0, p1, p2, p3⟩ := A3.out.cells
  go_upto_region 6 with (go_at_call 9; refine (HRa.out _).mono ?_; rintro e w4 ⟨rfl, hb⟩; have A4 := Lib.hid (A3.out.below hb); have B4 := Lib.hid (B3.out.below hb); clear hb)
  obtain ⟨W5, hW5⟩ : ∃ W5, w4.alloc (.cells #[.int .i64 x0, .string x1, .string x2, .int .i64 x3] 23) = W5 := ⟨_, rfl⟩
  have A5 := Lib.hid (A4.out.below (al_bel w4 (.cells #[.int .i64 x0, .string x1, .string x2, .int .i64 x3] 23)))
  have B5 := Lib.hid (B4.out.below (al_bel w4 (.cells #[.int .i64 x0, .string x1, .string x2, .int .i64 x3] 23)))
  have X5 := Lib.hid (KB.new A4.out.bel x0 x1 x2 x3)
  rw [hW5] at A5 B5 X5 ⊢
  clear hW5 p0 p1 p2 p3
  obtain ⟨p0, p1, p2, p3⟩ := B5.out.cells
  go_upto_region 7 with (go_at_call 9; refine (HRb.out _).mono ?_; rintro e w6 ⟨rfl, hb⟩; have A6 := Lib.hid (A5.out.below hb); have B6 := Lib.hid (B5.out.below hb); have X6 := Lib.hid (X5.out.below hb); clear hb)
  obtain ⟨W7, hW7⟩ : ∃ W7, w6.alloc (.cells #[.int .i64 y0, .string y1, .string y2, .int .i64 y3] 23) = W7 := ⟨_, rfl⟩
  have A7 := Lib.hid (A6.out.below (al_bel w6 (.cells #[.int .i64 y0, .string y1, .string y2, .int .i64 y3] 23))).drew
  have B7 := Lib.hid (B6.out.below (al_bel w6 (.cells #[.int .i64 y0, .string y1, .string y2, .int .i64 y3] 23))).drew
  have X7 := Lib.hid (X6.out.below (al_bel w6 (.cells #[.int .i64 y0, .string y1, .string y2, .int .i64 y3] 23))).drew
  have Y7 := Lib.hid (KB.new X6.out.bel y0 y1 y2 y3).drew
  rw [hW7] at A7 B7 X7 Y7 ⊢
  clear hW7 p0 p1 p2 p3
  obtain ⟨p0, p1, p2, p3⟩ := A7.out.cells
  obtain ⟨q0, q1, q2, q3⟩ := B7.out.cells
  go_cut [12, 13] from 35 to 38 (fun kv lv wx => kv = .string kA ∧ lv = .string kB ∧ KB w w4.heap.size x0 x1 x2 x3 wx ∧ KB w w6.heap.size y0 y1 y2 y3 wx)
  · go_region_law (first | (go_simp; go_at_call 12; with_reducible refine (HKa.out _ A7.out.bel).mono ?_; rintro e w8 ⟨rfl, hb⟩; have B8 := Lib.hid (B7.out.below hb); have X8 := Lib.hid (X7.out.below hb); have Y8 := Lib.hid (Y7.out.below hb); obtain ⟨s0, s1, s2, s3⟩ := B8.out.cells; clear hb) | (go_simp; go_at_call 12; with_reducible refine (HKb.out _ B8.out.bel).mono ?_; rintro e w9 ⟨rfl, hb⟩; have X9 := Lib.hid (X8.out.below hb); have Y9 := Lib.hid (Y8.out.below hb); clear hb))
    all_goals
      go_wp2
      go_meet
      exact ⟨rfl, rfl, X9.out, Y9.out⟩
  obtain ⟨rfl, rfl, hX, hY⟩ := hcut
  have X9 := Lib.hid hX
  have Y9 := Lib.hid hY
  clear hX hY p0 p1 p2 p3 q0 q1 q2 q3 A7 B7 X7 Y7 A3 B3 A4 B4 A5 B5 X5 A6 B6 X6
  obtain ⟨p0, p1, p2, p3⟩ := X9.out.cells
  obtain ⟨q0, q1, q2, q3⟩ := Y9.out.cells
  go_upto_region 14 with (go_at_call 13; refine (HF.out _ X9.out.bel).mono ?_; rintro e w11 ⟨rfl, hb⟩; have X11 := Lib.hid (X9.out.below hb); clear hb)
  obtain ⟨W12, hW12⟩ : ∃ W12, w11.alloc (.cells #[.int .i64 x0, .string x1, .string x2, .int .i64 x3] 23) = W12 := ⟨_, rfl⟩
  have X12 := Lib.hid (X11.out.below (al_bel w11 (.cells #[.int .i64 x0, .string x1, .string x2, .int .i64 x3] 23)))
  have R12 := Lib.hid (KB.new X11.out.bel x0 x1 x2 x3)
  rw [hW12] at X12 R12 ⊢
  clear hW12 p0 p1 p2 p3 q0 q1 q2 q3
  obtain ⟨p0, p1, p2, p3⟩ := X12.out.cells
  obtain ⟨q0, q1, q2, q3⟩ := R12.out.cells
  go_upto_region 16 with (go_at_call 11; refine (HEx.out _).mono ?_; rintro e w13 ⟨rfl, hb⟩; have X13 := Lib.hid (X12.out.below hb); clear hb)
  clear p0 p1 p2 p3 q0 q1 q2 q3
  go_upto_region 18 with (first | (go_at_call 14; refine (HCut.out _).mono ?_; rintro e w14 ⟨rfl, rfl⟩) | (go_at_call 13; refine (HFs.out _ X13.out.bel).mono ?_; rintro e w15 ⟨rfl, hb⟩; have X15 := Lib.hid (X13.out.below hb); clear hb))
  obtain ⟨W16, hW16⟩ : ∃ W16, w15.alloc (.cells #[.int .i64 r0, .string r1, .string r2, .int .i64 r3] 23) = W16 := ⟨_, rfl⟩
  have R16 := Lib.hid (KB.new X15.out.bel r0 r1 r2 r3)
  rw [hW16] at R16 ⊢
  clear hW16
  obtain ⟨p0, p1, p2, p3⟩ := R16.out.cells
  go_wp2_with (go_at_call 12; refine (HKr.out _ R16.out.bel).mono ?_; rintro e w17 ⟨rfl, hb⟩; have R17 := Lib.hid (R16.out.below hb); clear hb)
  go_ret
  exact ⟨rfl, R17.out.bel⟩
set_option maxHeartbeats 8000000 in
set_option maxRecDepth 100000 in
theorem qk_yn_z (w : World) (f0 : Int) (f1 f2 : ByteArray) (f3 g0 : Int) (g1 g2 : ByteArray) (g3 : Int) (s S : ByteArray) (a0 : Int) (a1 a2 : ByteArray) (a3 b0 : Int) (b1 b2 : ByteArray) (b3 x0 : Int) (x1 x2 : ByteArray) (x3 y0 : Int) (y1 y2 : ByteArray) (y3 c d : Int) (kA kB : ByteArray) (r0 : Int) (r1 r2 : ByteArray) (r3 : Int) (hc : c = 0) (hd : d ≠ 0)
    (HB : Hid (∀ W, Below w.heap.size w W → Calls Tryd.prog 6 #[] W fun e w' => e = .returned (.bool true) ∧ Below W.heap.size W w'))
    (HXa : Hid (∀ W, Calls Tryd.prog 7 #[.agg #[.int .i64 f0, .string f1, .string f2, .int .i64 f3]] W fun e w' => e = .returned (.agg #[.int .i64 a0, .string a1, .string a2, .int .i64 a3]) ∧ Below W.heap.size W w'))
    (HXb : Hid (∀ W, Calls Tryd.prog 7 #[.agg #[.int .i64 g0, .string g1, .string g2, .int .i64 g3]] W fun e w' => e = .returned (.agg #[.int .i64 b0, .string b1, .string b2, .int .i64 b3]) ∧ Below W.heap.size W w'))
    (HRa : Hid (∀ W, Calls Tryd.prog 9 #[.agg #[.int .i64 a0, .string a1, .string a2, .int .i64 a3]] W fun e w' => e = .returned (.tuple #[.agg #[.int .i64 x0, .string x1, .string x2, .int .i64 x3], .int .i64 c]) ∧ Below W.heap.size W w'))
    (HRb : Hid (∀ W, Calls Tryd.prog 9 #[.agg #[.int .i64 b0, .string b1, .string b2, .int .i64 b3]] W fun e w' => e = .returned (.tuple #[.agg #[.int .i64 y0, .string y1, .string y2, .int .i64 y3], .int .i64 d]) ∧ Below W.heap.size W w'))
    (HKa : Hid (∀ W, Below w.heap.size w W → Calls Tryd.prog 12 #[.agg #[.int .i64 a0, .string a1, .string a2, .int .i64 a3]] W fun e w' => e = .returned (.string kA) ∧ Below W.heap.size W w'))
    (HKb : Hid (∀ W, Below w.heap.size w W → Calls Tryd.prog 12 #[.agg #[.int .i64 b0, .string b1, .string b2, .int .i64 b3]] W fun e w' => e = .returned (.string kB) ∧ Below W.heap.size W w'))
    (HEx : Hid (∀ W, Calls Tryd.prog 11 #[.agg #[.int .i64 x0, .string x1, .string x2, .int .i64 x3], .agg #[.int .i64 x0, .string x1, .string x2, .int .i64 x3]] W fun e w' => e = .returned (.bool true) ∧ Below W.heap.size W w'))
    (HF : Hid (∀ W, Below w.heap.size w W → Calls Tryd.prog 13 #[.string kA] W fun e w' => e = .returned (.tuple #[.agg #[.int .i64 x0, .string x1, .string x2, .int .i64 x3], .bool true]) ∧ Below W.heap.size W w'))
    (HCut : Hid (∀ W, Calls Tryd.prog 14 #[.string s, .int .i64 300] W fun e w' => e = .returned (.string S) ∧ w' = W))
    (HFs : Hid (∀ W, Below w.heap.size w W → Calls Tryd.prog 13 #[.string S] W fun e w' => e = .returned (.tuple #[.agg #[.int .i64 r0, .string r1, .string r2, .int .i64 r3], .bool false]) ∧ Below W.heap.size W w'))
    (hka : kA.toList.isEmpty = false) (hkb : kB.toList.isEmpty = true) :
    Calls Tryd.prog 4 #[.agg #[.int .i64 f0, .string f1, .string f2, .int .i64 f3], .agg #[.int .i64 g0, .string g1, .string g2, .int .i64 g3], .string s] w fun e w' => e = .returned (.bool true) ∧ Below w.heap.size w w' := by
  have hc1 : (c == 0) = true := by simpa using hc
  have hd1 : (d == 0) = false := by simpa using hd
  have hSS : (S.toList == S.toList) = true := by simp
  clear hc hd
  have HN : Hid (∀ W, (w.alloc (.cells #[.int .i64 f0, .string f1, .string f2, .int .i64 f3] 23)).alloc (.cells #[.int .i64 g0, .string g1, .string g2, .int .i64 g3] 23) = W → KB w w.heap.size f0 f1 f2 f3 W ∧ KB w (w.heap.size + 1) g0 g1 g2 g3 W) := Lib.hid (fun W h => two_kb w _ _ _ _ _ _ _ _ W h)
  go_enter Tryd.func4, Tryd.ntmps4
  go_upto_region 1 with (fail)
  obtain ⟨W, hW⟩ : ∃ W, (w.alloc (.cells #[.int .i64 f0, .string f1, .string f2, .int .i64 f3] 23)).alloc (.cells #[.int .i64 g0, .string g1, .string g2, .int .i64 g3] 23) = W := ⟨_, rfl⟩
  obtain ⟨hA, hB⟩ := HN.out W hW
  have A0 := Lib.hid hA
  have B0 := Lib.hid hB
  rw [hW]
  clear hW HN hA hB
  go_upto_region 4 with (go_at_call 6; refine (HB.out _ A0.out.bel).mono ?_; rintro e w1 ⟨rfl, hb⟩; have A1 := Lib.hid (A0.out.below hb).drew; have B1 := Lib.hid (B0.out.below hb).drew; clear hb)
  obtain ⟨p0, p1, p2, p3⟩ := A1.out.cells
  obtain ⟨q0, q1, q2, q3⟩ := B1.out.cells
  go_cut [] from 21 to 24 (fun wx => KB w w.heap.size a0 a1 a2 a3 wx ∧ KB w (w.heap.size + 1) b0 b1 b2 b3 wx)
  · go_region_law (first | (go_simp; go_at_call 7; with_reducible refine (HXa.out _).mono ?_; rintro e w2 ⟨rfl, hb⟩; have A2 := Lib.hid (A1.out.below hb); have B2 := Lib.hid (B1.out.below hb); obtain ⟨s0, s1, s2, s3⟩ := B2.out.cells; clear hb) | (go_simp; go_at_call 7; with_reducible refine (HXb.out _).mono ?_; rintro e w3 ⟨rfl, hb⟩; have A3 := Lib.hid (A2.out.below hb); have B3 := Lib.hid (B2.out.below hb); obtain ⟨t0, t1, t2, t3⟩ := A3.out.cells; obtain ⟨u0, u1, u2, u3⟩ := A3.out.frees; obtain ⟨i0, i1, i2, i3⟩ := B3.out.cells; obtain ⟨j0, j1, j2, j3⟩ := B3.out.frees; clear hb))
    all_goals
      go_wp2
      go_meet
      exact ⟨(A3.out.put _ _ _ _).other (by omega) (Nat.le_succ _) _ _ _ _, (B3.out.other (by omega) (Nat.le_refl _) _ _ _ _).put _ _ _ _⟩
  obtain ⟨hA, hB⟩ := hcut
  have A3 := Lib.hid hA
  have B3 := Lib.hid hB
  clear hA hB p0 p1 p2 p3 q0 q1 q2 q3 A0 B0 A1 B1
  obtain ⟨p0, p1, p2, p3⟩ := A3.out.cells
  go_upto_region 6 with (go_at_call 9; refine (HRa.out _).mono ?_; rintro e w4 ⟨rfl, hb⟩; have A4 := Lib.hid (A3.out.below hb); have B4 := Lib.hid (B3.out.below hb); clear hb)
  obtain ⟨W5, hW5⟩ : ∃ W5, w4.alloc (.cells #[.int .i64 x0, .string x1, .string x2, .int .i64 x3] 23) = W5 := ⟨_, rfl⟩
  have A5 := Lib.hid (A4.out.below (al_bel w4 (.cells #[.int .i64 x0, .string x1, .string x2, .int .i64 x3] 23)))
  have B5 := Lib.hid (B4.out.below (al_bel w4 (.cells #[.int .i64 x0, .string x1, .string x2, .int .i64 x3] 23)))
  have X5 := Lib.hid (KB.new A4.out.bel x0 x1 x2 x3)
  rw [hW5] at A5 B5 X5 ⊢
  clear hW5 p0 p1 p2 p3
  obtain ⟨p0, p1, p2, p3⟩ := B5.out.cells
  go_upto_region 7 with (go_at_call 9; refine (HRb.out _).mono ?_; rintro e w6 ⟨rfl, hb⟩; have A6 := Lib.hid (A5.out.below hb); have B6 := Lib.hid (B5.out.below hb); have X6 := Lib.hid (X5.out.below hb); clear hb)
  obtain ⟨W7, hW7⟩ : ∃ W7, w6.alloc (.cells #[.int .i64 y0, .string y1, .string y2, .int .i64 y3] 23) = W7 := ⟨_, rfl⟩
  have A7 := Lib.hid (A6.out.below (al_bel w6 (.cells #[.int .i64 y0, .string y1, .string y2, .int .i64 y3] 23))).drew
  have B7 := Lib.hid (B6.out.below (al_bel w6 (.cells #[.int .i64 y0, .string y1, .string y2, .int .i64 y3] 23))).drew
  have X7 := Lib.hid (X6.out.below (al_bel w6 (.cells #[.int .i64 y0, .string y1, .string y2, .int .i64 y3] 23))).drew
  have Y7 := Lib.hid (KB.new X6.out.bel y0 y1 y2 y3).drew
  rw [hW7] at A7 B7 X7 Y7 ⊢
  clear hW7 p0 p1 p2 p3
  obtain ⟨p0, p1, p2, p3⟩ := A7.out.cells
  obtain ⟨q0, q1, q2, q3⟩ := B7.out.cells
  go_cut [12, 13] from 35 to 38 (fun kv lv wx => kv = .string kA ∧ lv = .string kB ∧ KB w w4.heap.size x0 x1 x2 x3 wx ∧ KB w w6.heap.size y0 y1 y2 y3 wx)
  · go_region_law (first | (go_simp; go_at_call 12; with_reducible refine (HKa.out _ A7.out.bel).mono ?_; rintro e w8 ⟨rfl, hb⟩; have B8 := Lib.hid (B7.out.below hb); have X8 := Lib.hid (X7.out.below hb); have Y8 := Lib.hid (Y7.out.below hb); obtain ⟨s0, s1, s2, s3⟩ := B8.out.cells; clear hb) | (go_simp; go_at_call 12; with_reducible refine (HKb.out _ B8.out.bel).mono ?_; rintro e w9 ⟨rfl, hb⟩; have X9 := Lib.hid (X8.out.below hb); have Y9 := Lib.hid (Y8.out.below hb); clear hb))
    all_goals
      go_wp2
      go_meet
      exact ⟨rfl, rfl, X9.out, Y9.out⟩
  obtain ⟨rfl, rfl, hX, hY⟩ := hcut
  have X9 := Lib.hid hX
  have Y9 := Lib.hid hY
  clear hX hY p0 p1 p2 p3 q0 q1 q2 q3 A7 B7 X7 Y7 A3 B3 A4 B4 A5 B5 X5 A6 B6 X6
  obtain ⟨p0, p1, p2, p3⟩ := X9.out.cells
  obtain ⟨q0, q1, q2, q3⟩ := Y9.out.cells
  go_upto_region 14 with (go_at_call 13; refine (HF.out _ X9.out.bel).mono ?_; rintro e w11 ⟨rfl, hb⟩; have X11 := Lib.hid (X9.out.below hb); clear hb)
  obtain ⟨W12, hW12⟩ : ∃ W12, w11.alloc (.cells #[.int .i64 x0, .string x1, .string x2, .int .i64 x3] 23) = W12 := ⟨_, rfl⟩
  have X12 := Lib.hid (X11.out.below (al_bel w11 (.cells #[.int .i64 x0, .string x1, .string x2, .int .i64 x3] 23)))
  have R12 := Lib.hid (KB.new X11.out.bel x0 x1 x2 x3)
  rw [hW12] at X12 R12 ⊢
  clear hW12 p0 p1 p2 p3 q0 q1 q2 q3
  obtain ⟨p0, p1, p2, p3⟩ := X12.out.cells
  obtain ⟨q0, q1, q2, q3⟩ := R12.out.cells
  go_upto_region 16 with (go_at_call 11; refine (HEx.out _).mono ?_; rintro e w13 ⟨rfl, hb⟩; have X13 := Lib.hid (X12.out.below hb); clear hb)
  clear p0 p1 p2 p3 q0 q1 q2 q3
  go_upto_region 18 with (first | (go_at_call 14; refine (HCut.out _).mono ?_; rintro e w14 ⟨rfl, rfl⟩) | (go_at_call 13; refine (HFs.out _ X13.out.bel).mono ?_; rintro e w15 ⟨rfl, hb⟩; have X15 := Lib.hid (X13.out.below hb); clear hb))
  obtain ⟨W16, hW16⟩ : ∃ W16, w15.alloc (.cells #[.int .i64 r0, .string r1, .string r2, .int .i64 r3] 23) = W16 := ⟨_, rfl⟩
  have R16 := Lib.hid (KB.new X15.out.bel r0 r1 r2 r3)
  rw [hW16] at R16 ⊢
  clear hW16
  obtain ⟨p0, p1, p2, p3⟩ := R16.out.cells
  go_wp2
  go_ret
  exact ⟨rfl, R16.out.bel⟩
set_option maxHeartbeats 8000000 in
set_option maxRecDepth 100000 in
theorem qk_ny_k (w : World) (f0 : Int) (f1 f2 : ByteArray) (f3 g0 : Int) (g1 g2 : ByteArray) (g3 : Int) (s S : ByteArray) (a0 : Int) (a1 a2 : ByteArray) (a3 b0 : Int) (b1 b2 : ByteArray) (b3 x0 : Int) (x1 x2 : ByteArray) (x3 y0 : Int) (y1 y2 : ByteArray) (y3 c d : Int) (kA kB : ByteArray) (r0 : Int) (r1 r2 : ByteArray) (r3 : Int) (hc : c ≠ 0) (hd : d = 0)
    (HB : Hid (∀ W, Below w.heap.size w W → Calls Tryd.prog 6 #[] W fun e w' => e = .returned (.bool true) ∧ Below W.heap.size W w'))
    (HXa : Hid (∀ W, Calls Tryd.prog 7 #[.agg #[.int .i64 f0, .string f1, .string f2, .int .i64 f3]] W fun e w' => e = .returned (.agg #[.int .i64 a0, .string a1, .string a2, .int .i64 a3]) ∧ Below W.heap.size W w'))
    (HXb : Hid (∀ W, Calls Tryd.prog 7 #[.agg #[.int .i64 g0, .string g1, .string g2, .int .i64 g3]] W fun e w' => e = .returned (.agg #[.int .i64 b0, .string b1, .string b2, .int .i64 b3]) ∧ Below W.heap.size W w'))
    (HRa : Hid (∀ W, Calls Tryd.prog 9 #[.agg #[.int .i64 a0, .string a1, .string a2, .int .i64 a3]] W fun e w' => e = .returned (.tuple #[.agg #[.int .i64 x0, .string x1, .string x2, .int .i64 x3], .int .i64 c]) ∧ Below W.heap.size W w'))
    (HRb : Hid (∀ W, Calls Tryd.prog 9 #[.agg #[.int .i64 b0, .string b1, .string b2, .int .i64 b3]] W fun e w' => e = .returned (.tuple #[.agg #[.int .i64 y0, .string y1, .string y2, .int .i64 y3], .int .i64 d]) ∧ Below W.heap.size W w'))
    (HKa : Hid (∀ W, Below w.heap.size w W → Calls Tryd.prog 12 #[.agg #[.int .i64 a0, .string a1, .string a2, .int .i64 a3]] W fun e w' => e = .returned (.string kA) ∧ Below W.heap.size W w'))
    (HKb : Hid (∀ W, Below w.heap.size w W → Calls Tryd.prog 12 #[.agg #[.int .i64 b0, .string b1, .string b2, .int .i64 b3]] W fun e w' => e = .returned (.string kB) ∧ Below W.heap.size W w'))
    (HCut : Hid (∀ W, Calls Tryd.prog 14 #[.string s, .int .i64 300] W fun e w' => e = .returned (.string S) ∧ w' = W))
    (HFs : Hid (∀ W, Below w.heap.size w W → Calls Tryd.prog 13 #[.string S] W fun e w' => e = .returned (.tuple #[.agg #[.int .i64 r0, .string r1, .string r2, .int .i64 r3], .bool true]) ∧ Below W.heap.size W w'))
    (HKr : Hid (∀ W, Below w.heap.size w W → Calls Tryd.prog 12 #[.agg #[.int .i64 r0, .string r1, .string r2, .int .i64 r3]] W fun e w' => e = .returned (.string S) ∧ Below W.heap.size W w'))
    (hka : kA.toList.isEmpty = true) (hkb : kB.toList.isEmpty = false)
    (hSe : S.toList.isEmpty = false) :
    Calls Tryd.prog 4 #[.agg #[.int .i64 f0, .string f1, .string f2, .int .i64 f3], .agg #[.int .i64 g0, .string g1, .string g2, .int .i64 g3], .string s] w fun e w' => e = .returned (.bool true) ∧ Below w.heap.size w w' := by
  have hc1 : (c == 0) = false := by simpa using hc
  have hd1 : (d == 0) = true := by simpa using hd
  have hSS : (S.toList == S.toList) = true := by simp
  clear hc hd
  have HN : Hid (∀ W, (w.alloc (.cells #[.int .i64 f0, .string f1, .string f2, .int .i64 f3] 23)).alloc (.cells #[.int .i64 g0, .string g1, .string g2, .int .i64 g3] 23) = W → KB w w.heap.size f0 f1 f2 f3 W ∧ KB w (w.heap.size + 1) g0 g1 g2 g3 W) := Lib.hid (fun W h => two_kb w _ _ _ _ _ _ _ _ W h)
  go_enter Tryd.func4, Tryd.ntmps4
  go_upto_region 1 with (fail)
  obtain ⟨W, hW⟩ : ∃ W, (w.alloc (.cells #[.int .i64 f0, .string f1, .string f2, .int .i64 f3] 23)).alloc (.cells #[.int .i64 g0, .string g1, .string g2, .int .i64 g3] 23) = W := ⟨_, rfl⟩
  obtain ⟨hA, hB⟩ := HN.out W hW
  have A0 := Lib.hid hA
  have B0 := Lib.hid hB
  rw [hW]
  clear hW HN hA hB
  go_upto_region 4 with (go_at_call 6; refine (HB.out _ A0.out.bel).mono ?_; rintro e w1 ⟨rfl, hb⟩; have A1 := Lib.hid (A0.out.below hb).drew; have B1 := Lib.hid (B0.out.below hb).drew; clear hb)
  obtain ⟨p0, p1, p2, p3⟩ := A1.out.cells
  obtain ⟨q0, q1, q2, q3⟩ := B1.out.cells
  go_cut [] from 21 to 24 (fun wx => KB w w.heap.size a0 a1 a2 a3 wx ∧ KB w (w.heap.size + 1) b0 b1 b2 b3 wx)
  · go_region_law (first | (go_simp; go_at_call 7; with_reducible refine (HXa.out _).mono ?_; rintro e w2 ⟨rfl, hb⟩; have A2 := Lib.hid (A1.out.below hb); have B2 := Lib.hid (B1.out.below hb); obtain ⟨s0, s1, s2, s3⟩ := B2.out.cells; clear hb) | (go_simp; go_at_call 7; with_reducible refine (HXb.out _).mono ?_; rintro e w3 ⟨rfl, hb⟩; have A3 := Lib.hid (A2.out.below hb); have B3 := Lib.hid (B2.out.below hb); obtain ⟨t0, t1, t2, t3⟩ := A3.out.cells; obtain ⟨u0, u1, u2, u3⟩ := A3.out.frees; obtain ⟨i0, i1, i2, i3⟩ := B3.out.cells; obtain ⟨j0, j1, j2, j3⟩ := B3.out.frees; clear hb))
    all_goals
      go_wp2
      go_meet
      exact ⟨(A3.out.put _ _ _ _).other (by omega) (Nat.le_succ _) _ _ _ _, (B3.out.other (by omega) (Nat.le_refl _) _ _ _ _).put _ _ _ _⟩
  obtain ⟨hA, hB⟩ := hcut
  have A3 := Lib.hid hA
  have B3 := Lib.hid hB
  clear hA hB p0 p1 p2 p3 q0 q1 q2 q3 A0 B0 A1 B1
  obtain ⟨p0, p1, p2, p3⟩ := A3.out.cells
  go_upto_region 6 with (go_at_call 9; refine (HRa.out _).mono ?_; rintro e w4 ⟨rfl, hb⟩; have A4 := Lib.hid (A3.out.below hb); have B4 := Lib.hid (B3.out.below hb); clear hb)
  obtain ⟨W5, hW5⟩ : ∃ W5, w4.alloc (.cells #[.int .i64 x0, .string x1, .string x2, .int .i64 x3] 23) = W5 := ⟨_, rfl⟩
  have A5 := Lib.hid (A4.out.below (al_bel w4 (.cells #[.int .i64 x0, .string x1, .string x2, .int .i64 x3] 23)))
  have B5 := Lib.hid (B4.out.below (al_bel w4 (.cells #[.int .i64 x0, .string x1, .string x2, .int .i64 x3] 23)))
  have X5 := Lib.hid (KB.new A4.out.bel x0 x1 x2 x3)
  rw [hW5] at A5 B5 X5 ⊢
  clear hW5 p0 p1 p2 p3
  obtain ⟨p0, p1, p2, p3⟩ := B5.out.cells
  go_upto_region 7 with (go_at_call 9; refine (HRb.out _).mono ?_; rintro e w6 ⟨rfl, hb⟩; have A6 := Lib.hid (A5.out.below hb); have B6 := Lib.hid (B5.out.below hb); have X6 := Lib.hid (X5.out.below hb); clear hb)
  obtain ⟨W7, hW7⟩ : ∃ W7, w6.alloc (.cells #[.int .i64 y0, .string y1, .string y2, .int .i64 y3] 23) = W7 := ⟨_, rfl⟩
  have A7 := Lib.hid (A6.out.below (al_bel w6 (.cells #[.int .i64 y0, .string y1, .string y2, .int .i64 y3] 23))).drew
  have B7 := Lib.hid (B6.out.below (al_bel w6 (.cells #[.int .i64 y0, .string y1, .string y2, .int .i64 y3] 23))).drew
  have X7 := Lib.hid (X6.out.below (al_bel w6 (.cells #[.int .i64 y0, .string y1, .string y2, .int .i64 y3] 23))).drew
  have Y7 := Lib.hid (KB.new X6.out.bel y0 y1 y2 y3).drew
  rw [hW7] at A7 B7 X7 Y7 ⊢
  clear hW7 p0 p1 p2 p3
  obtain ⟨p0, p1, p2, p3⟩ := A7.out.cells
  obtain ⟨q0, q1, q2, q3⟩ := B7.out.cells
  go_cut [12, 13] from 35 to 38 (fun kv lv wx => kv = .string kA ∧ lv = .string kB ∧ KB w w4.heap.size x0 x1 x2 x3 wx ∧ KB w w6.heap.size y0 y1 y2 y3 wx)
  · go_region_law (first | (go_simp; go_at_call 12; with_reducible refine (HKa.out _ A7.out.bel).mono ?_; rintro e w8 ⟨rfl, hb⟩; have B8 := Lib.hid (B7.out.below hb); have X8 := Lib.hid (X7.out.below hb); have Y8 := Lib.hid (Y7.out.below hb); obtain ⟨s0, s1, s2, s3⟩ := B8.out.cells; clear hb) | (go_simp; go_at_call 12; with_reducible refine (HKb.out _ B8.out.bel).mono ?_; rintro e w9 ⟨rfl, hb⟩; have X9 := Lib.hid (X8.out.below hb); have Y9 := Lib.hid (Y8.out.below hb); clear hb))
    all_goals
      go_wp2
      go_meet
      exact ⟨rfl, rfl, X9.out, Y9.out⟩
  obtain ⟨rfl, rfl, hX, hY⟩ := hcut
  have X9 := Lib.hid hX
  have Y9 := Lib.hid hY
  clear hX hY p0 p1 p2 p3 q0 q1 q2 q3 A7 B7 X7 Y7 A3 B3 A4 B4 A5 B5 X5 A6 B6 X6
  obtain ⟨p0, p1, p2, p3⟩ := X9.out.cells
  obtain ⟨q0, q1, q2, q3⟩ := Y9.out.cells
  go_upto_region 16 with (fail)
  clear p0 p1 p2 p3 q0 q1 q2 q3
  go_upto_region 18 with (first | (go_at_call 14; refine (HCut.out _).mono ?_; rintro e w14 ⟨rfl, rfl⟩) | (go_at_call 13; refine (HFs.out _ X9.out.bel).mono ?_; rintro e w15 ⟨rfl, hb⟩; have X15 := Lib.hid (X9.out.below hb); clear hb))
  obtain ⟨W16, hW16⟩ : ∃ W16, w15.alloc (.cells #[.int .i64 r0, .string r1, .string r2, .int .i64 r3] 23) = W16 := ⟨_, rfl⟩
  have R16 := Lib.hid (KB.new X15.out.bel r0 r1 r2 r3)
  rw [hW16] at R16 ⊢
  clear hW16
  obtain ⟨p0, p1, p2, p3⟩ := R16.out.cells
  go_wp2_with (go_at_call 12; refine (HKr.out _ R16.out.bel).mono ?_; rintro e w17 ⟨rfl, hb⟩; have R17 := Lib.hid (R16.out.below hb); clear hb)
  go_ret
  exact ⟨rfl, R17.out.bel⟩
set_option maxHeartbeats 8000000 in
set_option maxRecDepth 100000 in
theorem qk_ny_z (w : World) (f0 : Int) (f1 f2 : ByteArray) (f3 g0 : Int) (g1 g2 : ByteArray) (g3 : Int) (s S : ByteArray) (a0 : Int) (a1 a2 : ByteArray) (a3 b0 : Int) (b1 b2 : ByteArray) (b3 x0 : Int) (x1 x2 : ByteArray) (x3 y0 : Int) (y1 y2 : ByteArray) (y3 c d : Int) (kA kB : ByteArray) (r0 : Int) (r1 r2 : ByteArray) (r3 : Int) (hc : c ≠ 0) (hd : d = 0)
    (HB : Hid (∀ W, Below w.heap.size w W → Calls Tryd.prog 6 #[] W fun e w' => e = .returned (.bool true) ∧ Below W.heap.size W w'))
    (HXa : Hid (∀ W, Calls Tryd.prog 7 #[.agg #[.int .i64 f0, .string f1, .string f2, .int .i64 f3]] W fun e w' => e = .returned (.agg #[.int .i64 a0, .string a1, .string a2, .int .i64 a3]) ∧ Below W.heap.size W w'))
    (HXb : Hid (∀ W, Calls Tryd.prog 7 #[.agg #[.int .i64 g0, .string g1, .string g2, .int .i64 g3]] W fun e w' => e = .returned (.agg #[.int .i64 b0, .string b1, .string b2, .int .i64 b3]) ∧ Below W.heap.size W w'))
    (HRa : Hid (∀ W, Calls Tryd.prog 9 #[.agg #[.int .i64 a0, .string a1, .string a2, .int .i64 a3]] W fun e w' => e = .returned (.tuple #[.agg #[.int .i64 x0, .string x1, .string x2, .int .i64 x3], .int .i64 c]) ∧ Below W.heap.size W w'))
    (HRb : Hid (∀ W, Calls Tryd.prog 9 #[.agg #[.int .i64 b0, .string b1, .string b2, .int .i64 b3]] W fun e w' => e = .returned (.tuple #[.agg #[.int .i64 y0, .string y1, .string y2, .int .i64 y3], .int .i64 d]) ∧ Below W.heap.size W w'))
    (HKa : Hid (∀ W, Below w.heap.size w W → Calls Tryd.prog 12 #[.agg #[.int .i64 a0, .string a1, .string a2, .int .i64 a3]] W fun e w' => e = .returned (.string kA) ∧ Below W.heap.size W w'))
    (HKb : Hid (∀ W, Below w.heap.size w W → Calls Tryd.prog 12 #[.agg #[.int .i64 b0, .string b1, .string b2, .int .i64 b3]] W fun e w' => e = .returned (.string kB) ∧ Below W.heap.size W w'))
    (HCut : Hid (∀ W, Calls Tryd.prog 14 #[.string s, .int .i64 300] W fun e w' => e = .returned (.string S) ∧ w' = W))
    (HFs : Hid (∀ W, Below w.heap.size w W → Calls Tryd.prog 13 #[.string S] W fun e w' => e = .returned (.tuple #[.agg #[.int .i64 r0, .string r1, .string r2, .int .i64 r3], .bool false]) ∧ Below W.heap.size W w'))
    (hka : kA.toList.isEmpty = true) (hkb : kB.toList.isEmpty = false) :
    Calls Tryd.prog 4 #[.agg #[.int .i64 f0, .string f1, .string f2, .int .i64 f3], .agg #[.int .i64 g0, .string g1, .string g2, .int .i64 g3], .string s] w fun e w' => e = .returned (.bool true) ∧ Below w.heap.size w w' := by
  have hc1 : (c == 0) = false := by simpa using hc
  have hd1 : (d == 0) = true := by simpa using hd
  have hSS : (S.toList == S.toList) = true := by simp
  clear hc hd
  have HN : Hid (∀ W, (w.alloc (.cells #[.int .i64 f0, .string f1, .string f2, .int .i64 f3] 23)).alloc (.cells #[.int .i64 g0, .string g1, .string g2, .int .i64 g3] 23) = W → KB w w.heap.size f0 f1 f2 f3 W ∧ KB w (w.heap.size + 1) g0 g1 g2 g3 W) := Lib.hid (fun W h => two_kb w _ _ _ _ _ _ _ _ W h)
  go_enter Tryd.func4, Tryd.ntmps4
  go_upto_region 1 with (fail)
  obtain ⟨W, hW⟩ : ∃ W, (w.alloc (.cells #[.int .i64 f0, .string f1, .string f2, .int .i64 f3] 23)).alloc (.cells #[.int .i64 g0, .string g1, .string g2, .int .i64 g3] 23) = W := ⟨_, rfl⟩
  obtain ⟨hA, hB⟩ := HN.out W hW
  have A0 := Lib.hid hA
  have B0 := Lib.hid hB
  rw [hW]
  clear hW HN hA hB
  go_upto_region 4 with (go_at_call 6; refine (HB.out _ A0.out.bel).mono ?_; rintro e w1 ⟨rfl, hb⟩; have A1 := Lib.hid (A0.out.below hb).drew; have B1 := Lib.hid (B0.out.below hb).drew; clear hb)
  obtain ⟨p0, p1, p2, p3⟩ := A1.out.cells
  obtain ⟨q0, q1, q2, q3⟩ := B1.out.cells
  go_cut [] from 21 to 24 (fun wx => KB w w.heap.size a0 a1 a2 a3 wx ∧ KB w (w.heap.size + 1) b0 b1 b2 b3 wx)
  · go_region_law (first | (go_simp; go_at_call 7; with_reducible refine (HXa.out _).mono ?_; rintro e w2 ⟨rfl, hb⟩; have A2 := Lib.hid (A1.out.below hb); have B2 := Lib.hid (B1.out.below hb); obtain ⟨s0, s1, s2, s3⟩ := B2.out.cells; clear hb) | (go_simp; go_at_call 7; with_reducible refine (HXb.out _).mono ?_; rintro e w3 ⟨rfl, hb⟩; have A3 := Lib.hid (A2.out.below hb); have B3 := Lib.hid (B2.out.below hb); obtain ⟨t0, t1, t2, t3⟩ := A3.out.cells; obtain ⟨u0, u1, u2, u3⟩ := A3.out.frees; obtain ⟨i0, i1, i2, i3⟩ := B3.out.cells; obtain ⟨j0, j1, j2, j3⟩ := B3.out.frees; clear hb))
    all_goals
      go_wp2
      go_meet
      exact ⟨(A3.out.put _ _ _ _).other (by omega) (Nat.le_succ _) _ _ _ _, (B3.out.other (by omega) (Nat.le_refl _) _ _ _ _).put _ _ _ _⟩
  obtain ⟨hA, hB⟩ := hcut
  have A3 := Lib.hid hA
  have B3 := Lib.hid hB
  clear hA hB p0 p1 p2 p3 q0 q1 q2 q3 A0 B0 A1 B1
  obtain ⟨p0, p1, p2, p3⟩ := A3.out.cells
  go_upto_region 6 with (go_at_call 9; refine (HRa.out _).mono ?_; rintro e w4 ⟨rfl, hb⟩; have A4 := Lib.hid (A3.out.below hb); have B4 := Lib.hid (B3.out.below hb); clear hb)
  obtain ⟨W5, hW5⟩ : ∃ W5, w4.alloc (.cells #[.int .i64 x0, .string x1, .string x2, .int .i64 x3] 23) = W5 := ⟨_, rfl⟩
  have A5 := Lib.hid (A4.out.below (al_bel w4 (.cells #[.int .i64 x0, .string x1, .string x2, .int .i64 x3] 23)))
  have B5 := Lib.hid (B4.out.below (al_bel w4 (.cells #[.int .i64 x0, .string x1, .string x2, .int .i64 x3] 23)))
  have X5 := Lib.hid (KB.new A4.out.bel x0 x1 x2 x3)
  rw [hW5] at A5 B5 X5 ⊢
  clear hW5 p0 p1 p2 p3
  obtain ⟨p0, p1, p2, p3⟩ := B5.out.cells
  go_upto_region 7 with (go_at_call 9; refine (HRb.out _).mono ?_; rintro e w6 ⟨rfl, hb⟩; have A6 := Lib.hid (A5.out.below hb); have B6 := Lib.hid (B5.out.below hb); have X6 := Lib.hid (X5.out.below hb); clear hb)
  obtain ⟨W7, hW7⟩ : ∃ W7, w6.alloc (.cells #[.int .i64 y0, .string y1, .string y2, .int .i64 y3] 23) = W7 := ⟨_, rfl⟩
  have A7 := Lib.hid (A6.out.below (al_bel w6 (.cells #[.int .i64 y0, .string y1, .string y2, .int .i64 y3] 23))).drew
  have B7 := Lib.hid (B6.out.below (al_bel w6 (.cells #[.int .i64 y0, .string y1, .string y2, .int .i64 y3] 23))).drew
  have X7 := Lib.hid (X6.out.below (al_bel w6 (.cells #[.int .i64 y0, .string y1, .string y2, .int .i64 y3] 23))).drew
  have Y7 := Lib.hid (KB.new X6.out.bel y0 y1 y2 y3).drew
  rw [hW7] at A7 B7 X7 Y7 ⊢
  clear hW7 p0 p1 p2 p3
  obtain ⟨p0, p1, p2, p3⟩ := A7.out.cells
  obtain ⟨q0, q1, q2, q3⟩ := B7.out.cells
  go_cut [12, 13] from 35 to 38 (fun kv lv wx => kv = .string kA ∧ lv = .string kB ∧ KB w w4.heap.size x0 x1 x2 x3 wx ∧ KB w w6.heap.size y0 y1 y2 y3 wx)
  · go_region_law (first | (go_simp; go_at_call 12; with_reducible refine (HKa.out _ A7.out.bel).mono ?_; rintro e w8 ⟨rfl, hb⟩; have B8 := Lib.hid (B7.out.below hb); have X8 := Lib.hid (X7.out.below hb); have Y8 := Lib.hid (Y7.out.below hb); obtain ⟨s0, s1, s2, s3⟩ := B8.out.cells; clear hb) | (go_simp; go_at_call 12; with_reducible refine (HKb.out _ B8.out.bel).mono ?_; rintro e w9 ⟨rfl, hb⟩; have X9 := Lib.hid (X8.out.below hb); have Y9 := Lib.hid (Y8.out.below hb); clear hb))
    all_goals
      go_wp2
      go_meet
      exact ⟨rfl, rfl, X9.out, Y9.out⟩
  obtain ⟨rfl, rfl, hX, hY⟩ := hcut
  have X9 := Lib.hid hX
  have Y9 := Lib.hid hY
  clear hX hY p0 p1 p2 p3 q0 q1 q2 q3 A7 B7 X7 Y7 A3 B3 A4 B4 A5 B5 X5 A6 B6 X6
  obtain ⟨p0, p1, p2, p3⟩ := X9.out.cells
  obtain ⟨q0, q1, q2, q3⟩ := Y9.out.cells
  go_upto_region 16 with (fail)
  clear p0 p1 p2 p3 q0 q1 q2 q3
  go_upto_region 18 with (first | (go_at_call 14; refine (HCut.out _).mono ?_; rintro e w14 ⟨rfl, rfl⟩) | (go_at_call 13; refine (HFs.out _ X9.out.bel).mono ?_; rintro e w15 ⟨rfl, hb⟩; have X15 := Lib.hid (X9.out.below hb); clear hb))
  obtain ⟨W16, hW16⟩ : ∃ W16, w15.alloc (.cells #[.int .i64 r0, .string r1, .string r2, .int .i64 r3] 23) = W16 := ⟨_, rfl⟩
  have R16 := Lib.hid (KB.new X15.out.bel r0 r1 r2 r3)
  rw [hW16] at R16 ⊢
  clear hW16
  obtain ⟨p0, p1, p2, p3⟩ := R16.out.cells
  go_wp2
  go_ret
  exact ⟨rfl, R16.out.bel⟩
set_option maxHeartbeats 8000000 in
set_option maxRecDepth 100000 in
theorem qk_nn_k (w : World) (f0 : Int) (f1 f2 : ByteArray) (f3 g0 : Int) (g1 g2 : ByteArray) (g3 : Int) (s S : ByteArray) (a0 : Int) (a1 a2 : ByteArray) (a3 b0 : Int) (b1 b2 : ByteArray) (b3 x0 : Int) (x1 x2 : ByteArray) (x3 y0 : Int) (y1 y2 : ByteArray) (y3 c d : Int) (kA kB : ByteArray) (r0 : Int) (r1 r2 : ByteArray) (r3 : Int) (hc : c ≠ 0) (hd : d ≠ 0)
    (HB : Hid (∀ W, Below w.heap.size w W → Calls Tryd.prog 6 #[] W fun e w' => e = .returned (.bool true) ∧ Below W.heap.size W w'))
    (HXa : Hid (∀ W, Calls Tryd.prog 7 #[.agg #[.int .i64 f0, .string f1, .string f2, .int .i64 f3]] W fun e w' => e = .returned (.agg #[.int .i64 a0, .string a1, .string a2, .int .i64 a3]) ∧ Below W.heap.size W w'))
    (HXb : Hid (∀ W, Calls Tryd.prog 7 #[.agg #[.int .i64 g0, .string g1, .string g2, .int .i64 g3]] W fun e w' => e = .returned (.agg #[.int .i64 b0, .string b1, .string b2, .int .i64 b3]) ∧ Below W.heap.size W w'))
    (HRa : Hid (∀ W, Calls Tryd.prog 9 #[.agg #[.int .i64 a0, .string a1, .string a2, .int .i64 a3]] W fun e w' => e = .returned (.tuple #[.agg #[.int .i64 x0, .string x1, .string x2, .int .i64 x3], .int .i64 c]) ∧ Below W.heap.size W w'))
    (HRb : Hid (∀ W, Calls Tryd.prog 9 #[.agg #[.int .i64 b0, .string b1, .string b2, .int .i64 b3]] W fun e w' => e = .returned (.tuple #[.agg #[.int .i64 y0, .string y1, .string y2, .int .i64 y3], .int .i64 d]) ∧ Below W.heap.size W w'))
    (HKa : Hid (∀ W, Below w.heap.size w W → Calls Tryd.prog 12 #[.agg #[.int .i64 a0, .string a1, .string a2, .int .i64 a3]] W fun e w' => e = .returned (.string kA) ∧ Below W.heap.size W w'))
    (HKb : Hid (∀ W, Below w.heap.size w W → Calls Tryd.prog 12 #[.agg #[.int .i64 b0, .string b1, .string b2, .int .i64 b3]] W fun e w' => e = .returned (.string kB) ∧ Below W.heap.size W w'))
    (HCut : Hid (∀ W, Calls Tryd.prog 14 #[.string s, .int .i64 300] W fun e w' => e = .returned (.string S) ∧ w' = W))
    (HFs : Hid (∀ W, Below w.heap.size w W → Calls Tryd.prog 13 #[.string S] W fun e w' => e = .returned (.tuple #[.agg #[.int .i64 r0, .string r1, .string r2, .int .i64 r3], .bool true]) ∧ Below W.heap.size W w'))
    (HKr : Hid (∀ W, Below w.heap.size w W → Calls Tryd.prog 12 #[.agg #[.int .i64 r0, .string r1, .string r2, .int .i64 r3]] W fun e w' => e = .returned (.string S) ∧ Below W.heap.size W w'))
    (hka : kA.toList.isEmpty = true) (hkb : kB.toList.isEmpty = true)
    (hSe : S.toList.isEmpty = false) :
    Calls Tryd.prog 4 #[.agg #[.int .i64 f0, .string f1, .string f2, .int .i64 f3], .agg #[.int .i64 g0, .string g1, .string g2, .int .i64 g3], .string s] w fun e w' => e = .returned (.bool true) ∧ Below w.heap.size w w' := by
  have hc1 : (c == 0) = false := by simpa using hc
  have hd1 : (d == 0) = false := by simpa using hd
  have hSS : (S.toList == S.toList) = true := by simp
  clear hc hd
  have HN : Hid (∀ W, (w.alloc (.cells #[.int .i64 f0, .string f1, .string f2, .int .i64 f3] 23)).alloc (.cells #[.int .i64 g0, .string g1, .string g2, .int .i64 g3] 23) = W → KB w w.heap.size f0 f1 f2 f3 W ∧ KB w (w.heap.size + 1) g0 g1 g2 g3 W) := Lib.hid (fun W h => two_kb w _ _ _ _ _ _ _ _ W h)
  go_enter Tryd.func4, Tryd.ntmps4
  go_upto_region 1 with (fail)
  obtain ⟨W, hW⟩ : ∃ W, (w.alloc (.cells #[.int .i64 f0, .string f1, .string f2, .int .i64 f3] 23)).alloc (.cells #[.int .i64 g0, .string g1, .string g2, .int .i64 g3] 23) = W := ⟨_, rfl⟩
  obtain ⟨hA, hB⟩ := HN.out W hW
  have A0 := Lib.hid hA
  have B0 := Lib.hid hB
  rw [hW]
  clear hW HN hA hB
  go_upto_region 4 with (go_at_call 6; refine (HB.out _ A0.out.bel).mono ?_; rintro e w1 ⟨rfl, hb⟩; have A1 := Lib.hid (A0.out.below hb).drew; have B1 := Lib.hid (B0.out.below hb).drew; clear hb)
  obtain ⟨p0, p1, p2, p3⟩ := A1.out.cells
  obtain ⟨q0, q1, q2, q3⟩ := B1.out.cells
  go_cut [] from 21 to 24 (fun wx => KB w w.heap.size a0 a1 a2 a3 wx ∧ KB w (w.heap.size + 1) b0 b1 b2 b3 wx)
  · go_region_law (first | (go_simp; go_at_call 7; with_reducible refine (HXa.out _).mono ?_; rintro e w2 ⟨rfl, hb⟩; have A2 := Lib.hid (A1.out.below hb); have B2 := Lib.hid (B1.out.below hb); obtain ⟨s0, s1, s2, s3⟩ := B2.out.cells; clear hb) | (go_simp; go_at_call 7; with_reducible refine (HXb.out _).mono ?_; rintro e w3 ⟨rfl, hb⟩; have A3 := Lib.hid (A2.out.below hb); have B3 := Lib.hid (B2.out.below hb); obtain ⟨t0, t1, t2, t3⟩ := A3.out.cells; obtain ⟨u0, u1, u2, u3⟩ := A3.out.frees; obtain ⟨i0, i1, i2, i3⟩ := B3.out.cells; obtain ⟨j0, j1, j2, j3⟩ := B3.out.frees; clear hb))
    all_goals
      go_wp2
      go_meet
      exact ⟨(A3.out.put _ _ _ _).other (by omega) (Nat.le_succ _) _ _ _ _, (B3.out.other (by omega) (Nat.le_refl _) _ _ _ _).put _ _ _ _⟩
  obtain ⟨hA, hB⟩ := hcut
  have A3 := Lib.hid hA
  have B3 := Lib.hid hB
  clear hA hB p0 p1 p2 p3 q0 q1 q2 q3 A0 B0 A1 B1
  obtain ⟨p0, p1, p2, p3⟩ := A3.out.cells
  go_upto_region 6 with (go_at_call 9; refine (HRa.out _).mono ?_; rintro e w4 ⟨rfl, hb⟩; have A4 := Lib.hid (A3.out.below hb); have B4 := Lib.hid (B3.out.below hb); clear hb)
  obtain ⟨W5, hW5⟩ : ∃ W5, w4.alloc (.cells #[.int .i64 x0, .string x1, .string x2, .int .i64 x3] 23) = W5 := ⟨_, rfl⟩
  have A5 := Lib.hid (A4.out.below (al_bel w4 (.cells #[.int .i64 x0, .string x1, .string x2, .int .i64 x3] 23)))
  have B5 := Lib.hid (B4.out.below (al_bel w4 (.cells #[.int .i64 x0, .string x1, .string x2, .int .i64 x3] 23)))
  have X5 := Lib.hid (KB.new A4.out.bel x0 x1 x2 x3)
  rw [hW5] at A5 B5 X5 ⊢
  clear hW5 p0 p1 p2 p3
  obtain ⟨p0, p1, p2, p3⟩ := B5.out.cells
  go_upto_region 7 with (go_at_call 9; refine (HRb.out _).mono ?_; rintro e w6 ⟨rfl, hb⟩; have A6 := Lib.hid (A5.out.below hb); have B6 := Lib.hid (B5.out.below hb); have X6 := Lib.hid (X5.out.below hb); clear hb)
  obtain ⟨W7, hW7⟩ : ∃ W7, w6.alloc (.cells #[.int .i64 y0, .string y1, .string y2, .int .i64 y3] 23) = W7 := ⟨_, rfl⟩
  have A7 := Lib.hid (A6.out.below (al_bel w6 (.cells #[.int .i64 y0, .string y1, .string y2, .int .i64 y3] 23))).drew
  have B7 := Lib.hid (B6.out.below (al_bel w6 (.cells #[.int .i64 y0, .string y1, .string y2, .int .i64 y3] 23))).drew
  have X7 := Lib.hid (X6.out.below (al_bel w6 (.cells #[.int .i64 y0, .string y1, .string y2, .int .i64 y3] 23))).drew
  have Y7 := Lib.hid (KB.new X6.out.bel y0 y1 y2 y3).drew
  rw [hW7] at A7 B7 X7 Y7 ⊢
  clear hW7 p0 p1 p2 p3
  obtain ⟨p0, p1, p2, p3⟩ := A7.out.cells
  obtain ⟨q0, q1, q2, q3⟩ := B7.out.cells
  go_cut [12, 13] from 35 to 38 (fun kv lv wx => kv = .string kA ∧ lv = .string kB ∧ KB w w4.heap.size x0 x1 x2 x3 wx ∧ KB w w6.heap.size y0 y1 y2 y3 wx)
  · go_region_law (first | (go_simp; go_at_call 12; with_reducible refine (HKa.out _ A7.out.bel).mono ?_; rintro e w8 ⟨rfl, hb⟩; have B8 := Lib.hid (B7.out.below hb); have X8 := Lib.hid (X7.out.below hb); have Y8 := Lib.hid (Y7.out.below hb); obtain ⟨s0, s1, s2, s3⟩ := B8.out.cells; clear hb) | (go_simp; go_at_call 12; with_reducible refine (HKb.out _ B8.out.bel).mono ?_; rintro e w9 ⟨rfl, hb⟩; have X9 := Lib.hid (X8.out.below hb); have Y9 := Lib.hid (Y8.out.below hb); clear hb))
    all_goals
      go_wp2
      go_meet
      exact ⟨rfl, rfl, X9.out, Y9.out⟩
  obtain ⟨rfl, rfl, hX, hY⟩ := hcut
  have X9 := Lib.hid hX
  have Y9 := Lib.hid hY
  clear hX hY p0 p1 p2 p3 q0 q1 q2 q3 A7 B7 X7 Y7 A3 B3 A4 B4 A5 B5 X5 A6 B6 X6
  obtain ⟨p0, p1, p2, p3⟩ := X9.out.cells
  obtain ⟨q0, q1, q2, q3⟩ := Y9.out.cells
  go_upto_region 16 with (fail)
  clear p0 p1 p2 p3 q0 q1 q2 q3
  go_upto_region 18 with (first | (go_at_call 14; refine (HCut.out _).mono ?_; rintro e w14 ⟨rfl, rfl⟩) | (go_at_call 13; refine (HFs.out _ X9.out.bel).mono ?_; rintro e w15 ⟨rfl, hb⟩; have X15 := Lib.hid (X9.out.below hb); clear hb))
  obtain ⟨W16, hW16⟩ : ∃ W16, w15.alloc (.cells #[.int .i64 r0, .string r1, .string r2, .int .i64 r3] 23) = W16 := ⟨_, rfl⟩
  have R16 := Lib.hid (KB.new X15.out.bel r0 r1 r2 r3)
  rw [hW16] at R16 ⊢
  clear hW16
  obtain ⟨p0, p1, p2, p3⟩ := R16.out.cells
  go_wp2_with (go_at_call 12; refine (HKr.out _ R16.out.bel).mono ?_; rintro e w17 ⟨rfl, hb⟩; have R17 := Lib.hid (R16.out.below hb); clear hb)
  go_ret
  exact ⟨rfl, R17.out.bel⟩
set_option maxHeartbeats 8000000 in
set_option maxRecDepth 100000 in
theorem qk_nn_z (w : World) (f0 : Int) (f1 f2 : ByteArray) (f3 g0 : Int) (g1 g2 : ByteArray) (g3 : Int) (s S : ByteArray) (a0 : Int) (a1 a2 : ByteArray) (a3 b0 : Int) (b1 b2 : ByteArray) (b3 x0 : Int) (x1 x2 : ByteArray) (x3 y0 : Int) (y1 y2 : ByteArray) (y3 c d : Int) (kA kB : ByteArray) (r0 : Int) (r1 r2 : ByteArray) (r3 : Int) (hc : c ≠ 0) (hd : d ≠ 0)
    (HB : Hid (∀ W, Below w.heap.size w W → Calls Tryd.prog 6 #[] W fun e w' => e = .returned (.bool true) ∧ Below W.heap.size W w'))
    (HXa : Hid (∀ W, Calls Tryd.prog 7 #[.agg #[.int .i64 f0, .string f1, .string f2, .int .i64 f3]] W fun e w' => e = .returned (.agg #[.int .i64 a0, .string a1, .string a2, .int .i64 a3]) ∧ Below W.heap.size W w'))
    (HXb : Hid (∀ W, Calls Tryd.prog 7 #[.agg #[.int .i64 g0, .string g1, .string g2, .int .i64 g3]] W fun e w' => e = .returned (.agg #[.int .i64 b0, .string b1, .string b2, .int .i64 b3]) ∧ Below W.heap.size W w'))
    (HRa : Hid (∀ W, Calls Tryd.prog 9 #[.agg #[.int .i64 a0, .string a1, .string a2, .int .i64 a3]] W fun e w' => e = .returned (.tuple #[.agg #[.int .i64 x0, .string x1, .string x2, .int .i64 x3], .int .i64 c]) ∧ Below W.heap.size W w'))
    (HRb : Hid (∀ W, Calls Tryd.prog 9 #[.agg #[.int .i64 b0, .string b1, .string b2, .int .i64 b3]] W fun e w' => e = .returned (.tuple #[.agg #[.int .i64 y0, .string y1, .string y2, .int .i64 y3], .int .i64 d]) ∧ Below W.heap.size W w'))
    (HKa : Hid (∀ W, Below w.heap.size w W → Calls Tryd.prog 12 #[.agg #[.int .i64 a0, .string a1, .string a2, .int .i64 a3]] W fun e w' => e = .returned (.string kA) ∧ Below W.heap.size W w'))
    (HKb : Hid (∀ W, Below w.heap.size w W → Calls Tryd.prog 12 #[.agg #[.int .i64 b0, .string b1, .string b2, .int .i64 b3]] W fun e w' => e = .returned (.string kB) ∧ Below W.heap.size W w'))
    (HCut : Hid (∀ W, Calls Tryd.prog 14 #[.string s, .int .i64 300] W fun e w' => e = .returned (.string S) ∧ w' = W))
    (HFs : Hid (∀ W, Below w.heap.size w W → Calls Tryd.prog 13 #[.string S] W fun e w' => e = .returned (.tuple #[.agg #[.int .i64 r0, .string r1, .string r2, .int .i64 r3], .bool false]) ∧ Below W.heap.size W w'))
    (hka : kA.toList.isEmpty = true) (hkb : kB.toList.isEmpty = true) :
    Calls Tryd.prog 4 #[.agg #[.int .i64 f0, .string f1, .string f2, .int .i64 f3], .agg #[.int .i64 g0, .string g1, .string g2, .int .i64 g3], .string s] w fun e w' => e = .returned (.bool true) ∧ Below w.heap.size w w' := by
  have hc1 : (c == 0) = false := by simpa using hc
  have hd1 : (d == 0) = false := by simpa using hd
  have hSS : (S.toList == S.toList) = true := by simp
  clear hc hd
  have HN : Hid (∀ W, (w.alloc (.cells #[.int .i64 f0, .string f1, .string f2, .int .i64 f3] 23)).alloc (.cells #[.int .i64 g0, .string g1, .string g2, .int .i64 g3] 23) = W → KB w w.heap.size f0 f1 f2 f3 W ∧ KB w (w.heap.size + 1) g0 g1 g2 g3 W) := Lib.hid (fun W h => two_kb w _ _ _ _ _ _ _ _ W h)
  go_enter Tryd.func4, Tryd.ntmps4
  go_upto_region 1 with (fail)
  obtain ⟨W, hW⟩ : ∃ W, (w.alloc (.cells #[.int .i64 f0, .string f1, .string f2, .int .i64 f3] 23)).alloc (.cells #[.int .i64 g0, .string g1, .string g2, .int .i64 g3] 23) = W := ⟨_, rfl⟩
  obtain ⟨hA, hB⟩ := HN.out W hW
  have A0 := Lib.hid hA
  have B0 := Lib.hid hB
  rw [hW]
  clear hW HN hA hB
  go_upto_region 4 with (go_at_call 6; refine (HB.out _ A0.out.bel).mono ?_; rintro e w1 ⟨rfl, hb⟩; have A1 := Lib.hid (A0.out.below hb).drew; have B1 := Lib.hid (B0.out.below hb).drew; clear hb)
  obtain ⟨p0, p1, p2, p3⟩ := A1.out.cells
  obtain ⟨q0, q1, q2, q3⟩ := B1.out.cells
  go_cut [] from 21 to 24 (fun wx => KB w w.heap.size a0 a1 a2 a3 wx ∧ KB w (w.heap.size + 1) b0 b1 b2 b3 wx)
  · go_region_law (first | (go_simp; go_at_call 7; with_reducible refine (HXa.out _).mono ?_; rintro e w2 ⟨rfl, hb⟩; have A2 := Lib.hid (A1.out.below hb); have B2 := Lib.hid (B1.out.below hb); obtain ⟨s0, s1, s2, s3⟩ := B2.out.cells; clear hb) | (go_simp; go_at_call 7; with_reducible refine (HXb.out _).mono ?_; rintro e w3 ⟨rfl, hb⟩; have A3 := Lib.hid (A2.out.below hb); have B3 := Lib.hid (B2.out.below hb); obtain ⟨t0, t1, t2, t3⟩ := A3.out.cells; obtain ⟨u0, u1, u2, u3⟩ := A3.out.frees; obtain ⟨i0, i1, i2, i3⟩ := B3.out.cells; obtain ⟨j0, j1, j2, j3⟩ := B3.out.frees; clear hb))
    all_goals
      go_wp2
      go_meet
      exact ⟨(A3.out.put _ _ _ _).other (by omega) (Nat.le_succ _) _ _ _ _, (B3.out.other (by omega) (Nat.le_refl _) _ _ _ _).put _ _ _ _⟩
  obtain ⟨hA, hB⟩ := hcut
  have A3 := Lib.hid hA
  have B3 := Lib.hid hB
  clear hA hB p0 p1 p2 p3 q0 q1 q2 q3 A0 B0 A1 B1
  obtain ⟨p0, p1, p2, p3⟩ := A3.out.cells
  go_upto_region 6 with (go_at_call 9; refine (HRa.out _).mono ?_; rintro e w4 ⟨rfl, hb⟩; have A4 := Lib.hid (A3.out.below hb); have B4 := Lib.hid (B3.out.below hb); clear hb)
  obtain ⟨W5, hW5⟩ : ∃ W5, w4.alloc (.cells #[.int .i64 x0, .string x1, .string x2, .int .i64 x3] 23) = W5 := ⟨_, rfl⟩
  have A5 := Lib.hid (A4.out.below (al_bel w4 (.cells #[.int .i64 x0, .string x1, .string x2, .int .i64 x3] 23)))
  have B5 := Lib.hid (B4.out.below (al_bel w4 (.cells #[.int .i64 x0, .string x1, .string x2, .int .i64 x3] 23)))
  have X5 := Lib.hid (KB.new A4.out.bel x0 x1 x2 x3)
  rw [hW5] at A5 B5 X5 ⊢
  clear hW5 p0 p1 p2 p3
  obtain ⟨p0, p1, p2, p3⟩ := B5.out.cells
  go_upto_region 7 with (go_at_call 9; refine (HRb.out _).mono ?_; rintro e w6 ⟨rfl, hb⟩; have A6 := Lib.hid (A5.out.below hb); have B6 := Lib.hid (B5.out.below hb); have X6 := Lib.hid (X5.out.below hb); clear hb)
  obtain ⟨W7, hW7⟩ : ∃ W7, w6.alloc (.cells #[.int .i64 y0, .string y1, .string y2, .int .i64 y3] 23) = W7 := ⟨_, rfl⟩
  have A7 := Lib.hid (A6.out.below (al_bel w6 (.cells #[.int .i64 y0, .string y1, .string y2, .int .i64 y3] 23))).drew
  have B7 := Lib.hid (B6.out.below (al_bel w6 (.cells #[.int .i64 y0, .string y1, .string y2, .int .i64 y3] 23))).drew
  have X7 := Lib.hid (X6.out.below (al_bel w6 (.cells #[.int .i64 y0, .string y1, .string y2, .int .i64 y3] 23))).drew
  have Y7 := Lib.hid (KB.new X6.out.bel y0 y1 y2 y3).drew
  rw [hW7] at A7 B7 X7 Y7 ⊢
  clear hW7 p0 p1 p2 p3
  obtain ⟨p0, p1, p2, p3⟩ := A7.out.cells
  obtain ⟨q0, q1, q2, q3⟩ := B7.out.cells
  go_cut [12, 13] from 35 to 38 (fun kv lv wx => kv = .string kA ∧ lv = .string kB ∧ KB w w4.heap.size x0 x1 x2 x3 wx ∧ KB w w6.heap.size y0 y1 y2 y3 wx)
  · go_region_law (first | (go_simp; go_at_call 12; with_reducible refine (HKa.out _ A7.out.bel).mono ?_; rintro e w8 ⟨rfl, hb⟩; have B8 := Lib.hid (B7.out.below hb); have X8 := Lib.hid (X7.out.below hb); have Y8 := Lib.hid (Y7.out.below hb); obtain ⟨s0, s1, s2, s3⟩ := B8.out.cells; clear hb) | (go_simp; go_at_call 12; with_reducible refine (HKb.out _ B8.out.bel).mono ?_; rintro e w9 ⟨rfl, hb⟩; have X9 := Lib.hid (X8.out.below hb); have Y9 := Lib.hid (Y8.out.below hb); clear hb))
    all_goals
      go_wp2
      go_meet
      exact ⟨rfl, rfl, X9.out, Y9.out⟩
  obtain ⟨rfl, rfl, hX, hY⟩ := hcut
  have X9 := Lib.hid hX
  have Y9 := Lib.hid hY
  clear hX hY p0 p1 p2 p3 q0 q1 q2 q3 A7 B7 X7 Y7 A3 B3 A4 B4 A5 B5 X5 A6 B6 X6
  obtain ⟨p0, p1, p2, p3⟩ := X9.out.cells
  obtain ⟨q0, q1, q2, q3⟩ := Y9.out.cells
  go_upto_region 16 with (fail)
  clear p0 p1 p2 p3 q0 q1 q2 q3
  go_upto_region 18 with (first | (go_at_call 14; refine (HCut.out _).mono ?_; rintro e w14 ⟨rfl, rfl⟩) | (go_at_call 13; refine (HFs.out _ X9.out.bel).mono ?_; rintro e w15 ⟨rfl, hb⟩; have X15 := Lib.hid (X9.out.below hb); clear hb))
  obtain ⟨W16, hW16⟩ : ∃ W16, w15.alloc (.cells #[.int .i64 r0, .string r1, .string r2, .int .i64 r3] 23) = W16 := ⟨_, rfl⟩
  have R16 := Lib.hid (KB.new X15.out.bel r0 r1 r2 r3)
  rw [hW16] at R16 ⊢
  clear hW16
  obtain ⟨p0, p1, p2, p3⟩ := R16.out.cells
  go_wp2
  go_ret
  exact ⟨rfl, R16.out.bel⟩
theorem key_len (q : QryL) : (keyL q).length ≤ q.name.size + q.proto.size + 20 := by
  unfold keyL
  by_cases hc : (checkP q).2 = 0
  · rw [if_pos hc]
    obtain ⟨_, ⟨hd1, hd2⟩, ⟨hp1, hp2⟩, _⟩ := check_again q hc
    obtain ⟨hs1, hs2⟩ := check_small q
    have e1 : (Lib.itoa (checkP q).1.db).length ≤ 6 := by
      unfold Lib.itoa
      rw [if_neg (by omega)]
      exact dec_len 5 _ (by omega)
    have e2 : (Lib.itoa (checkP q).1.port).length ≤ 6 := by
      unfold Lib.itoa
      rw [if_neg (by omega)]
      exact dec_len 5 _ (by omega)
    have e3 : (checkP q).1.proto.data.toList.length = (checkP q).1.proto.size := rfl
    have e4 : (checkP q).1.name.data.toList.length = (checkP q).1.name.size := rfl
    have e5 : ∀ a b c d : List UInt8, Lib.join [a, b, c, d] [47] = a ++ 47 :: (b ++ 47 :: (c ++ 47 :: d)) := fun a b c d => by simp [Lib.join, List.intercalate]
    unfold partsK
    rw [e5]
    simp only [List.length_append, List.length_cons]
    omega
  · rw [if_neg hc]
    exact Nat.zero_le _
theorem from_small {l : List UInt8} {q : QryL} (h : fromP l = some q) : q.name.size ≤ l.length ∧ q.proto.size ≤ l.length := by
  unfold fromP at h
  cases hr : readP l with
  | none => rw [hr] at h; cases h
  | some r =>
    rw [hr] at h
    simp only at h
    split at h
    · cases h
      exact read_small hr
    · cases h
theorem queryKey_walk (Q0 Q1 : QryL) (s : ByteArray) (w : World) (h0 : QIn Q0) (h1 : QIn Q1) (hs : s.size ≤ maxLen) (hl : LibAt w) :
    Calls Tryd.prog 4 #[qV Q0, qV Q1, .string s] w fun e w' => e = .returned (.bool true) ∧ Below w.heap.size w w' := by
  obtain ⟨h01, h02, _, _⟩ := h0
  obtain ⟨h11, h12, _, _⟩ := h1
  obtain ⟨hA1, hA2⟩ := cut_sizes Q0
  obtain ⟨hB1, hB2⟩ := cut_sizes Q1
  have hS1 := cutB_le 300 s
  have HB : Hid (∀ W, Below w.heap.size w W → Calls Tryd.prog 6 #[] W fun e w' => e = .returned (.bool true) ∧ Below W.heap.size W w') := Lib.hid (fun W hb => begun14_any W (hl.below hb))
  have HXa : Hid (∀ W, Calls Tryd.prog 7 #[qV Q0] W fun e w' => e = .returned (qV (cutQ Q0)) ∧ Below W.heap.size W w') := Lib.hid (fun W => cutq_any Q0 W h01 h02)
  have HXb : Hid (∀ W, Calls Tryd.prog 7 #[qV Q1] W fun e w' => e = .returned (qV (cutQ Q1)) ∧ Below W.heap.size W w') := Lib.hid (fun W => cutq_any Q1 W h11 h12)
  have HCut : Hid (∀ W, Calls Tryd.prog 14 #[.string s, .int .i64 300] W fun e w' => e = .returned (.string (cutB 300 s)) ∧ w' = W) := Lib.hid (fun W => cut2_any s 300 W hs)
  generalize cutQ Q0 = A at *
  generalize cutQ Q1 = B at *
  generalize cutB 300 s = S at *
  have hkl := key_len A
  have HRa : Hid (∀ W, Calls Tryd.prog 9 #[qV A] W fun e w' => e = .returned (.tuple #[qV (checkP A).1, .int .i64 (checkP A).2]) ∧ Below W.heap.size W w') := Lib.hid (fun W => rcheck_any A W (by omega) (by omega))
  have HRb : Hid (∀ W, Calls Tryd.prog 9 #[qV B] W fun e w' => e = .returned (.tuple #[qV (checkP B).1, .int .i64 (checkP B).2]) ∧ Below W.heap.size W w') := Lib.hid (fun W => rcheck_any B W (by omega) (by omega))
  have HKa : Hid (∀ W, Below w.heap.size w W → Calls Tryd.prog 12 #[qV A] W fun e w' => e = .returned (.string ⟨(keyL A).toArray⟩) ∧ Below W.heap.size W w') := Lib.hid (fun W hb => key_any A W (by omega) (by omega) (hl.below hb))
  have HKb : Hid (∀ W, Below w.heap.size w W → Calls Tryd.prog 12 #[qV B] W fun e w' => e = .returned (.string ⟨(keyL B).toArray⟩) ∧ Below W.heap.size W w') := Lib.hid (fun W hb => key_any B W (by omega) (by omega) (hl.below hb))
  have HEx : Hid (∀ W, Calls Tryd.prog 11 #[qV (checkP A).1, qV (checkP A).1] W fun e w' => e = .returned (.bool true) ∧ Below W.heap.size W w') := Lib.hid (fun W => by
    have h := reqq_any (checkP A).1 (checkP A).1 W
    rw [(eqQ_iff _ _).2 rfl] at h
    exact h)
  have HF : (checkP A).2 = 0 → Hid (∀ W, Below w.heap.size w W → Calls Tryd.prog 13 #[.string ⟨(keyL A).toArray⟩] W fun e w' => e = .returned (.tuple #[qV (checkP A).1, .bool true]) ∧ Below W.heap.size W w') := fun hc => Lib.hid (fun W hb => by
    have h := from_any ⟨(keyL A).toArray⟩ W (by show (keyL A).length ≤ 900; omega) (hl.below hb)
    rw [show fromP (ByteArray.data ⟨(keyL A).toArray⟩).toList = some (checkP A).1 from from_key A hc] at h
    exact h)
  have HFs : Hid (∀ W, Below w.heap.size w W → Calls Tryd.prog 13 #[.string S] W (BRes W (fromP S.data.toList))) := Lib.hid (fun W hb => from_any S W (by omega) (hl.below hb))
  have hkA : (⟨(keyL A).toArray⟩ : ByteArray).toList.isEmpty = decide ((checkP A).2 ≠ 0) := by rw [isE_of, decide_eq_decide]; exact key_nil A
  have hkB : (⟨(keyL B).toArray⟩ : ByteArray).toList.isEmpty = decide ((checkP B).2 ≠ 0) := by rw [isE_of, decide_eq_decide]; exact key_nil B
  have hkk : ((⟨(keyL A).toArray⟩ : ByteArray).toList == (⟨(keyL B).toArray⟩ : ByteArray).toList) = decide (keyL A = keyL B) := by
    rw [list_beq, decide_eq_decide]
    exact ⟨fun h => congrArg (fun x : ByteArray => x.data.toList) h, fun h => by rw [h]⟩
  show Calls Tryd.prog 4 #[.agg #[.int .i64 Q0.db, .string Q0.name, .string Q0.proto, .int .i64 Q0.port], .agg #[.int .i64 Q1.db, .string Q1.name, .string Q1.proto, .int .i64 Q1.port], .string s] w _
  cases hf : fromP S.data.toList with
  | none =>
    rw [hf] at HFs
    by_cases hc : (checkP A).2 = 0
    · by_cases hd : (checkP B).2 = 0
      · by_cases hk : keyL A = keyL B
        · have HE : Hid (∀ W, Calls Tryd.prog 11 #[qV (checkP A).1, qV (checkP B).1] W fun e w' => e = .returned (.bool true) ∧ Below W.heap.size W w') := Lib.hid (fun W => by
            have h := reqq_any (checkP A).1 (checkP B).1 W
            rw [(eqQ_iff _ _).2 ((key_one A B hc hd).1 hk)] at h
            exact h)
          exact qk_yye_z w Q0.db Q0.name Q0.proto Q0.port Q1.db Q1.name Q1.proto Q1.port s S A.db A.name A.proto A.port B.db B.name B.proto B.port (checkP A).1.db (checkP A).1.name (checkP A).1.proto (checkP A).1.port (checkP B).1.db (checkP B).1.name (checkP B).1.proto (checkP B).1.port (checkP A).2 (checkP B).2 ⟨(keyL A).toArray⟩ ⟨(keyL B).toArray⟩ 0 ⟨#[]⟩ ⟨#[]⟩ 0 hc hd HB HXa HXb HRa HRb HKa HKb HE HEx (HF hc) HCut HFs (by rw [hkA]; exact decide_eq_false (fun h => h hc)) (by rw [hkB]; exact decide_eq_false (fun h => h hd)) (by rw [hkk]; exact decide_eq_true hk)
        · have HE : Hid (∀ W, Calls Tryd.prog 11 #[qV (checkP A).1, qV (checkP B).1] W fun e w' => e = .returned (.bool false) ∧ Below W.heap.size W w') := Lib.hid (fun W => by
            have h := reqq_any (checkP A).1 (checkP B).1 W
            have hne : eqQ (checkP A).1 (checkP B).1 = false := by
              cases he : eqQ (checkP A).1 (checkP B).1 with
              | false => rfl
              | true => exact absurd ((key_one A B hc hd).2 ((eqQ_iff _ _).1 he)) hk
            rw [hne] at h
            exact h)
          exact qk_yyd_z w Q0.db Q0.name Q0.proto Q0.port Q1.db Q1.name Q1.proto Q1.port s S A.db A.name A.proto A.port B.db B.name B.proto B.port (checkP A).1.db (checkP A).1.name (checkP A).1.proto (checkP A).1.port (checkP B).1.db (checkP B).1.name (checkP B).1.proto (checkP B).1.port (checkP A).2 (checkP B).2 ⟨(keyL A).toArray⟩ ⟨(keyL B).toArray⟩ 0 ⟨#[]⟩ ⟨#[]⟩ 0 hc hd HB HXa HXb HRa HRb HKa HKb HE HEx (HF hc) HCut HFs (by rw [hkA]; exact decide_eq_false (fun h => h hc)) (by rw [hkB]; exact decide_eq_false (fun h => h hd)) (by rw [hkk]; exact decide_eq_false hk)
      · exact qk_yn_z w Q0.db Q0.name Q0.proto Q0.port Q1.db Q1.name Q1.proto Q1.port s S A.db A.name A.proto A.port B.db B.name B.proto B.port (checkP A).1.db (checkP A).1.name (checkP A).1.proto (checkP A).1.port (checkP B).1.db (checkP B).1.name (checkP B).1.proto (checkP B).1.port (checkP A).2 (checkP B).2 ⟨(keyL A).toArray⟩ ⟨(keyL B).toArray⟩ 0 ⟨#[]⟩ ⟨#[]⟩ 0 hc hd HB HXa HXb HRa HRb HKa HKb HEx (HF hc) HCut HFs (by rw [hkA]; exact decide_eq_false (fun h => h hc)) (by rw [hkB]; exact decide_eq_true hd)
    · by_cases hd : (checkP B).2 = 0
      · exact qk_ny_z w Q0.db Q0.name Q0.proto Q0.port Q1.db Q1.name Q1.proto Q1.port s S A.db A.name A.proto A.port B.db B.name B.proto B.port (checkP A).1.db (checkP A).1.name (checkP A).1.proto (checkP A).1.port (checkP B).1.db (checkP B).1.name (checkP B).1.proto (checkP B).1.port (checkP A).2 (checkP B).2 ⟨(keyL A).toArray⟩ ⟨(keyL B).toArray⟩ 0 ⟨#[]⟩ ⟨#[]⟩ 0 hc hd HB HXa HXb HRa HRb HKa HKb HCut HFs (by rw [hkA]; exact decide_eq_true hc) (by rw [hkB]; exact decide_eq_false (fun h => h hd))
      · exact qk_nn_z w Q0.db Q0.name Q0.proto Q0.port Q1.db Q1.name Q1.proto Q1.port s S A.db A.name A.proto A.port B.db B.name B.proto B.port (checkP A).1.db (checkP A).1.name (checkP A).1.proto (checkP A).1.port (checkP B).1.db (checkP B).1.name (checkP B).1.proto (checkP B).1.port (checkP A).2 (checkP B).2 ⟨(keyL A).toArray⟩ ⟨(keyL B).toArray⟩ 0 ⟨#[]⟩ ⟨#[]⟩ 0 hc hd HB HXa HXb HRa HRb HKa HKb HCut HFs (by rw [hkA]; exact decide_eq_true hc) (by rw [hkB]; exact decide_eq_true hd)
  | some r =>
    rw [hf] at HFs
    obtain ⟨hr1, hr2⟩ := from_some hf
    obtain ⟨hr3, hr4⟩ := from_small hf
    have hSl : S.data.toList.length = S.size := rfl
    have HKr : Hid (∀ W, Below w.heap.size w W → Calls Tryd.prog 12 #[qV r] W fun e w' => e = .returned (.string S) ∧ Below W.heap.size W w') := Lib.hid (fun W hb => by
      have h := key_any r W (by omega) (by omega) (hl.below hb)
      rw [hr1] at h
      exact h)
    have hSe : S.toList.isEmpty = false := emp_not hr2
    by_cases hc : (checkP A).2 = 0
    · by_cases hd : (checkP B).2 = 0
      · by_cases hk : keyL A = keyL B
        · have HE : Hid (∀ W, Calls Tryd.prog 11 #[qV (checkP A).1, qV (checkP B).1] W fun e w' => e = .returned (.bool true) ∧ Below W.heap.size W w') := Lib.hid (fun W => by
            have h := reqq_any (checkP A).1 (checkP B).1 W
            rw [(eqQ_iff _ _).2 ((key_one A B hc hd).1 hk)] at h
            exact h)
          exact qk_yye_k w Q0.db Q0.name Q0.proto Q0.port Q1.db Q1.name Q1.proto Q1.port s S A.db A.name A.proto A.port B.db B.name B.proto B.port (checkP A).1.db (checkP A).1.name (checkP A).1.proto (checkP A).1.port (checkP B).1.db (checkP B).1.name (checkP B).1.proto (checkP B).1.port (checkP A).2 (checkP B).2 ⟨(keyL A).toArray⟩ ⟨(keyL B).toArray⟩ r.db r.name r.proto r.port hc hd HB HXa HXb HRa HRb HKa HKb HE HEx (HF hc) HCut HFs HKr (by rw [hkA]; exact decide_eq_false (fun h => h hc)) (by rw [hkB]; exact decide_eq_false (fun h => h hd)) (by rw [hkk]; exact decide_eq_true hk) hSe
        · have HE : Hid (∀ W, Calls Tryd.prog 11 #[qV (checkP A).1, qV (checkP B).1] W fun e w' => e = .returned (.bool false) ∧ Below W.heap.size W w') := Lib.hid (fun W => by
            have h := reqq_any (checkP A).1 (checkP B).1 W
            have hne : eqQ (checkP A).1 (checkP B).1 = false := by
              cases he : eqQ (checkP A).1 (checkP B).1 with
              | false => rfl
              | true => exact absurd ((key_one A B hc hd).2 ((eqQ_iff _ _).1 he)) hk
            rw [hne] at h
            exact h)
          exact qk_yyd_k w Q0.db Q0.name Q0.proto Q0.port Q1.db Q1.name Q1.proto Q1.port s S A.db A.name A.proto A.port B.db B.name B.proto B.port (checkP A).1.db (checkP A).1.name (checkP A).1.proto (checkP A).1.port (checkP B).1.db (checkP B).1.name (checkP B).1.proto (checkP B).1.port (checkP A).2 (checkP B).2 ⟨(keyL A).toArray⟩ ⟨(keyL B).toArray⟩ r.db r.name r.proto r.port hc hd HB HXa HXb HRa HRb HKa HKb HE HEx (HF hc) HCut HFs HKr (by rw [hkA]; exact decide_eq_false (fun h => h hc)) (by rw [hkB]; exact decide_eq_false (fun h => h hd)) (by rw [hkk]; exact decide_eq_false hk) hSe
      · exact qk_yn_k w Q0.db Q0.name Q0.proto Q0.port Q1.db Q1.name Q1.proto Q1.port s S A.db A.name A.proto A.port B.db B.name B.proto B.port (checkP A).1.db (checkP A).1.name (checkP A).1.proto (checkP A).1.port (checkP B).1.db (checkP B).1.name (checkP B).1.proto (checkP B).1.port (checkP A).2 (checkP B).2 ⟨(keyL A).toArray⟩ ⟨(keyL B).toArray⟩ r.db r.name r.proto r.port hc hd HB HXa HXb HRa HRb HKa HKb HEx (HF hc) HCut HFs HKr (by rw [hkA]; exact decide_eq_false (fun h => h hc)) (by rw [hkB]; exact decide_eq_true hd) hSe
    · by_cases hd : (checkP B).2 = 0
      · exact qk_ny_k w Q0.db Q0.name Q0.proto Q0.port Q1.db Q1.name Q1.proto Q1.port s S A.db A.name A.proto A.port B.db B.name B.proto B.port (checkP A).1.db (checkP A).1.name (checkP A).1.proto (checkP A).1.port (checkP B).1.db (checkP B).1.name (checkP B).1.proto (checkP B).1.port (checkP A).2 (checkP B).2 ⟨(keyL A).toArray⟩ ⟨(keyL B).toArray⟩ r.db r.name r.proto r.port hc hd HB HXa HXb HRa HRb HKa HKb HCut HFs HKr (by rw [hkA]; exact decide_eq_true hc) (by rw [hkB]; exact decide_eq_false (fun h => h hd)) hSe
      · exact qk_nn_k w Q0.db Q0.name Q0.proto Q0.port Q1.db Q1.name Q1.proto Q1.port s S A.db A.name A.proto A.port B.db B.name B.proto B.port (checkP A).1.db (checkP A).1.name (checkP A).1.proto (checkP A).1.port (checkP B).1.db (checkP B).1.name (checkP B).1.proto (checkP B).1.port (checkP A).2 (checkP B).2 ⟨(keyL A).toArray⟩ ⟨(keyL B).toArray⟩ r.db r.name r.proto r.port hc hd HB HXa HXb HRa HRb HKa HKb HCut HFs HKr (by rw [hkA]; exact decide_eq_true hc) (by rw [hkB]; exact decide_eq_true hd) hSe
end Go.Proofs.YtaoapkbfcofamaaDoor
-- dev 1795176700
