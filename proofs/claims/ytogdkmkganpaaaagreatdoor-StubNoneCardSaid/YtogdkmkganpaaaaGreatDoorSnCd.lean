/- Contracts and plain facts that the law leans on. -/
import Derived.Test.YtogdkmkganpaaaaGreatDoorSnCc
import Derived.Test.YtogdkmkganpaaaaGreatDoorSnCa
import Derived.Test.YtogdkmkganpaaaaGreatDoorSnCb
import Derived.Test.YtogdkmkganpaaaaGreatDoorChecked
import Derived.WalkKit
import Derived.LoopTactic
import Derived.OwnWalk
import Derived.Test.YtogdkmkganpaaaaGreatDoorProg
import Derived.ProofKit
import Derived.LaidEql
import Derived.Stop.Asserts
import Derived.Stop.IfaceNil
import Derived.RowKitTokens
import Derived.Lib.Hide
namespace Go.Proofs.YtogdkmkganpaaaaGreatDoor
open Go.RowKit Go.Lib Go.Tx
theorem lines_no {E B k no g n c : Nat} {w : World} {T : List (Nat × List (List UInt8))} {ws : List (List UInt8)} (h : LinesC E B w (.slice (some ⟨g, 0, none⟩) n c) T) (hx : T[k]? = some (no, ws)) : w.cell? ⟨g, 2 * k, none⟩ = some (.int .i64 (no : Int)) := by
  obtain ⟨p, cap, e, _, _, hr⟩ := h.read
  cases e
  obtain ⟨g', e, hc, _⟩ := hr k no ws hx
  cases e
  exact hc
theorem GloAt.maxE {w : World} (h : GloAt w) : MaxAt w := h.len

set_option maxHeartbeats 8000000 in
set_option maxRecDepth 100000 in
theorem psetup_core (a : Option Addr) (n c : Nat) (T : List (Nat × List (List UInt8))) (w : World) (hg : GloAt w) (hfine : ∀ t ∈ T, FineL t.2) (hfew : T.length ≤ 100001) (hlines : ∀ W, Below w.heap.size w W → Calls Tryz.prog 61 #[.slice a n c] W (LinesR W T)) :
    Calls Tryz.prog 35 #[.slice a n c] w (RSetR w (setupP T)) := by
  have HLn := Lib.hid hlines
  have HFine := Lib.hid hfine
  have HG := Lib.hid hg
  clear hfine hlines hg
  have HN : Hid (∀ W, (w.alloc (.cells #[.slice none 0 0, .slice none 0 0, .int .i64 0, .int .i64 0, .int .i64 0, .bool false] 109)).alloc (.cells #[.slice none 0 0, .slice none 0 0, .int .i64 1, .int .i64 5, .int .i64 2, .bool false] 109) = W → W.heap[w.heap.size]? = some (.cells #[.slice none 0 0, .slice none 0 0, .int .i64 0, .int .i64 0, .int .i64 0, .bool false] 109 (0, 0)) ∧ W.heap[w.heap.size + 1]? = some (.cells #[.slice none 0 0, .slice none 0 0, .int .i64 1, .int .i64 5, .int .i64 2, .bool false] 109 (0, 0)) ∧ Below w.heap.size w W ∧ W.heap.size = w.heap.size + 2) := Lib.hid (fun W h => by
    subst h
    refine ⟨heap_alloc2_old w _ _, heap_alloc2_new w _ _, ((Below.refl _ _).alloc (Nat.le_refl _) _).alloc (by show w.heap.size ≤ (w.heap.push _).size; simp) _, by show ((w.heap.push _).push _).size = _; simp⟩)
  go_enter Tryz.func35, Tryz.ntmps35
  go_upto_region 2 with (fail)
  obtain ⟨W, hW⟩ : ∃ W, (w.alloc (.cells #[.slice none 0 0, .slice none 0 0, .int .i64 0, .int .i64 0, .int .i64 0, .bool false] 109)).alloc (.cells #[.slice none 0 0, .slice none 0 0, .int .i64 1, .int .i64 5, .int .i64 2, .bool false] 109) = W := ⟨_, rfl⟩
  obtain ⟨hz, hi, hbW, hsz⟩ := HN.out W hW
  try rw [hW]
  clear hW HN
  have HBW := Lib.hid hbW
  go_wp2_with (go_at_call 61; refine (HLn.out _ HBW.out).mono ?_; rintro e w2 ⟨v, rfl, hT0, hb2⟩; have hT := LinesC.of hT0; clear hT0; obtain ⟨pT, cT, rfl⟩ := hT.shape)
  have HT := Lib.hid hT
  have HB2 := Lib.hid hb2
  have H0 : Hid (SetAt w2 w2.heap.size (w.heap.size + 1) (.slice none 0 0) (.slice none 0 0) (setupP (T.take 0)) w2) := Lib.hid
    ⟨(hb2.block _ (by omega)).trans hi, World.ownsRow_nil _ _ _ _, World.ownsRow_nil _ _ _ _, fun g h => by simp [Value.ownBlock] at h, by have := hb2.size; omega, Nat.le_refl _, Keep.refl _ _ _⟩
  have HZ : Hid (w2.heap[w.heap.size]? = some (.cells #[.slice none 0 0, .slice none 0 0, .int .i64 0, .int .i64 0, .int .i64 0, .bool false] 109 (0, 0))) := Lib.hid ((hb2.block _ (by omega)).trans hz)
  have HSz : Hid (W.heap.size = w.heap.size + 2 ∧ W.heap.size ≤ w2.heap.size) := Lib.hid ⟨hsz, hb2.size⟩
  have HGl : Hid (∀ V, Keep w2.heap.size (w.heap.size + 1) w2 V → GloAt V) := Lib.hid (fun V hV => HG.out.below ((HBW.out.trans (hb2.mono (by omega))).trans (hV.bel (by omega) (by have := hb2.size; omega))))
  clear hT hb2 hz hi hbW hsz
  go_loopw [13] (fun iv wr => ∃ (k : Nat) (v1 v2 : Value), k ≤ T.length ∧ iv = .int .i64 k ∧ SetAt w2 w2.heap.size (w.heap.size + 1) v1 v2 (setupP (T.take k)) wr) (fun iv _ => T.length - (intOf iv).toNat)
  case atStart => exact ⟨0, _, _, Nat.zero_le _, rfl, H0.out⟩
  case round =>
    obtain ⟨k, v1, v2, hk, rfl, hS⟩ := hrel
    have HS := Lib.hid hS
    clear hS
    by_cases hlt : k < T.length
    · obtain ⟨⟨no, ws⟩, hx⟩ : ∃ x, T[k]? = some x := ⟨_, List.getElem?_eq_getElem hlt⟩
      have hf := HFine.out (no, ws) (List.mem_of_getElem? hx)
      obtain ⟨g, cap, q, c', e, ⟨hc1, hc2⟩, ⟨hg1, hg2⟩, hcl, ⟨hc3, hc4⟩, ⟨hq1, hq2⟩, hwd⟩ := lines_word HT.out hx hf.ne
      cases e
      have HStep : Hid (setupP (T.take (k + 1)) = lineS (setupP (T.take k)) ws) := Lib.hid (by rw [takeH hx, setupP_snoc])
      have hsz := HSz.out
      have hcw : wr.cell? ⟨g, k * 2 + 1, none⟩ = some (.slice (some ⟨q, 0, none⟩) ws.length c') := by
        rw [Nat.mul_comm]
        exact (HS.out.kp.cell (p := ⟨g, 2 * k + 1, none⟩) hg2 (by show g ≠ _; omega)).trans hcl
      have hcn : wr.cell? ⟨g, k * 2, none⟩ = some (.int .i64 (no : Int)) := by
        rw [Nat.mul_comm]
        exact (HS.out.kp.cell (p := ⟨g, 2 * k, none⟩) hg2 (by show g ≠ _; omega)).trans (lines_no HT.out hx)
      have HWd : Hid (∀ V, Keep w2.heap.size (w.heap.size + 1) w2 V → ∀ (j : Nat) l, ws[j]? = some l → V.cell? ⟨q, j, none⟩ = some (.string ⟨l.toArray⟩)) := Lib.hid (fun V hV j l hj => (hV.cell (p := ⟨q, j, none⟩) hq2 (by show q ≠ _; omega)).trans (hwd j l hj))
      have HWz := Lib.hid hf.word
      have HQ : Hid (q < w2.heap.size ∧ w.heap.size + 1 < w2.heap.size ∧ w.heap.size + 1 ≠ q) := Lib.hid ⟨hq2, by omega, by omega⟩
      have hfw := hf.few
      obtain ⟨x, r0, rfl⟩ : ∃ x r, ws = x :: r := by cases ws with | nil => exact absurd rfl hf.ne | cons x r => exact ⟨x, r, rfl⟩
      have hlen : (x :: r0).length = r0.length + 1 := rfl
      rw [hlen] at hcw hc3 hfw
      generalize hS : setupP (T.take k) = S at *
      have HFew : Hid (S.servers.length ≤ 3) := Lib.hid (by rw [← hS]; exact setup_few _)
      obtain ⟨W4, hW4⟩ : ∃ W4, wr.alloc (.cells #[.int .i64 (no : Int), .slice (some ⟨q, 0, none⟩) (r0.length + 1) c'] 154) = W4 := ⟨_, rfl⟩
      have HS4 : Hid (SetAt w2 w2.heap.size (w.heap.size + 1) v1 v2 S W4) := Lib.hid (by rw [← hW4]; exact HS.out.al _)
      have hl1 : W4.cell? ⟨wr.heap.size, 1, none⟩ = some (.slice (some ⟨q, 0, none⟩) (r0.length + 1) c') := by rw [← hW4, World.cell?_alloc_new]; rfl
      have hc0 := HWd.out W4 HS4.out.kp 0 x rfl
      have HWd1 : Hid (∀ V, Keep w2.heap.size (w.heap.size + 1) w2 V → ∀ (j : Nat) l, r0[j]? = some l → V.cell? ⟨q, 1 + j, none⟩ = some (.string ⟨l.toArray⟩)) := Lib.hid (fun V hV j l hj => HWd.out V hV (1 + j) l (by rw [Nat.add_comm]; simpa using hj))
      clear hx hf hwd hcl hlen hsz hS hq1 hq2
      obtain ⟨s1, d1, rfl⟩ := HS4.out.srv.shape
      obtain ⟨s2, d2, rfl⟩ := HS4.out.sea.shape
      by_cases hc5 : c' = 1
      · subst hc5
        have hr0 : r0.length = 0 := by omega
        have HR : Hid (∀ V, Keep w2.heap.size (w.heap.size + 1) w2 V → ∀ (j : Nat) l, r0[j]? = some l → V.cell? ⟨q, 0 + j, none⟩ = some (.string ⟨l.toArray⟩)) := Lib.hid (fun V hV j l hj => by
          have := (List.getElem?_eq_some_iff.1 hj).1
          omega)
        obtain rfl := List.eq_nil_of_length_eq_zero hr0
        have hrc : ([] : List (List UInt8)).length ≤ 0 ∧ (0 : Nat) ≤ 9223372036854775807 := by simp
        simp only [List.length_nil, Nat.zero_add] at hcw hW4 hl1 hfw hc3
        clear HWd1 hr0
        go_upto_region 7 with (fail)
        have hq : q < W4.heap.size := Nat.lt_of_lt_of_le HQ.out.1 HS4.out.top
        have HGw := Lib.hid (HGl.out _ HS4.out.kp)
        try rw [hW4]
        clear hW4
        obtain ⟨⟨p0, p1, p2, p3, p4, p5⟩, ⟨f0, f1, f2, f3, f4, f5⟩⟩ := HS4.out.cells
        by_cases h1 : x = kNs
        · have e1 : (x == [110, 97, 109, 101, 115, 101, 114, 118, 101, 114]) = true := by rw [h1]; decide
          have HL : Hid (lineS S [x] = srvS S ([] : List (List UInt8))) := Lib.hid (by rw [lineS_cons, if_pos h1])
          rw [HL.out] at HStep
          clear h1 HL
          go_wp2_with (go_at_call 62; refine (withServer_any w2 w2.heap.size (w.heap.size + 1) q 0 0 _ _ S ([] : List (List UInt8)) W4 HS4.out HGw.out HFew.out hrc (fun y hy => HWz.out y (List.mem_cons_of_mem _ hy)) (HR.out _ HS4.out.kp)).mono ?_; rintro e w5 ⟨p5', n5, c5, rfl, hs5, hf5, x5, hx5⟩; have HS5 := Lib.hid hs5; clear hs5)
          go_roundw
          case rel => exact ⟨k + 1, _, _, hlt, by go_num, by rw [HStep.out]; exact HS5.out⟩
          case measure => simp [intOf]; omega
        · by_cases h2 : x = kSe
          · have e1 : (x == [110, 97, 109, 101, 115, 101, 114, 118, 101, 114]) = false := by simpa [kNs] using h1
            have e2 : (x == [115, 101, 97, 114, 99, 104]) = true := by rw [h2]; decide
            have HL : Hid (lineS S [x] = ⟨S.servers, searchP ([] : List (List UInt8)), S.dots, S.tmo, S.att, S.rot⟩) := Lib.hid (by rw [lineS_cons, if_neg h1, if_pos h2])
            rw [HL.out] at HStep
            clear h1 h2 HL
            go_wp2_with (go_at_call 63; refine (searched_any q 0 0 ([] : List (List UInt8)) W4 HGw.out.maxE hrc hq (fun y hy => HWz.out y (List.mem_cons_of_mem _ hy)) (HR.out _ HS4.out.kp)).mono ?_; rintro e w5 ⟨v5, rfl, hv5, hb5⟩; obtain ⟨s5, d5, rfl⟩ := hv5.shape; have HV5 := Lib.hid hv5; have HS5 := Lib.hid (HS4.out.below hb5); obtain ⟨⟨n0, n1, n2, n3, n4, n5⟩, ⟨g0, g1, g2, g3, g4, g5⟩⟩ := HS5.out.cells; clear hv5 hb5)
            go_roundw
            case rel => exact ⟨k + 1, _, _, hlt, by go_num, by rw [HStep.out]; exact HS5.out.putN HV5.out (fun g hg => (World.ownsRow.lt HS4.out.srv g hg).2) HS4.out.top⟩
            case measure => simp [intOf]; omega
          · by_cases h3 : x = kOp
            · have e1 : (x == [110, 97, 109, 101, 115, 101, 114, 118, 101, 114]) = false := by simpa [kNs] using h1
              have e2 : (x == [115, 101, 97, 114, 99, 104]) = false := by simpa [kSe] using h2
              have e3 : (x == [111, 112, 116, 105, 111, 110, 115]) = true := by rw [h3]; decide
              have HL : Hid (lineS S [x] = ([] : List (List UInt8)).foldl optS S) := Lib.hid (by rw [lineS_cons, if_neg h1, if_neg h2, if_pos h3])
              rw [HL.out] at HStep
              clear h1 h2 h3 HL p0 p1 p2 p3 p4 p5 f0 f1 f2 f3 f4 f5
              go_wp2
              go_loopw [40] (fun iv wr => ∃ (j : Nat), j ≤ ([] : List (List UInt8)).length ∧ iv = .int .i64 j ∧ SetAt w2 w2.heap.size (w.heap.size + 1) (.slice s1 S.servers.length d1) (.slice s2 S.search.length d2) ((([] : List (List UInt8)).take j).foldl optS S) wr) (fun iv _ => ([] : List (List UInt8)).length - (intOf iv).toNat)
              case atStart => exact ⟨0, Nat.zero_le _, rfl, HS4.out⟩
              case round =>
                obtain ⟨j, hj, rfl, hS2⟩ := hrel
                have HS2 := Lib.hid hS2
                clear hS2
                by_cases hjl : j < ([] : List (List UInt8)).length
                · exact absurd hjl (by simp)
                · obtain rfl : j = ([] : List (List UInt8)).length := by omega
                  have HE : Hid (([] : List (List UInt8)).take ([] : List (List UInt8)).length = ([] : List (List UInt8))) := Lib.hid (by rw [List.take_length])
                  rw [HE.out] at HS2
                  go_wp2
                  go_roundw
                  case rel => exact ⟨k + 1, _, _, hlt, by go_num, by rw [HStep.out]; exact HS2.out⟩
                  case measure => simp [intOf]; omega
            · have e1 : (x == [110, 97, 109, 101, 115, 101, 114, 118, 101, 114]) = false := by simpa [kNs] using h1
              have e2 : (x == [115, 101, 97, 114, 99, 104]) = false := by simpa [kSe] using h2
              have e3 : (x == [111, 112, 116, 105, 111, 110, 115]) = false := by simpa [kOp] using h3
              have HL : Hid (lineS S [x] = S) := Lib.hid (by rw [lineS_cons, if_neg h1, if_neg h2, if_neg h3])
              rw [HL.out] at HStep
              clear h1 h2 h3 HL
              go_wp2
              go_roundw
              case rel => exact ⟨k + 1, _, _, hlt, by go_num, by rw [HStep.out]; exact HS4.out⟩
              case measure => simp [intOf]; omega
      · have HR : Hid (∀ V, Keep w2.heap.size (w.heap.size + 1) w2 V → ∀ (j : Nat) l, r0[j]? = some l → V.cell? ⟨q, 1 + j, none⟩ = some (.string ⟨l.toArray⟩)) := HWd1
        have hrc : r0.length ≤ c' - 1 ∧ c' - 1 ≤ 9223372036854775807 := by omega
        clear HWd1
        go_upto_region 7 with (fail)
        have hq : q < W4.heap.size := Nat.lt_of_lt_of_le HQ.out.1 HS4.out.top
        have HGw := Lib.hid (HGl.out _ HS4.out.kp)
        try rw [hW4]
        clear hW4
        obtain ⟨⟨p0, p1, p2, p3, p4, p5⟩, ⟨f0, f1, f2, f3, f4, f5⟩⟩ := HS4.out.cells
        by_cases h1 : x = kNs
        · have e1 : (x == [110, 97, 109, 101, 115, 101, 114, 118, 101, 114]) = true := by rw [h1]; decide
          have HL : Hid (lineS S (x :: r0) = srvS S r0) := Lib.hid (by rw [lineS_cons, if_pos h1])
          rw [HL.out] at HStep
          clear h1 HL
          go_wp2_with (go_at_call 62; refine (withServer_any w2 w2.heap.size (w.heap.size + 1) q 1 (c' - 1) _ _ S r0 W4 HS4.out HGw.out HFew.out hrc (fun y hy => HWz.out y (List.mem_cons_of_mem _ hy)) (HR.out _ HS4.out.kp)).mono ?_; rintro e w5 ⟨p5', n5, c5, rfl, hs5, hf5, x5, hx5⟩; have HS5 := Lib.hid hs5; clear hs5)
          go_roundw
          case rel => exact ⟨k + 1, _, _, hlt, by go_num, by rw [HStep.out]; exact HS5.out⟩
          case measure => simp [intOf]; omega
        · by_cases h2 : x = kSe
          · have e1 : (x == [110, 97, 109, 101, 115, 101, 114, 118, 101, 114]) = false := by simpa [kNs] using h1
            have e2 : (x == [115, 101, 97, 114, 99, 104]) = true := by rw [h2]; decide
            have HL : Hid (lineS S (x :: r0) = ⟨S.servers, searchP r0, S.dots, S.tmo, S.att, S.rot⟩) := Lib.hid (by rw [lineS_cons, if_neg h1, if_pos h2])
            rw [HL.out] at HStep
            clear h1 h2 HL
            go_wp2_with (go_at_call 63; refine (searched_any q 1 (c' - 1) r0 W4 HGw.out.maxE hrc hq (fun y hy => HWz.out y (List.mem_cons_of_mem _ hy)) (HR.out _ HS4.out.kp)).mono ?_; rintro e w5 ⟨v5, rfl, hv5, hb5⟩; obtain ⟨s5, d5, rfl⟩ := hv5.shape; have HV5 := Lib.hid hv5; have HS5 := Lib.hid (HS4.out.below hb5); obtain ⟨⟨n0, n1, n2, n3, n4, n5⟩, ⟨g0, g1, g2, g3, g4, g5⟩⟩ := HS5.out.cells; clear hv5 hb5)
            go_roundw
            case rel => exact ⟨k + 1, _, _, hlt, by go_num, by rw [HStep.out]; exact HS5.out.putN HV5.out (fun g hg => (World.ownsRow.lt HS4.out.srv g hg).2) HS4.out.top⟩
            case measure => simp [intOf]; omega
          · by_cases h3 : x = kOp
            · have e1 : (x == [110, 97, 109, 101, 115, 101, 114, 118, 101, 114]) = false := by simpa [kNs] using h1
              have e2 : (x == [115, 101, 97, 114, 99, 104]) = false := by simpa [kSe] using h2
              have e3 : (x == [111, 112, 116, 105, 111, 110, 115]) = true := by rw [h3]; decide
              have HL : Hid (lineS S (x :: r0) = r0.foldl optS S) := Lib.hid (by rw [lineS_cons, if_neg h1, if_neg h2, if_pos h3])
              rw [HL.out] at HStep
              clear h1 h2 h3 HL p0 p1 p2 p3 p4 p5 f0 f1 f2 f3 f4 f5
              go_wp2
              go_loopw [40] (fun iv wr => ∃ (j : Nat), j ≤ r0.length ∧ iv = .int .i64 j ∧ SetAt w2 w2.heap.size (w.heap.size + 1) (.slice s1 S.servers.length d1) (.slice s2 S.search.length d2) ((r0.take j).foldl optS S) wr) (fun iv _ => r0.length - (intOf iv).toNat)
              case atStart => exact ⟨0, Nat.zero_le _, rfl, HS4.out⟩
              case round =>
                obtain ⟨j, hj, rfl, hS2⟩ := hrel
                have HS2 := Lib.hid hS2
                clear hS2
                by_cases hjl : j < r0.length
                · obtain ⟨y, hy⟩ : ∃ y, r0[j]? = some y := ⟨_, List.getElem?_eq_getElem hjl⟩
                  have hyc := HR.out _ HS2.out.kp j y hy
                  have hyl := HWz.out y (List.mem_cons_of_mem _ (List.mem_of_getElem? hy))
                  have HOp : Hid ((r0.take (j + 1)).foldl optS S = optS ((r0.take j).foldl optS S) y) := Lib.hid (by rw [takeH hy, opts_snoc])
                  clear hy
                  go_wp2_with (go_at_call 64; refine (setOption_any w2 w2.heap.size (w.heap.size + 1) _ _ _ y _ HS2.out (HGl.out _ HS2.out.kp).maxE (by omega)).mono ?_; rintro e w6 ⟨rfl, hs6⟩; have HS6 := Lib.hid hs6; clear hs6)
                  go_roundw
                  case rel => exact ⟨j + 1, hjl, by go_num, by rw [HOp.out]; exact HS6.out⟩
                  case measure => simp [intOf]; omega
                · obtain rfl : j = r0.length := by omega
                  have HE : Hid (r0.take r0.length = r0) := Lib.hid (by rw [List.take_length])
                  rw [HE.out] at HS2
                  go_wp2
                  go_roundw
                  case rel => exact ⟨k + 1, _, _, hlt, by go_num, by rw [HStep.out]; exact HS2.out⟩
                  case measure => simp [intOf]; omega
            · have e1 : (x == [110, 97, 109, 101, 115, 101, 114, 118, 101, 114]) = false := by simpa [kNs] using h1
              have e2 : (x == [115, 101, 97, 114, 99, 104]) = false := by simpa [kSe] using h2
              have e3 : (x == [111, 112, 116, 105, 111, 110, 115]) = false := by simpa [kOp] using h3
              have HL : Hid (lineS S (x :: r0) = S) := Lib.hid (by rw [lineS_cons, if_neg h1, if_neg h2, if_neg h3])
              rw [HL.out] at HStep
              clear h1 h2 h3 HL
              go_wp2
              go_roundw
              case rel => exact ⟨k + 1, _, _, hlt, by go_num, by rw [HStep.out]; exact HS4.out⟩
              case measure => simp [intOf]; omega
    · obtain rfl : k = T.length := by omega
      have hsz := HSz.out
      have hsl : Hid (setupP (T.take T.length) = setupP T) := Lib.hid (by rw [List.take_length])
      rw [hsl.out] at HS
      generalize setupP T = S at *
      have hz : wr.heap[w.heap.size]? = some (.cells #[.slice none 0 0, .slice none 0 0, .int .i64 0, .int .i64 0, .int .i64 0, .bool false] 109 (0, 0)) := (HS.out.kp.block _ (by omega) (by omega)).trans HZ.out
      have HZr := Lib.hid hz
      have HBf : Hid (Below w.heap.size w wr) := Lib.hid (((HBW.out.trans (HB2.out.mono (by omega)))).trans (HS.out.kp.bel (by omega) (by omega)))
      obtain ⟨s1, d1, rfl⟩ := HS.out.srv.shape
      obtain ⟨s2, d2, rfl⟩ := HS.out.sea.shape
      obtain ⟨⟨p0, p1, p2, p3, p4, p5⟩, _⟩ := HS.out.cells
      have z0 : wr.cell? ⟨w.heap.size, 0, none⟩ = some (.slice none 0 0) := by simp [World.cell?, hz]
      have z1 : wr.cell? ⟨w.heap.size, 1, none⟩ = some (.slice none 0 0) := by simp [World.cell?, hz]
      have z2 : wr.cell? ⟨w.heap.size, 2, none⟩ = some (.int .i64 0) := by simp [World.cell?, hz]
      have z3 : wr.cell? ⟨w.heap.size, 3, none⟩ = some (.int .i64 0) := by simp [World.cell?, hz]
      have z4 : wr.cell? ⟨w.heap.size, 4, none⟩ = some (.int .i64 0) := by simp [World.cell?, hz]
      have z5 : wr.cell? ⟨w.heap.size, 5, none⟩ = some (.bool false) := by simp [World.cell?, hz]
      have y0 : wr.frozen? ⟨w.heap.size, 0, none⟩ = false := by simp [World.frozen?, hz]
      have y1 : wr.frozen? ⟨w.heap.size, 1, none⟩ = false := by simp [World.frozen?, hz]
      have y2 : wr.frozen? ⟨w.heap.size, 2, none⟩ = false := by simp [World.frozen?, hz]
      have y3 : wr.frozen? ⟨w.heap.size, 3, none⟩ = false := by simp [World.frozen?, hz]
      have y4 : wr.frozen? ⟨w.heap.size, 4, none⟩ = false := by simp [World.frozen?, hz]
      have y5 : wr.frozen? ⟨w.heap.size, 5, none⟩ = false := by simp [World.frozen?, hz]
      have hlow : Hid (w.heap.size < w2.heap.size) := Lib.hid (by omega)
      clear hz hsz hk
      go_wp2
      refine bodyPost_ret (results_rowE rfl _ _ w.heap.size _ _ _ _ rfl (setE_eq (setE_eq (setE_eq (setE_eq (setE_eq (setE_eq HZr.out)))))) Tryz.underlying109 rfl sz_set) rfl ?_
      refine ⟨_, rfl, ⟨_, _, rfl, ?_, ?_⟩, belE_set (belE_set (belE_set (belE_set (belE_set (belE_set HBf.out (Nat.le_refl _) _ _) (Nat.le_refl _) _ _) (Nat.le_refl _) _ _) (Nat.le_refl _) _ _) (Nat.le_refl _) _ _) (Nat.le_refl _) _ _⟩
      · exact strc_less (strc_set (strc_set (strc_set (strc_set (strc_set (strc_set HS.out.srv hlow.out) hlow.out) hlow.out) hlow.out) hlow.out) hlow.out) (Nat.le_of_lt hlow.out)
      · exact strc_less (strc_set (strc_set (strc_set (strc_set (strc_set (strc_set HS.out.sea hlow.out) hlow.out) hlow.out) hlow.out) hlow.out) hlow.out) (Nat.le_of_lt hlow.out)
theorem pset_ok (w : World) (hg : GloAt w) : PsetOK w := by
  intro a n c l W hW hin
  have hg2 := hg.below hW
  rcases hin with ⟨h, hold, hn⟩ | ⟨rfl, rfl, rfl⟩
  · have hl := h.len
    obtain ⟨h1, h2⟩ := toldG_fine l 1 []
    exact psetup_core a n c _ W hg2 h1 (by omega) (fun V hb => lines_any a n c l V (h.below hb hold) (fun x hx => Nat.lt_of_lt_of_le (hold x hx) hb.size) (by omega))
  · rw [toldE_nil]
    refine psetup_core a 0 0 [] W hg2 (fun t ht => by (cases ht)) (by simp) (fun V _ => (lines_zero a V).mono ?_)
    rintro e w' ⟨rfl, rfl⟩
    exact ⟨_, rfl, LinesAt.nil _ _, Below.refl _ _⟩

end Go.Proofs.YtogdkmkganpaaaaGreatDoor

namespace Go.Proofs.YtogdkmkganpaaaaGreatDoor
open Go.RowKit Go.Ev Go.Fr Go.Lib
abbrev abcdB : ByteArray := ⟨#[97, 98, 99, 100]⟩
def revL : List Nat := [49, 48, 48, 46, 57, 57, 46, 57, 56, 46, 57, 55, 46, 105, 110, 45, 97, 100, 100, 114, 46, 97, 114, 112, 97]
abbrev revB : ByteArray := ⟨#[49, 48, 48, 46, 57, 57, 46, 57, 56, 46, 57, 55, 46, 105, 110, 45, 97, 100, 100, 114, 46, 97, 114, 112, 97]⟩
def revT : Tab := [([.str [97, 98, 99, 100]], .str revL)]
set_option maxRecDepth 1000000 in
theorem krev (b1 o1 b2 o2 : Nat) : okTab (E0 b1 o1 b2 o2) 200 66 revT = true := by kernel_rfl
/-- Reverse at the laws' address, at any later world. -/
def RevOK (w0 : World) : Prop := ∀ w, Below w0.heap.size w0 w → Calls Tryz.prog 66 #[.string abcdB] w fun e w' => e = .returned (.string revB) ∧ Below w.heap.size w w'
theorem rev_ok {W : World} {b1 o1 b2 o2 : Nat} (h : EOK (E0 b1 o1 b2 o2) (Bas.of W)) : RevOK W := fun w hb => by
  refine (FnOK.tab h fol (krev b1 o1 b2 o2) [.str [97, 98, 99, 100]] H00 (.str revL) H00 rfl (fun _ => none) w [.string abcdB] ((HR.none00 Tryz.prog W).below hb).1 (fun _ _ _ => rfl) (VRL.cons (by refine ⟨by kernel_rfl, fun x hx => ?_⟩; simp at hx; omega) VRL.nil)).mono ?_
  rintro e w' ⟨v, ρ', h1, h2, h3, h4⟩
  obtain ⟨rfl, _⟩ := h2
  refine ⟨h1, h4.os, h4.tape, h4.output, h4.size, fun k hk => h4.frame k hk ?_⟩
  rintro ⟨n, o, cp, e, _⟩
  rw [show H00.objs.get n = none from Tr.get_leaf n] at e
  cases e
end Go.Proofs.YtogdkmkganpaaaaGreatDoor

namespace Go.Tx
open Go.Lib
def whole (N d : List UInt8) : List UInt8 := N ++ [46] ++ (bare d).map low
def stepE (N : List UInt8) (acc : List (List UInt8)) (d : List UInt8) : List (List UInt8) :=
  if nameB (bare d) = true then (if nameB (whole N d) = true then (if whole N d ∈ acc then acc else acc ++ [whole N d]) else acc) else acc
def extE (N : List UInt8) (ds : List (List UInt8)) : List (List UInt8) := ds.foldl (stepE N) []
theorem stepE_len (N : List UInt8) (acc : List (List UInt8)) (d : List UInt8) : (stepE N acc d).length ≤ acc.length + 1 := by
  unfold stepE
  repeat' split
  all_goals simp
theorem fold_snoc {α β : Type} (f : β → α → β) (b : β) (l : List α) (k : Nat) (x : α) (h : l[k]? = some x) : (l.take (k + 1)).foldl f b = f ((l.take k).foldl f b) x := by
  have : l.take (k + 1) = l.take k ++ [x] := by rw [List.take_add_one, h]; rfl
  rw [this, List.foldl_append]
  rfl
theorem stepE_none {N : List UInt8} {acc : List (List UInt8)} {d : List UInt8} (h : nameB (bare d) = false) : stepE N acc d = acc := by unfold stepE; rw [if_neg (by rw [h]; decide)]
theorem stepE_long {N : List UInt8} {acc : List (List UInt8)} {d : List UInt8} (h : nameB (whole N d) = false) : stepE N acc d = acc := by unfold stepE; split; rw [if_neg (by rw [h]; decide)]; rfl
theorem stepE_twice {N : List UInt8} {acc : List (List UInt8)} {d : List UInt8} (h : whole N d ∈ acc) : stepE N acc d = acc := by
  unfold stepE
  rw [if_pos h]
  repeat' split
  all_goals rfl
theorem stepE_new {N : List UInt8} {acc : List (List UInt8)} {d : List UInt8} (h1 : nameB (bare d) = true) (h2 : nameB (whole N d) = true) (h3 : whole N d ∉ acc) : stepE N acc d = acc ++ [whole N d] := by unfold stepE; rw [if_pos h1, if_pos h2, if_neg h3]
/-! ### The document's way: the name may stand ahead -/
/-- What is asked for. -/
def candL (s : List UInt8) (ds : List (List UInt8)) (first : Bool) : List (List UInt8) :=
  if nameB (bare s) = true then
    (if isRoot s = true then [(bare s).map low]
     else if first = true then (bare s).map low :: extE ((bare s).map low) ds else extE ((bare s).map low) ds ++ [(bare s).map low])
  else []
end Go.Tx

namespace Go.Proofs.YtogdkmkganpaaaaGreatDoor
open Go.RowKit Go.Lib Go.Tx
theorem contains_any {B : Nat} {v : Value} {T : List (List UInt8)} (x : ByteArray) (w : World) (h : StrC B w v T) (hl : T.length ≤ 1000000) :
    Calls Tryz.prog 131 #[v, .string x] w fun e w' => e = .returned (.bool (decide (x.data.toList ∈ T))) ∧ w' = w := by
  obtain ⟨p, c, rfl, hc, hm, hr⟩ := h.read
  by_cases h0 : T = []
  · subst h0
    refine (Tryz.slices_Contains_string_empty p c x w).mono fun e w' ⟨h1, h2⟩ => ⟨?_, h2⟩
    rw [h1]; simp
  · have hpos : 0 < T.length := by cases T; exact absurd rfl h0; simp
    obtain ⟨g, rfl, hg, _⟩ := hr 0 T[0] (List.getElem?_eq_getElem hpos)
    have hz : ((T.map fun l => (⟨l.toArray⟩ : ByteArray)).take T.length) = T.map fun l => (⟨l.toArray⟩ : ByteArray) := List.take_of_length_le (by simp)
    refine (Tryz.slices_Contains_string g 0 T.length c (T.map fun l => ⟨l.toArray⟩) x w (by simp) (by omega) fun j hj => ?_).mono fun e w' ⟨h1, h2⟩ => ⟨?_, h2⟩
    · rw [List.length_map] at hj
      obtain ⟨g', e, _, h3⟩ := hr j T[j] (List.getElem?_eq_getElem hj)
      cases e
      rw [Nat.zero_add, h3, List.getD_eq_getElem?_getD, List.getElem?_map, List.getElem?_eq_getElem hj]
      rfl
    · rw [h1, hz]
      have : containsS (T.map fun l => (⟨l.toArray⟩ : ByteArray)) x = decide (x.data.toList ∈ T) := by
        rw [Bool.eq_iff_iff, containsS_iff, decide_eq_true_iff, List.mem_map]
        constructor
        · rintro ⟨l, hl, rfl⟩; exact hl
        · intro hx; exact ⟨_, hx, rfl⟩
      rw [this]
/-- Where texts are read. -/
def SrcS (w : World) (p : Option Addr) (ds : List (List UInt8)) : Prop := ∀ (i : Nat) l, ds[i]? = some l → ∃ g, p = some ⟨g, 0, none⟩ ∧ g < w.heap.size ∧ w.cell? ⟨g, i, none⟩ = some (.string ⟨l.toArray⟩)
theorem SrcS.below {w w' : World} {p : Option Addr} {ds : List (List UInt8)} (h : SrcS w p ds) (hb : Below w.heap.size w w') : SrcS w' p ds := fun i l hi => by
  obtain ⟨g, h1, h2, h3⟩ := h i l hi
  exact ⟨g, h1, Nat.lt_of_lt_of_le h2 hb.size, by rw [hb.cell (p := ⟨g, i, none⟩) h2]; exact h3⟩
theorem one_texts (w : World) (x : ByteArray) : TextsIn (w.alloc (.cells #[.string x] 9)) (.slice (some ⟨w.heap.size, 0, none⟩) 1 1) [x.data.toList] := by
  refine .inr ⟨_, 1, rfl, fun i l hi => ?_⟩
  have ha : (⟨w.heap.size, 0, none⟩ : Addr).add i = ⟨w.heap.size, i, none⟩ := by unfold Addr.add; split <;> simp_all
  rw [ha, World.cell?_alloc_new]
  match i, hi with
  | 0, hi => cases hi; rfl
theorem wholeB (N : ByteArray) (d : List UInt8) : (N ++ ⟨#[46]⟩ ++ ⟨((bare d).map low).toArray⟩ : ByteArray).data.toList = whole N.data.toList d := by
  unfold whole
  simp
set_option maxHeartbeats 4000000 in
set_option maxRecDepth 100000 in
theorem extended_any (N : ByteArray) (p : Option Addr) (m c : Nat) (ds : List (List UInt8)) (w : World) (hm : MaxAt w) (hN : N.size ≤ 253) (hlen : ds.length = m) (hd : ∀ d ∈ ds, d.length ≤ 1000000) (h6 : m ≤ 6) (hmc : m ≤ c) (hc : c ≤ 9223372036854775807) (hsrc : SrcS w p ds) :
    Calls Tryz.prog 101 #[.string N, .slice p m c] w fun e w' => ∃ v, e = .returned v ∧ StrC w.heap.size w' v (extE N.data.toList ds) ∧ Below w.heap.size w w' := by
  have HS := Lib.hid hsrc
  have HM := Lib.hid hm
  have HD := Lib.hid hd
  clear hsrc hm hd
  go_enter Tryz.func101, Tryz.ntmps101
  go_wp2
  go_loopw [5, 14] (fun v i wr => ∃ k : Nat, k ≤ m ∧ i = .int .i64 k ∧ StrC w.heap.size wr v ((ds.take k).foldl (stepE N.data.toList) []) ∧ ((ds.take k).foldl (stepE N.data.toList) []).length ≤ k ∧ Below w.heap.size w wr) (fun _ i _ => m - (intOf i).toNat)
  case atStart => exact ⟨0, Nat.zero_le _, rfl, World.ownsRow_nil _ _ _ _, Nat.le_refl _, Below.refl _ _⟩
  case round =>
    obtain ⟨k, hk, rfl, hstr, hfew, hbel⟩ := hrel
    by_cases hlt : k < m
    · have hkl : k < ds.length := by omega
      have HK := Lib.hid (List.getElem?_eq_getElem hkl)
      have hdl := HD.out ds[k] (List.getElem_mem hkl)
      obtain ⟨g, rfl, hg, hcell⟩ := (HS.out.below hbel) k ds[k] HK.out
      have HF := Lib.hid (fold_snoc (stepE N.data.toList) [] ds k ds[k] HK.out)
      generalize ds[k] = d at HK hdl hcell HF
      have HC := Lib.hid (clean_any ⟨d.toArray⟩ wr (by show d.toArray.size ≤ maxLen; simp; unfold maxLen; omega) (HM.out.below hbel))
      have hstrH := Lib.hid hstr
      clear hstr
      obtain ⟨T, hT⟩ : ∃ T, (ds.take k).foldl (stepE N.data.toList) [] = T := ⟨_, rfl⟩
      rw [hT] at HF hstrH hfew
      clear hT
      rcases cleanV_cases d with ⟨hnb, hcv⟩ | ⟨hnb, hcv⟩
      · have hbl : ((bare d).map low).length ≤ 253 := by
          unfold nameB at hnb
          rw [Bool.and_eq_true, decide_eq_true_iff] at hnb
          rw [List.length_map]; exact hnb.1
        have hws := wholeB N d
        obtain ⟨D, hD⟩ : ∃ D : ByteArray, ⟨((bare d).map low).toArray⟩ = D := ⟨_, rfl⟩
        rw [hD] at hcv hws
        have hDs : D.size ≤ 253 := by rw [← hD]; show ((bare d).map low).toArray.size ≤ 253; simpa using hbl
        have HCV : Hid (cleanV (ByteArray.data ⟨d.toArray⟩).toList = .tuple #[.string D, .bool (isRoot d), .bool true]) := Lib.hid hcv
        have HWS := Lib.hid hws
        have HN1 := Lib.hid hnb
        have HIN := Lib.hid (fun wq hm => isName_any (N ++ ⟨#[46]⟩ ++ D) wq hm)
        clear hcv hD hws hnb hbl
        cases hnw : nameB (whole N.data.toList d) with
        | false =>
          have HSt : Hid (stepE N.data.toList T d = T) := Lib.hid (stepE_long hnw)
          have HNW : Hid (nameB (N ++ ⟨#[46]⟩ ++ D : ByteArray).data.toList = false) := Lib.hid (by rw [HWS.out, hnw])
          clear hnw
          go_wp2_with (first | (go_at_call 98; refine HC.out.mono ?_; rw [HCV.out]; rintro e w2 ⟨rfl, hb2⟩) | (go_at_call 127; refine (HIN.out _ ((HM.out.below hbel).below hb2)).mono ?_; rw [HNW.out]; rintro e w3 ⟨rfl, hb3⟩))
          go_roundw
          case rel => exact ⟨k + 1, hlt, by go_num, by rw [HF.out, HSt.out]; exact own_below (own_below hstrH.out hb2) hb3, by rw [HF.out, HSt.out]; omega, (hbel.trans (hb2.mono hbel.size)).trans (hb3.mono (Nat.le_trans hbel.size hb2.size))⟩
          case measure => simp [intOf]; omega
        | true =>
          have HNW : Hid (nameB (N ++ ⟨#[46]⟩ ++ D : ByteArray).data.toList = true) := Lib.hid (by rw [HWS.out, hnw])
          have HNW1 := Lib.hid hnw
          clear hnw
          by_cases hin : whole N.data.toList d ∈ T
          · have HSt : Hid (stepE N.data.toList T d = T) := Lib.hid (stepE_twice hin)
            have HIn : Hid (decide ((N ++ ⟨#[46]⟩ ++ D : ByteArray).data.toList ∈ T) = true) := Lib.hid (by rw [HWS.out]; exact decide_eq_true hin)
            clear hin
            go_wp2_with (first | (go_at_call 98; refine HC.out.mono ?_; rw [HCV.out]; rintro e w2 ⟨rfl, hb2⟩) | (go_at_call 127; refine (HIN.out _ ((HM.out.below hbel).below hb2)).mono ?_; rw [HNW.out]; rintro e w3 ⟨rfl, hb3⟩) | (go_at_call 131; refine (contains_any _ _ (own_below (own_below hstrH.out hb2) hb3) (by omega)).mono ?_; rw [HIn.out]; rintro e w4 ⟨rfl, rfl⟩))
            go_roundw
            case rel => exact ⟨k + 1, hlt, by go_num, by rw [HF.out, HSt.out]; exact own_below (own_below hstrH.out hb2) hb3, by rw [HF.out, HSt.out]; omega, (hbel.trans (hb2.mono hbel.size)).trans (hb3.mono (Nat.le_trans hbel.size hb2.size))⟩
            case measure => simp [intOf]; omega
          · have HSt : Hid (stepE N.data.toList T d = T ++ [whole N.data.toList d]) := Lib.hid (stepE_new HN1.out HNW1.out hin)
            have HIn : Hid (decide ((N ++ ⟨#[46]⟩ ++ D : ByteArray).data.toList ∈ T) = false) := Lib.hid (by rw [HWS.out]; exact decide_eq_false hin)
            clear hin
            go_wp2_with (first | (go_at_call 98; refine HC.out.mono ?_; rw [HCV.out]; rintro e w2 ⟨rfl, hb2⟩) | (go_at_call 127; refine (HIN.out _ ((HM.out.below hbel).below hb2)).mono ?_; rw [HNW.out]; rintro e w3 ⟨rfl, hb3⟩) | (go_at_call 131; refine (contains_any _ _ (own_below (own_below hstrH.out hb2) hb3) (by omega)).mono ?_; rw [HIn.out]; rintro e w4 ⟨rfl, rfl⟩) | (at_builtin; refine wpList_append_texts rfl _ _ rfl (B := w.heap.size) rfl rfl (World.ownsRow.alloc (own_below (own_below hstrH.out hb2) hb3) _) (one_texts _ _) (by simp; omega) (by have := hbel.size; have := hb2.size; have := hb3.size; show w.heap.size ≤ (Array.push _ _).size; simp; omega) ?_; intro v' w5 hown5 hb5))
            go_roundw
            case rel =>
              have hb23 := (hbel.trans (hb2.mono hbel.size)).trans (hb3.mono (Nat.le_trans hbel.size hb2.size))
              exact ⟨k + 1, hlt, by go_num, by rw [HF.out, HSt.out, ← HWS.out]; exact hown5, by rw [HF.out, HSt.out]; simp; omega, (hb23.alloc hb23.size _).trans hb5⟩
            case measure => simp [intOf]; omega
      · have HCV : Hid (cleanV (ByteArray.data ⟨d.toArray⟩).toList = .tuple #[.string ⟨#[]⟩, .bool false, .bool false]) := Lib.hid hcv
        have HSt : Hid (stepE N.data.toList T d = T) := Lib.hid (stepE_none hnb)
        clear hcv hnb
        go_wp2_with (go_at_call 98; refine HC.out.mono ?_; rw [HCV.out]; rintro e w2 ⟨rfl, hb2⟩)
        go_roundw
        case rel => exact ⟨k + 1, hlt, by go_num, by rw [HF.out, HSt.out]; exact own_below hstrH.out hb2, by rw [HF.out, HSt.out]; omega, hbel.trans (hb2.mono hbel.size)⟩
        case measure => simp [intOf]; omega
    · obtain rfl : k = m := by omega
      have HE : Hid ((ds.take k).foldl (stepE N.data.toList) [] = extE N.data.toList ds) := Lib.hid (by rw [List.take_of_length_le (by omega)]; rfl)
      have hstrH := Lib.hid hstr
      clear hstr
      go_wp2
      go_ret
      exact ⟨_, rfl, by rw [← HE.out]; exact hstrH.out, hbel⟩
end Go.Proofs.YtogdkmkganpaaaaGreatDoor

namespace Go.Proofs.YtogdkmkganpaaaaGreatDoor
open Go.RowKit Go.Lib Go.Tx
theorem dots_any (s : ByteArray) (w : World) : Calls Tryz.prog 102 #[.string s] w fun e w' => e = .returned (.int .i64 (countByte s.data.toList 46)) ∧ w' = w := by
  have HC := Lib.hid (Tryz.strings_Count_one s 46 w)
  go_enter Tryz.func102, Tryz.ntmps102
  go_wp2_with (go_at_call 132; refine HC.out.mono ?_; rintro e w2 ⟨rfl, rfl⟩)
  go_ret
  exact ⟨rfl, rfl⟩
theorem one_own (B : Nat) (w : World) (x : ByteArray) (hB : B ≤ w.heap.size) : StrC B (w.alloc (.cells #[.string x] 9)) (.slice (some ⟨w.heap.size, 0, none⟩) 1 1) [x.data.toList] :=
  ⟨rfl, .inr ⟨w.heap.size, 1, #[.string x], rfl, hB, heap_alloc_new w _, Nat.le_refl _, by decide, rfl, rfl⟩⟩
theorem extE_len (N : List UInt8) (ds : List (List UInt8)) : (extE N ds).length ≤ ds.length := by
  unfold extE
  have : ∀ (ds acc : List (List UInt8)), (ds.foldl (stepE N) acc).length ≤ acc.length + ds.length := by
    intro ds
    induction ds with
    | nil => intro acc; simp
    | cons d ds ih =>
      intro acc
      rw [List.foldl_cons]
      have h1 := ih (stepE N acc d)
      have h2 := stepE_len N acc d
      simp only [List.length_cons]; omega
  have := this ds []
  simpa using this
theorem take_src {w : World} {p : Option Addr} {ds : List (List UInt8)} (h : SrcS w p ds) (k : Nat) : SrcS w p (ds.take k) := fun i l hi => by
  rw [List.getElem?_take] at hi
  split at hi
  · exact h i l hi
  · cases hi
theorem strC_mono {B B' : Nat} {w : World} {v : Value} {ws : List (List UInt8)} (h : StrC B w v ws) (hB : B' ≤ B) : StrC B' w v ws := by
  refine ⟨h.1, ?_⟩
  rcases h.2 with h | ⟨g, cap, cur, h1, h2, h3⟩
  · exact .inl h
  · exact .inr ⟨g, cap, cur, h1, Nat.le_trans hB h2, h3⟩
set_option maxHeartbeats 4000000 in
set_option maxRecDepth 100000 in
theorem cands_any (s : ByteArray) (B : Nat) (v : Value) (ds : List (List UInt8)) (dots : Int) (w : World) (hs : s.size ≤ maxLen) (hm : MaxAt w) (hv : StrC B w v ds) (hd : ∀ d ∈ ds, d.length ≤ 1000000) :
    Calls Tryz.prog 65 #[.string s, v, .int .i64 dots] w fun e w' => ∃ v', e = .returned v' ∧ StrC w.heap.size w' v' (candL s.data.toList (ds.take 6) (decide (dots ≤ (countByte ((bare s.data.toList).map low) 46 : Int)))) ∧ Below w.heap.size w w' := by
  have HC := Lib.hid (clean_any s w hs hm)
  rcases cleanV_cases s.data.toList with ⟨hnb, hcv⟩ | ⟨hnb, hcv⟩
  · rw [hcv] at HC
    have hbl : ((bare s.data.toList).map low).length ≤ 253 := by
      have := hnb
      unfold nameB at this
      rw [Bool.and_eq_true, decide_eq_true_iff] at this
      rw [List.length_map]; exact this.1
    have hcl : candL s.data.toList (ds.take 6) (decide (dots ≤ (countByte ((bare s.data.toList).map low) 46 : Int))) = if isRoot s.data.toList = true then [(bare s.data.toList).map low] else if decide (dots ≤ (countByte ((bare s.data.toList).map low) 46 : Int)) = true then (bare s.data.toList).map low :: extE ((bare s.data.toList).map low) (ds.take 6) else extE ((bare s.data.toList).map low) (ds.take 6) ++ [(bare s.data.toList).map low] := by
      unfold candL; rw [if_pos hnb]
    rw [hcl]
    clear hcl hcv
    obtain ⟨N, hN⟩ : ∃ N : ByteArray, ⟨((bare s.data.toList).map low).toArray⟩ = N := ⟨_, rfl⟩
    have hNd : (bare s.data.toList).map low = N.data.toList := by rw [← hN]
    have hNs : N.size ≤ 253 := by rw [hNd] at hbl; exact hbl
    rw [hN] at HC
    rw [hNd]
    clear hbl hNd hN hnb
    cases hr : isRoot s.data.toList with
    | true =>
      rw [hr] at HC
      clear hr
      go_enter Tryz.func65, Tryz.ntmps65
      go_wp2_with (go_at_call 98; refine HC.out.mono ?_; rintro e w2 ⟨rfl, hb⟩)
      go_ret
      exact ⟨_, rfl, one_own _ _ _ hb.size, hb.alloc hb.size _⟩
    | false =>
      rw [hr] at HC
      clear hr
      obtain ⟨p, c, rfl, hc, hmx, hr⟩ := hv.read
      have HS : Hid (SrcS w p ds) := Lib.hid hr
      have HM := Lib.hid hm
      have hmm : (min (ds.length : Int) 6).toNat = min ds.length 6 := by omega
      have HE := Lib.hid (fun wq hb => extended_any N p (min ds.length 6) c (ds.take 6) wq (hm.below hb) hNs (by rw [List.length_take]; omega) (fun d hx => hd d (List.mem_of_mem_take hx)) (by omega) (by omega) hmx ((take_src HS.out 6).below hb))
      have HL := Lib.hid (extE_len N.data.toList (ds.take 6))
      have hlt : (ds.take 6).length ≤ 6 := by rw [List.length_take]; omega
      have HD := Lib.hid (fun w => dots_any N w)
      generalize (countByte N.data.toList 46 : Int) = q at *
      generalize extE N.data.toList (ds.take 6) = X at *
      clear hr hm hd hv hs
      have hXl : X.length ≤ 6 := Nat.le_trans HL.out hlt
      cases hq : decide (dots ≤ q) with
      | true =>
        have hq' := of_decide_eq_true hq
        clear hq
        go_enter Tryz.func65, Tryz.ntmps65
        go_wp2_with (first | (go_at_call 98; refine HC.out.mono ?_; rintro e w2 ⟨rfl, hb⟩) | (go_at_call 101; refine (HE.out _ hb).mono ?_; rintro e w3 ⟨vx, rfl, hx, hb3⟩; have HX := Lib.hid hx; clear hx) | (go_at_call 102; refine (HD.out _).mono ?_; rintro e w4 ⟨rfl, rfl⟩) | (at_builtin; refine wpList_append_texts rfl _ _ rfl (B := w.heap.size) rfl rfl (one_own _ _ _ (Nat.le_trans hb.size hb3.size)) ((StrC.texts HX.out).below ((Below.refl _ _).alloc (Nat.le_refl _) _)) (by simp; omega) (by have := hb.size; have := hb3.size; show w.heap.size ≤ (Array.push _ _).size; simp; omega) ?_; intro v' w5 hown5 hb5))
        go_ret
        have hb23 := hb.trans (hb3.mono hb.size)
        exact ⟨_, rfl, hown5, (hb23.alloc hb23.size _).trans hb5⟩
      | false =>
        have hq' := of_decide_eq_false hq
        clear hq
        go_enter Tryz.func65, Tryz.ntmps65
        go_wp2_with (first | (go_at_call 98; refine HC.out.mono ?_; rintro e w2 ⟨rfl, hb⟩) | (go_at_call 101; refine (HE.out _ hb).mono ?_; rintro e w3 ⟨vx, rfl, hx, hb3⟩; have HX := Lib.hid hx; clear hx) | (go_at_call 102; refine (HD.out _).mono ?_; rintro e w4 ⟨rfl, rfl⟩) | (at_builtin; refine wpList_append_texts rfl _ _ rfl (B := w2.heap.size) rfl rfl (World.ownsRow.alloc HX.out _) (one_texts _ _) (by simp; omega) (by have := hb3.size; show w2.heap.size ≤ (Array.push _ _).size; simp; omega) ?_; intro v' w5 hown5 hb5))
        go_ret
        have hb23 := hb.trans (hb3.mono hb.size)
        exact ⟨_, rfl, strC_mono hown5 hb.size, (hb23.alloc hb23.size _).trans (hb5.mono hb.size)⟩
  · have hcl : ∀ ds b, candL s.data.toList ds b = [] := fun ds b => by unfold candL; rw [if_neg (by rw [hnb]; decide)]
    rw [hcl, ← hcl [] true]
    rw [hcv] at HC
    have HN := Lib.hid (hcl [] true)
    clear hcl hcv hnb
    go_enter Tryz.func65, Tryz.ntmps65
    go_wp2_with (go_at_call 98; refine HC.out.mono ?_; rintro e w2 ⟨rfl, hb⟩)
    go_ret
    exact ⟨_, rfl, by rw [HN.out]; exact World.ownsRow_nil _ _ _ _, hb⟩
end Go.Proofs.YtogdkmkganpaaaaGreatDoor

namespace Go.Proofs.YtogdkmkganpaaaaGreatDoor
open Go.RowKit Go.Mp Go.Rb Go.Lib Go.Wi Go.Tx
abbrev bA (l : List UInt8) : ByteArray := ⟨l.toArray⟩
/-- Elements in a row of one's own, made from B on. -/
def CsNew (B : Nat) (w : World) (v : Value) (L : List Value) : Prop := CsIn (fun k => v.ownBlock = some k ∧ B ≤ k) w v L
theorem CsNew.of_row {B : Nat} {w : World} {e : TypeId} {v : Value} {L : List Value} (h : w.ownsRow B e 1 v L.length L) : CsNew B w v L := by
  obtain ⟨_, h1⟩ := h
  rcases h1 with ⟨e1, e2⟩ | ⟨g, cap, cur, e1, hB, hg, hn, hm, hc, ht⟩
  · have : L = [] := List.length_eq_zero_iff.1 e2
    subst this
    exact ⟨none, 0, e1, Nat.le_refl _, by decide, fun i x hx => by simp at hx⟩
  · refine ⟨_, _, e1, hn, by unfold maxLen at hm; omega, fun i x hx => ⟨g, 0, rfl, ⟨by rw [e1]; rfl, hB⟩, ?_⟩⟩
    have hi := (List.getElem?_eq_some_iff.1 hx).1
    rw [← ht, List.getElem?_take, if_pos (by omega)] at hx
    refine cell_of hg ?_
    rw [Nat.zero_add, ← Array.getElem?_toList]
    exact hx
theorem CsNew.below {B : Nat} {w w' : World} {v : Value} {L : List Value} (h : CsNew B w v L) (hb : Below w.heap.size w w') : CsNew B w' v L := by
  obtain ⟨a, c, e, h1, h2, h3⟩ := h
  refine ⟨a, c, e, h1, h2, fun i x hx => ?_⟩
  obtain ⟨g, o, ea, hs, hc⟩ := h3 i x hx
  exact ⟨g, o, ea, hs, (hb.cell (cellLt hc)).trans hc⟩
theorem strc_new {B : Nat} {w : World} {v : Value} {ws : List (List UInt8)} (h : StrC B w v ws) : CsNew B w v ((ws.map bA).map .string) := by
  have e : (ws.map bA).map Value.string = ws.map strV := by rw [List.map_map]; rfl
  rw [e]
  refine CsNew.of_row (e := 9) ?_
  rw [List.length_map]
  exact h
theorem new_row {B : Nat} {w : World} {t : TypeId} (hB : B ≤ w.heap.size) (arr : Array Value) (h : arr.size ≤ 100) : CsNew B (w.alloc (.cells arr t)) (.slice (some ⟨w.heap.size, 0, none⟩) arr.size arr.size) arr.toList :=
  ⟨_, arr.size, by rw [Array.length_toList], by rw [Array.length_toList]; exact Nat.le_refl _, by omega, fun i x hx => ⟨w.heap.size, 0, rfl, ⟨rfl, hB⟩, by
    refine cell_of (heap_alloc_new w _) ?_
    rw [Nat.zero_add, ← Array.getElem?_toList]
    exact hx⟩⟩
/-- What questions answers. -/
def QuesR (w : World) (subs : List ByteArray) (kinds : List Int) (e : Ending) (w' : World) : Prop :=
  ∃ vs vk, e = .returned (.tuple #[vs, vk]) ∧ CsNew w.heap.size w' vs (subs.map .string) ∧ CsNew w.heap.size w' vk (kinds.map (.int .i64)) ∧ Below w.heap.size w w'
section
variable {w : World} {v1 v2 : Value} {S : SetL} {B : Nat}
theorem strc_shape {w : World} {v : Value} {ws : List (List UInt8)} (h : StrC B w v ws) : ∃ p c, v = .slice p ws.length c := by
  rcases h.2 with ⟨e1, e2⟩ | ⟨g, cap, cur, e1, _⟩
  · exact ⟨none, 0, by rw [e1, e2]⟩
  · exact ⟨_, _, e1⟩
set_option maxHeartbeats 1000000 in
set_option maxRecDepth 100000 in
theorem ques_hosts (nm pr : ByteArray) (po : Int) (h1 : StrC B w v1 S.servers) (h2 : StrC B w v2 S.search) (hm : MaxAt w) (hs : nm.size ≤ maxLen) (hd : ∀ d ∈ S.search, d.length ≤ 1000000) :
    Calls Tryz.prog 36 #[.agg #[.int .i64 1, .string nm, .string pr, .int .i64 po], .agg #[v1, v2, .int .i64 S.dots, .int .i64 S.tmo, .int .i64 S.att, .bool S.rot]] w
      (QuesR w ((candL nm.data.toList (S.search.take 6) (decide (S.dots ≤ (countByte ((bare nm.data.toList).map low) 46 : Int)))).map bA) [1, 28]) := by
  obtain ⟨p1, c1, e1⟩ := strc_shape h1
  obtain ⟨p2, c2, e2⟩ := strc_shape h2
  have HC : Hid (∀ W, Below w.heap.size w W → Calls Tryz.prog 65 #[.string nm, .slice p2 S.search.length c2, .int .i64 S.dots] W fun e w' => ∃ v', e = .returned v' ∧ Hid (CsNew w.heap.size w' v' ((((candL nm.data.toList (S.search.take 6) (decide (S.dots ≤ (countByte ((bare nm.data.toList).map low) 46 : Int)))).map bA)).map .string)) ∧ Hid (Below w.heap.size w w')) := Lib.hid (fun W hW => by
    rw [← e2]
    refine (cands_any nm B v2 S.search S.dots W hs (hm.below hW) (own_below h2 hW) hd).mono ?_
    rintro e w' ⟨v', he, hv, hb⟩
    exact ⟨v', he, Lib.hid (strc_new (strC_mono hv hW.size)), Lib.hid (hW.trans (hb.mono hW.size))⟩)
  have hb1 : Below w.heap.size w ((w.alloc (.cells #[.int .i64 1, .string nm, .string pr, .int .i64 po] 43)).alloc (.cells #[.slice p1 S.servers.length c1, .slice p2 S.search.length c2, .int .i64 S.dots, .int .i64 S.tmo, .int .i64 S.att, .bool S.rot] 109)) := by
    have := (Below.refl w.heap.size w).alloc (Nat.le_refl _) (.cells #[.int .i64 1, .string nm, .string pr, .int .i64 po] 43)
    exact this.alloc this.size _
  have HB1 := Lib.hid hb1
  generalize ((candL nm.data.toList (S.search.take 6) (decide (S.dots ≤ (countByte ((bare nm.data.toList).map low) 46 : Int)))).map bA) = subs at *
  subst e1 e2
  clear h1 h2 hm hs hd hb1
  go_enter Tryz.func36, Tryz.ntmps36
  go_wp2_with (go_at_call 65; refine (HC.out _ (by first | exact HB1.out | exact HB1.out.drew)).mono ?_; rintro e w2 ⟨vs, rfl, HV2, HB2⟩)
  go_ret2
  exact ⟨_, _, rfl, HV2.out.below ((Below.refl _ _).alloc (Nat.le_refl _) _), new_row HB2.out.size #[.int .i64 1, .int .i64 28] (by decide), HB2.out.alloc HB2.out.size _⟩
set_option maxHeartbeats 1000000 in
set_option maxRecDepth 100000 in
theorem ques_addrs {w0 : World} (pr : ByteArray) (po : Int) (h1 : StrC B w v1 S.servers) (h2 : StrC B w v2 S.search) (hrev : RevOK w0) (hb0 : Below w0.heap.size w0 w) :
    Calls Tryz.prog 36 #[.agg #[.int .i64 2, .string abcdB, .string pr, .int .i64 po], .agg #[v1, v2, .int .i64 S.dots, .int .i64 S.tmo, .int .i64 S.att, .bool S.rot]] w
      (QuesR w [revB] [12]) := by
  obtain ⟨p1, c1, e1⟩ := strc_shape h1
  obtain ⟨p2, c2, e2⟩ := strc_shape h2
  have HC : Hid (∀ W, Below w.heap.size w W → Calls Tryz.prog 66 #[.string abcdB] W fun e w' => e = .returned (.string revB) ∧ Hid (Below w.heap.size w w')) := Lib.hid (fun W hW => by
    refine (hrev W (hb0.trans (hW.mono hb0.size))).mono ?_
    rintro e w' ⟨he, hb⟩
    exact ⟨he, Lib.hid (hW.trans (hb.mono hW.size))⟩)
  have hb1 : Below w.heap.size w ((w.alloc (.cells #[.int .i64 2, .string abcdB, .string pr, .int .i64 po] 43)).alloc (.cells #[.slice p1 S.servers.length c1, .slice p2 S.search.length c2, .int .i64 S.dots, .int .i64 S.tmo, .int .i64 S.att, .bool S.rot] 109)) := by
    have := (Below.refl w.heap.size w).alloc (Nat.le_refl _) (.cells #[.int .i64 2, .string abcdB, .string pr, .int .i64 po] 43)
    exact this.alloc this.size _
  have HB1 := Lib.hid hb1
  have hne : (revB == (⟨#[]⟩ : ByteArray)) = false := by decide
  subst e1 e2
  clear h1 h2 hb1 hrev hb0
  go_enter Tryz.func36, Tryz.ntmps36
  go_wp2_with (go_at_call 66; refine (HC.out _ (by first | exact HB1.out | exact HB1.out.drew)).mono ?_; rintro e w2 ⟨rfl, HB2⟩)
  go_ret2
  have hs2 : (w2.alloc (.cells #[.string revB] 9)).heap.size = w2.heap.size + 1 := by show (w2.heap.push _).size = _; simp
  have ha : Below w.heap.size w (w2.alloc (.cells #[.string revB] 9)) := HB2.out.alloc HB2.out.size _
  have h2 := new_row (B := w.heap.size) (w := w2.alloc (.cells #[.string revB] 9)) (t := 3) ha.size #[.int .i64 12] (by decide)
  rw [hs2] at h2
  exact ⟨_, _, rfl, (new_row HB2.out.size #[.string revB] (by decide)).below ((Below.refl _ _).alloc (Nat.le_refl _) _), h2, ha.alloc ha.size _⟩
set_option maxHeartbeats 1000000 in
set_option maxRecDepth 100000 in
theorem ques_other (db : Int) (nm pr : ByteArray) (po : Int) (h1 : StrC B w v1 S.servers) (h2 : StrC B w v2 S.search) (hd1 : db ≠ 1) (hd2 : db ≠ 2) :
    Calls Tryz.prog 36 #[.agg #[.int .i64 db, .string nm, .string pr, .int .i64 po], .agg #[v1, v2, .int .i64 S.dots, .int .i64 S.tmo, .int .i64 S.att, .bool S.rot]] w
      (QuesR w [] []) := by
  obtain ⟨p1, c1, e1⟩ := strc_shape h1
  obtain ⟨p2, c2, e2⟩ := strc_shape h2
  have hb1 : Below w.heap.size w ((w.alloc (.cells #[.int .i64 db, .string nm, .string pr, .int .i64 po] 43)).alloc (.cells #[.slice p1 S.servers.length c1, .slice p2 S.search.length c2, .int .i64 S.dots, .int .i64 S.tmo, .int .i64 S.att, .bool S.rot] 109)) := by
    have := (Below.refl w.heap.size w).alloc (Nat.le_refl _) (.cells #[.int .i64 db, .string nm, .string pr, .int .i64 po] 43)
    exact this.alloc this.size _
  have HB1 := Lib.hid hb1
  have hn1 : (db == 1) = false := beq_eq_false_iff_ne.2 hd1
  have hn2 : (db == 2) = false := beq_eq_false_iff_ne.2 hd2
  subst e1 e2
  clear h1 h2 hb1
  go_enter Tryz.func36, Tryz.ntmps36
  go_wp2
  go_ret2
  exact ⟨_, _, rfl, ⟨none, 0, rfl, Nat.le_refl _, by decide, fun i x hx => by simp at hx⟩, ⟨none, 0, rfl, Nat.le_refl _, by decide, fun i x hx => by simp at hx⟩, HB1.out⟩
end
end Go.Proofs.YtogdkmkganpaaaaGreatDoor

namespace Go.Proofs.YtogdkmkganpaaaaGreatDoor
open Go.RowKit Go.Extern.Stop Go.Stop Go.Extern Go.Lib
/-- An error: a code, wrapped for these sources, the outermost first. -/
def ErrS (w : World) : List ByteArray → Int → Value → Prop
  | [], c, v => v = .iface 79 (.int .i64 c)
  | s :: L, c, v => ∃ b u, v = .iface 185 (.pointer (some ⟨b, 0, none⟩)) ∧ w.heap[b]? = some (.cells #[.string s, u] 188 (0, 0)) ∧ ErrS w L c u
theorem ErrS.iface {w : World} {c : Int} {v : Value} : ∀ {L : List ByteArray}, ErrS w L c v → ∃ t u, v = .iface t u
  | [], h => ⟨_, _, h⟩
  | s :: L, ⟨b, u, h, _⟩ => ⟨_, _, h⟩
theorem ErrS.same {w w' : World} {c : Int} (hh : ∀ b, b < w.heap.size → w'.heap[b]? = w.heap[b]?) : ∀ {L : List ByteArray} {v : Value}, ErrS w L c v → ErrS w' L c v
  | [], v, h => h
  | s :: L, v, ⟨b, u, h, hb, hu⟩ => ⟨b, u, h, (hh b (Array.getElem?_eq_some_iff.1 hb).1).trans hb, ErrS.same hh hu⟩
theorem ErrS.below {w w' : World} {c : Int} {L : List ByteArray} {v : Value} (h : ErrS w L c v) (hb : Below w.heap.size w w') : ErrS w' L c v := h.same hb.block
theorem ErrS.alloc {w : World} {c : Int} {L : List ByteArray} {v : Value} (h : ErrS w L c v) (o : Obj) : ErrS (w.alloc o) L c v := h.below ((Below.refl _ _).alloc (Nat.le_refl _) o)
theorem lt_of {w : World} {b : Nat} {o : Obj} (h : w.heap[b]? = some o) : b < w.heap.size := (Array.getElem?_eq_some_iff.1 h).1
/-! ### nil, and not. -/
theorem nilE (t : TypeId) (x : Value) (w : World) : (binOp .eql 75 (.iface t x) .nilIface).run Tryz.prog w = .ok (.bool false) w := run_eql_iface_nil w _ (by kernel_rfl) _ _
theorem nilNe (t : TypeId) (x : Value) (w : World) : (binOp .neq 75 (.iface t x) .nilIface).run Tryz.prog w = .ok (.bool true) w := run_neq_iface_nil w _ (by kernel_rfl) _ _
/-! ### Assertions on errors. -/
theorem asCC (v : Value) (x : TypeId) (w : World) : (Instr.typeAssert (.iface 79 v) x 79 true).run Tryz.prog w = .ok (.tuple #[v, .bool true]) w := by kernel_rfl
theorem asSC (v : Value) (x : TypeId) (w : World) : (Instr.typeAssert (.iface 185 v) x 79 true).run Tryz.prog w = .ok (.tuple #[.int .i64 0, .bool false]) w := by kernel_rfl
theorem asSW (v : Value) (x : TypeId) (w : World) : (Instr.typeAssert (.iface 185 v) x 190 true).run Tryz.prog w = .ok (.tuple #[.iface 185 v, .bool true]) w := run_typeAssert_hasB Tryz.underlying190 (by kernel_rfl) v x w
theorem asCW (v : Value) (x : TypeId) (w : World) : (Instr.typeAssert (.iface 79 v) x 190 true).run Tryz.prog w = .ok (.tuple #[.nilIface, .bool false]) w := run_typeAssert_lacksB Tryz.underlying190 (by kernel_rfl) (by kernel_rfl) v x w
theorem metUn (n : Nat) (v : Value) (w : World) : (Go.method (n + 1) 185 v "Unwrap").run Tryz.prog w = .ok (276, v) w := by kernel_rfl
theorem unS (b : Nat) (s : ByteArray) (u : Value) (w : World) (h : w.heap[b]? = some (.cells #[.string s, u] 188 (0, 0))) :
    Calls Tryz.prog 276 #[.pointer (some ⟨b, 0, none⟩)] w fun e w' => e = .returned u ∧ w = w' := by
  have k1 : w.cell? ⟨b, 1, none⟩ = some u := by simp [World.cell?, h]
  clear h
  go_enter Tryz.func276, Tryz.ntmps276
  go_wp2
  go_ret
  exact ⟨rfl, rfl⟩
set_option maxHeartbeats 1000000 in
set_option maxRecDepth 100000 in
theorem is0_any (w : World) (L0 : List ByteArray) (k c : Int) (v : Value) (h : ErrS w L0 k v) (hl : L0.length < 15) :
    Calls Tryz.prog 60 #[v, .int .i64 c] w fun e w' => e = .returned (.bool (decide (k = c))) ∧ w = w' := by
  have HE := Lib.hid h
  clear h
  go_enter Tryz.func60, Tryz.ntmps60
  go_wp2
  go_loopw [0, 5] (fun v iv wr => ∃ (i : Nat) (L : List ByteArray), iv = .int .i64 i ∧ wr = w ∧ ErrS w L k v ∧ i + L.length < 15) (fun _ iv _ => 20 - (intOf iv).toNat)
  case atStart => exact ⟨0, L0, rfl, rfl, HE.out, by omega⟩
  case round =>
    obtain ⟨i, L, rfl, rfl, hE, hlen⟩ := hrel
    have n1 := nilNe
    have hi2 : (i : Int) < 20 := by omega
    cases L with
    | nil =>
      obtain rfl := hE
      have t1 := asCC
      have t2 := asCW
      by_cases hk : k = c
      · subst hk
        have hq : (k == k) = true := by simp
        go_wp2
        go_ret
        exact ⟨by simp, rfl⟩
      · have hq : (k == c) = false := by simpa using hk
        go_wp2
        go_ret
        exact ⟨by simp [hk], rfl⟩
    | cons s L =>
      obtain ⟨b, u, rfl, hb, hu⟩ := hE
      obtain ⟨t, x, rfl⟩ := hu.iface
      have t1 := asSC
      have t2 := asSW
      have m1 := metUn
      have HU := Lib.hid (unS _ _ _ _ hb)
      have HUu := Lib.hid hu
      have HL : Hid (i + (L.length + 1) < 15) := Lib.hid hlen
      clear hb hu hlen
      go_wp2_with (go_at_call 276; refine HU.out.mono ?_; rintro e w2 ⟨rfl, rfl⟩)
      go_roundw
      case rel => exact ⟨i + 1, L, by go_num, trivial, HUu.out, by have := HL.out; omega⟩
      case measure => have := HL.out; simp [intOf]; omega
def codesL : List Int := [1, 3, 4, 7, 5, 6, 8, 9, 10, 11]
/-- The code that the laws' own Code tells of a code. -/
def codeV (k : Int) : Int := if k ∈ codesL then k else 2
theorem codeV_at {k : Int} {i : Nat} (hi : i < 10) (h : k = codesL.getD i 0) : codeV k = k := by
  subst h
  revert hi
  revert i
  decide
theorem codeV_none {k : Int} (h : ∀ i, i < 10 → ¬ k = codesL.getD i 0) : codeV k = 2 := by
  unfold codeV
  rw [if_neg]
  intro hm
  simp only [codesL, List.mem_cons, List.not_mem_nil, or_false] at hm
  have g := fun i hi => h i hi
  rcases hm with e | e | e | e | e | e | e | e | e | e
  · exact h 0 (by decide) e
  · exact h 1 (by decide) e
  · exact h 2 (by decide) e
  · exact h 3 (by decide) e
  · exact h 4 (by decide) e
  · exact h 5 (by decide) e
  · exact h 6 (by decide) e
  · exact h 7 (by decide) e
  · exact h 8 (by decide) e
  · exact h 9 (by decide) e
set_option maxHeartbeats 1000000 in
set_option maxRecDepth 100000 in
theorem code0_any (w : World) (L : List ByteArray) (k : Int) (v : Value) (h : ErrS w L k v) (hl : L.length < 15) :
    Calls Tryz.prog 26 #[v] w fun e w' => e = .returned (.int .i64 (codeV k)) ∧ Below w.heap.size w w' := by
  obtain ⟨t, x, rfl⟩ := h.iface
  have hcell : ∀ j : Nat, j < 10 → (w.alloc (.cells #[.int .i64 1, .int .i64 3, .int .i64 4, .int .i64 7, .int .i64 5, .int .i64 6, .int .i64 8, .int .i64 9, .int .i64 10, .int .i64 11] 79)).cell? ⟨w.heap.size, j, none⟩ = some (.int .i64 (codesL.getD j 0)) := fun j hj => by
    rw [World.cell?_alloc_new]
    match j, hj with
    | 0, _ => rfl
    | 1, _ => rfl
    | 2, _ => rfl
    | 3, _ => rfl
    | 4, _ => rfl
    | 5, _ => rfl
    | 6, _ => rfl
    | 7, _ => rfl
    | 8, _ => rfl
    | 9, _ => rfl
  have HC := Lib.hid hcell
  have HI : Hid (∀ c o, Calls Tryz.prog 60 #[.iface t x, .int .i64 c] (w.alloc o) fun e w' => e = .returned (.bool (decide (k = c))) ∧ w.alloc o = w') := Lib.hid (fun c o => is0_any (w.alloc o) L k c _ (h.alloc o) hl)
  have n1 := nilE
  clear hcell h hl
  go_enter Tryz.func26, Tryz.ntmps26
  go_wp2
  go_loopw [4] (fun iv wr => ∃ i : Nat, i ≤ 10 ∧ iv = .int .i64 i ∧ wr = w.alloc (.cells #[.int .i64 1, .int .i64 3, .int .i64 4, .int .i64 7, .int .i64 5, .int .i64 6, .int .i64 8, .int .i64 9, .int .i64 10, .int .i64 11] 79) ∧ ∀ j, j < i → ¬ k = codesL.getD j 0) (fun iv _ => 10 - (intOf iv).toNat)
  case atStart => exact ⟨0, by omega, rfl, rfl, fun j hj => by omega⟩
  case round =>
    obtain ⟨i, hi, rfl, rfl, hno⟩ := hrel
    have HN := Lib.hid hno
    clear hno
    by_cases hlt : i < 10
    · have hc := HC.out i hlt
      by_cases hk : k = codesL.getD i 0
      · have HV := Lib.hid (codeV_at hlt hk)
        have HK := Lib.hid hk
        have hd : decide (k = codesL.getD i 0) = true := by simpa using hk
        clear hk
        rw [← HK.out] at hc hd
        go_wp2_with (go_at_call 60; refine (HI.out _ _).mono ?_; rintro e w2 ⟨rfl, hw⟩; obtain rfl := hw)
        go_ret
        exact ⟨by rw [HV.out]; rfl, (Below.refl _ _).alloc (Nat.le_refl _) _⟩
      · have hd : decide (k = codesL.getD i 0) = false := by simpa using hk
        have HK := Lib.hid hk
        clear hk
        generalize hg : codesL.getD i 0 = q at hc hd
        go_wp2_with (go_at_call 60; refine (HI.out _ _).mono ?_; rintro e w2 ⟨rfl, hw⟩; obtain rfl := hw)
        go_roundw
        case rel => exact ⟨i + 1, by omega, by go_num, trivial, fun j hj => by
          by_cases hji : j < i
          · exact HN.out j hji
          · obtain rfl : j = i := by omega
            exact HK.out⟩
        case measure => simp [intOf]; omega
    · obtain rfl : i = 10 := by omega
      have HV := Lib.hid (codeV_none (k := k) HN.out)
      go_wp2
      go_ret
      exact ⟨by rw [HV.out]; rfl, (Below.refl _ _).alloc (Nat.le_refl _) _⟩
theorem wrap_at (w : World) (s : ByteArray) (t : TypeId) (x : Value) :
    Calls Tryz.prog 262 #[.string s, .iface t x] w fun e w' => e = .returned (.iface 185 (.pointer (some ⟨w.heap.size, 0, none⟩))) ∧ w' = w.alloc (.cells #[.string s, .iface t x] 188) := by
  have n1 := nilE
  go_enter Tryz.func262, Tryz.ntmps262
  go_wp2
  go_ret
  exact ⟨rfl, rfl⟩
theorem ErrS.wrap {w : World} {L : List ByteArray} {k : Int} {v : Value} (h : ErrS w L k v) (s : ByteArray) : ErrS (w.alloc (.cells #[.string s, v] 188)) (s :: L) k (.iface 185 (.pointer (some ⟨w.heap.size, 0, none⟩))) :=
  ⟨w.heap.size, v, rfl, heap_alloc_new w _, h.alloc _⟩
end Go.Proofs.YtogdkmkganpaaaaGreatDoor

