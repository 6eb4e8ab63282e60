/- Contracts: Poll that is done. -/
import Derived.Test.YtpdkjifalgeodaaSt
namespace Go.Proofs.Ytpdkjifalgeodaa
open Go.RowKit Go.Extern.Stop Go.Stop Go.Extern Go.Lib Go.Tx
theorem _root_.Go.Tx.StrC.base {B B2 : Nat} {w : World} {v : Value} {ws : List (List UInt8)} (h : StrC B w v ws) (hb : B2 ≤ B) : StrC B2 w v ws := ownsRow_base_a h hb
theorem _root_.Go.Tx.StrC.below {B : Nat} {w w' : World} {v : Value} {ws : List (List UInt8)} (h : StrC B w v ws) (hb : Below w.heap.size w w') : StrC B w' v ws := own_below h hb
theorem _root_.Go.Tx.StrC.keep {B : Nat} {w w' : World} {v : Value} {ws : List (List UInt8)} (h : StrC B w v ws) (hh : ∀ (k : Nat) cs fr, w.heap[k]? = some (.cells cs 9 fr) → w'.heap[k]? = w.heap[k]?) : StrC B w' v ws := by
  refine ⟨h.1, ?_⟩
  rcases h.2 with h | ⟨g', cap, cur, h1, h2, h3, h4⟩
  · exact .inl h
  · exact .inr ⟨g', cap, cur, h1, h2, (hh _ _ _ h3).trans h3, h4⟩
/-- The texts of an answer, and the files: read in every world in which what lay ahead is as it was, but for the question's block. -/
structure PollT (w : World) (b : Nat) (a : PollA) (ns as_ : List (List UInt8)) (ds : List (ByteArray × Int)) : Prop where
  tn : ∀ W, w.heap.size ≤ W.heap.size → (∀ k, k < w.heap.size → k ≠ b → W.heap[k]? = w.heap[k]?) → ∃ B, StrC B W (.slice a.p1 a.n1 a.c1) ns
  ta : ∀ W, w.heap.size ≤ W.heap.size → (∀ k, k < w.heap.size → k ≠ b → W.heap[k]? = w.heap[k]?) → ∃ B, StrC B W (.slice a.p2 a.n2 a.c2) as_
  td : ∀ W, w.heap.size ≤ W.heap.size → (∀ k, k < w.heap.size → k ≠ b → W.heap[k]? = w.heap[k]?) → DepS W a.dp a.dn a.dc ds
  nl : ns.length ≤ 1000
  al : as_.length ≤ 1000
  dl : a.dn ≤ 1000
set_option maxHeartbeats 4000000 in
set_option maxRecDepth 100000 in
theorem poll_done (s : ByteArray) (w : World) (tv : TypeId) (x : Value) (b : Nat) (cs : Array Value) (t : TypeId) (a : PollA) (ns as_ : List (List UInt8)) (ds : List (ByteArray × Int)) (ha : a.done = true) (hbw : b < w.heap.size) (hT : PollT w b a ns as_ ds)
    (HG : ∀ W, PollG w W (.iface tv x) → Calls Try.prog 25 #[.string s, .func (.func 34) #[] #[.pointer (some ⟨w.heap.size, 0, none⟩), .pointer (some ⟨w.heap.size + 2, 0, none⟩), .pointer (some ⟨w.heap.size + 3, 0, none⟩), .pointer (some ⟨w.heap.size + 4, 0, none⟩), .pointer (some ⟨w.heap.size + 5, 0, none⟩)]] W
      fun e w2 => e = .returned .nilIface ∧ PollO w w2 b cs t a) :
    Calls Try.prog 15 #[.string s, .iface tv x] w fun e w' => (∃ v1 v2 p' c' er, e = .returned (.tuple #[.agg #[v1, v2, .int .i64 a.po, .int .i64 a.li], .slice p' a.dn c', er, .bool true]) ∧ StrC w.heap.size w' v1 ns ∧ StrC w.heap.size w' v2 as_ ∧ DepS w' p' a.dn c' ds ∧ ErrO w' (a.err.map fun y => (s :: y.1, y.2)) er) ∧ w'.heap[b]? = some (.cells cs t (0, 0)) ∧ ButL w.heap.size [b] w w' := by
  obtain ⟨W, hW, hPG⟩ := six_new w (.iface tv x)
  have HG2 := Lib.hid (HG W hPG)
  have HW := Lib.hid hW
  have HBw := Lib.hid hbw
  have HA := Lib.hid ha
  have HT := Lib.hid hT
  have hmf := mfn
  have n1 := neqN
  clear HG hPG hW ha hbw hT
  go_enter Try.func15, Try.ntmps15
  go_upto_region 5 with (fail)
  rw [HW.out]
  go_upto_region 10 with (go_at_call 25; refine HG2.out.mono ?_; rintro e w2 ⟨rfl, ho⟩; have kB := cell1 ho.hB; rw [HA.out] at kB; have HO := Lib.hid ho; clear ho)
  clear kB
  have k0 := cellJ HO.out.hA (j := 0) rfl
  have k1 := cellJ HO.out.hA (j := 1) rfl
  have HCn : Hid (∀ W, ButL w.heap.size [b] w W → Calls Try.prog 35 #[.slice a.p1 a.n1 a.c1] W fun e w' => ∃ q d, e = .returned (.slice q ns.length d) ∧ StrC W.heap.size w' (.slice q ns.length d) ns ∧ Below W.heap.size W w') := Lib.hid (fun W hW => by
    obtain ⟨B, hs⟩ := HT.out.tn W hW.size (fun k hk hn => hW.block k hk (by rw [List.mem_singleton]; exact hn))
    refine (cloneS_any B _ ns W hs (by have := HT.out.nl; omega)).mono ?_
    rintro e w' ⟨v', he, hr, hb⟩
    obtain ⟨q, d, rfl⟩ := hr.shape
    exact ⟨q, d, he, hr, hb⟩)
  have HCa : Hid (∀ W, ButL w.heap.size [b] w W → Calls Try.prog 35 #[.slice a.p2 a.n2 a.c2] W fun e w' => ∃ q d, e = .returned (.slice q as_.length d) ∧ StrC W.heap.size w' (.slice q as_.length d) as_ ∧ Below W.heap.size W w') := Lib.hid (fun W hW => by
    obtain ⟨B, hs⟩ := HT.out.ta W hW.size (fun k hk hn => hW.block k hk (by rw [List.mem_singleton]; exact hn))
    refine (cloneS_any B _ as_ W hs (by have := HT.out.al; omega)).mono ?_
    rintro e w' ⟨v', he, hr, hb⟩
    obtain ⟨q, d, rfl⟩ := hr.shape
    exact ⟨q, d, he, hr, hb⟩)
  obtain ⟨p1, n1, c1, p2, n2, c2, po, li, dp, dn, dc, err, done⟩ := a
  dsimp only at *
  go_cut [] from 23 to 30 (fun wx => ∃ q1 d1 q2 d2, wx.heap[w.heap.size + 2]? = some (.cells #[.slice q1 ns.length d1, .slice q2 as_.length d2, .int .i64 po, .int .i64 li] 25 (0, 0)) ∧ StrC w2.heap.size wx (.slice q1 ns.length d1) ns ∧ StrC w2.heap.size wx (.slice q2 as_.length d2) as_ ∧ ButL w2.heap.size [w.heap.size + 2] w2 wx)
  case first =>
    go_region_law (first
      | (go_simp; go_at_call 35; with_reducible refine (HCn.out _ ?_).mono ?_; exact HO.out.but.drew; (rintro e w3 ⟨q1, d1, rfl, hr1, hb1⟩; have HB1 : Hid (Below w2.heap.size w2 w3) := Lib.hid (keepE (Below.refl _ _).drew hb1); have HR1 : Hid (StrC w2.heap.size w3 (.slice q1 ns.length d1) ns) := Lib.hid (hr1.base (Below.refl w2.heap.size w2).drew.size); have k2 : w3.cell? ⟨w.heap.size + 2, 1, none⟩ = some (.slice p2 n2 c2) := cellJ ((HB1.out.block _ (lt_of HO.out.hA)).trans HO.out.hA) rfl; clear hr1 hb1))
      | (go_simp; go_at_call 35; with_reducible refine (HCa.out _ ?_).mono ?_; exact HO.out.but.trans (by have := HO.out.size; omega) HB1.out; (rintro e w4 ⟨q2, d2, rfl, hr2, hb2⟩; have HB2 : Hid (Below w2.heap.size w2 w4) := Lib.hid (keepE HB1.out hb2); have HR1b : Hid (StrC w2.heap.size w4 (.slice q1 ns.length d1) ns) := Lib.hid (HR1.out.below hb2); have HR2 : Hid (StrC w2.heap.size w4 (.slice q2 as_.length d2) as_) := Lib.hid (hr2.base HB1.out.size); have HKa : Hid (w4.heap[w.heap.size + 2]? = some (.cells #[.slice p1 n1 c1, .slice p2 n2 c2, .int .i64 po, .int .i64 li] 25 (0, 0))) := Lib.hid ((HB2.out.block _ (lt_of HO.out.hA)).trans HO.out.hA); have k3 : w4.cell? ⟨w.heap.size + 2, 0, none⟩ = some (.slice p1 n1 c1) := cellJ HKa.out rfl; have k4 : w4.cell? ⟨w.heap.size + 2, 1, none⟩ = some (.slice p2 n2 c2) := cellJ HKa.out rfl; have g3 : w4.frozen? ⟨w.heap.size + 2, 0, none⟩ = false := freeJ HKa.out 0; have g4 : w4.frozen? ⟨w.heap.size + 2, 1, none⟩ = false := freeJ HKa.out 1; clear hr2 hb2)))
    all_goals (try go_wp2_with fail)
    all_goals go_meet
    all_goals exact ⟨q1, d1, q2, d2, setJ (setJ HKa.out), (HR1b.out.keep (fun k c fr hk => setN (ne_of_ty hk HKa.out (by decide)))).keep (fun k c fr hk => setN (fun e => by rw [e] at hk; rw [setJ HKa.out] at hk; injection hk with hk; injection hk with _ hk _; exact absurd hk (by decide))), (HR2.out.keep (fun k c fr hk => setN (ne_of_ty hk HKa.out (by decide)))).keep (fun k c fr hk => setN (fun e => by rw [e] at hk; rw [setJ HKa.out] at hk; injection hk with hk; injection hk with _ hk _; exact absurd hk (by decide))), ((ButL.of_below HB2.out).set (.inl (List.mem_singleton.2 rfl)) _ _).set (.inl (List.mem_singleton.2 rfl)) _ _⟩
  case rest =>
    obtain ⟨q1, d1, q2, d2, hA, hs1, hs2, hbl⟩ := hcut
    obtain ⟨er, hE, her⟩ := HO.out.hE
    have hBc : ButL w.heap.size [b] w wc := HO.out.but.but hbl (by have := HO.out.size; omega) (fun k hk => .inr (by rw [List.mem_singleton] at hk; omega))
    have oth : ∀ k, k < w2.heap.size → k ≠ w.heap.size + 2 → wc.heap[k]? = w2.heap[k]? := fun k hk hn => hbl.block k hk (by rw [List.mem_singleton]; exact hn)
    have hz := HO.out.size
    have hD := (oth _ (by omega) (by omega)).trans HO.out.hD
    have hE2 := (oth _ (by omega) (by omega)).trans hE
    have hR := (oth _ (by omega) (by omega)).trans HO.out.hR
    have hop := (oth b (by have := HBw.out; omega) (by have := HBw.out; omega)).trans HO.out.op
    have her2 : ErrO wc err er := her.keep (fun k c fr hk => oth k (lt_of hk) (ne_of_ty hk HO.out.hA (by decide)))
    have HS0 : Hid (∀ W, ButL wc.heap.size [w.heap.size + 1] wc W → W.cell? ⟨w.heap.size + 2, 0, none⟩ = some (.slice q1 ns.length d1) ∧ W.cell? ⟨w.heap.size + 2, 1, none⟩ = some (.slice q2 as_.length d2) ∧ W.cell? ⟨w.heap.size + 2, 2, none⟩ = some (.int .i64 po) ∧ W.cell? ⟨w.heap.size + 2, 3, none⟩ = some (.int .i64 li) ∧ W.cell? ⟨w.heap.size + 3, 0, none⟩ = some (.slice dp dn dc) ∧ W.cell? ⟨w.heap.size + 4, 0, none⟩ = some er) := Lib.hid (fun W hW => by
      have xA := (hW.block _ (lt_of hA) (by rw [List.mem_singleton]; omega)).trans hA
      have xD := (hW.block _ (lt_of hD) (by rw [List.mem_singleton]; omega)).trans hD
      have xE := (hW.block _ (lt_of hE2) (by rw [List.mem_singleton]; omega)).trans hE2
      exact ⟨cellJ xA rfl, cellJ xA rfl, cellJ xA rfl, cellJ xA rfl, cell1 xD, cell1 xE⟩)
    have HCd : Hid (∀ W, ButL w.heap.size [b] w W → Calls Try.prog 36 #[.slice dp dn dc] W fun e w' => ∃ p' c', e = .returned (.slice p' dn c') ∧ DepS w' p' dn c' ds ∧ (0 < dn → ∃ g, p' = some ⟨g, 0, none⟩ ∧ W.heap.size ≤ g) ∧ Below W.heap.size W w') := Lib.hid (fun W hW => cloneD_any dp dn dc ds W (HT.out.td W hW.size (fun k hk hn => hW.block k hk (by rw [List.mem_singleton]; exact hn))) HT.out.dl)
    have HWr : Hid (∀ W, ErrO W err er → Calls Try.prog 28 #[.string s, er] W fun e w' => ∃ er2, e = .returned er2 ∧ ErrO w' (err.map fun y => (s :: y.1, y.2)) er2 ∧ Below W.heap.size W w') := Lib.hid (fun W hW => by
      cases err with
      | none =>
        obtain rfl : er = .nilIface := hW
        refine (wrap_nil W s).mono ?_
        rintro e w' ⟨he, rfl⟩
        exact ⟨_, he, rfl, Below.refl _ _⟩
      | some y =>
        obtain ⟨t1, x1, rfl⟩ := ErrS.iface hW
        refine (wrap_at W s _ _).mono ?_
        rintro e w' ⟨he, rfl⟩
        exact ⟨_, he, ErrS.wrap hW s, al_bel _ _⟩)
    have hsh := her2.shape
    have HBc := Lib.hid hBc
    have HEr := Lib.hid her2
    have H1 := Lib.hid hs1
    have H2 := Lib.hid hs2
    have HR := Lib.hid hR
    have Hop := Lib.hid hop
    have HZ : Hid (w.heap.size + 6 ≤ wc.heap.size) := Lib.hid (by have := hbl.size; omega)
    have HZ2 : Hid (w.heap.size ≤ w2.heap.size) := Lib.hid (by omega)
    have HBd : Hid (ButL wc.heap.size [w.heap.size + 1] wc wc.drew) := Lib.hid (ButL.of_below (Below.refl _ _).drew)
    clear hA hs1 hs2 hbl hE her hBc oth hz hD hE2 hR hop her2
    go_upto_region 11 with (fail)
    go_region_held3 (fun W => W.cell? ⟨w.heap.size + 2, 0, none⟩ = some (.slice q1 ns.length d1) ∧ W.cell? ⟨w.heap.size + 2, 1, none⟩ = some (.slice q2 as_.length d2) ∧ W.cell? ⟨w.heap.size + 2, 2, none⟩ = some (.int .i64 po) ∧ W.cell? ⟨w.heap.size + 2, 3, none⟩ = some (.int .i64 li) ∧ W.cell? ⟨w.heap.size + 3, 0, none⟩ = some (.slice dp dn dc) ∧ W.cell? ⟨w.heap.size + 4, 0, none⟩ = some er) (first | with_reducible exact HS0.out _ HBd.out | with_reducible exact HS0.out _ HB5.out | with_reducible exact HS0.out _ HB6.out | exact HS0.out _ (but_set4 HB6.out (.inl (List.mem_singleton.2 rfl)) _ _ _ _)) (first
      | (go_at_call 36; refine (HCd.out _ ?_).mono ?_; exact HBc.out.drew; rintro e w5 ⟨p5, c5, rfl, hd5, hg5, hb5⟩; have HD5 := Lib.hid hd5; have HG5 : Hid (0 < dn → ∃ g, p5 = some ⟨g, 0, none⟩ ∧ wc.heap.size ≤ g) := Lib.hid hg5; have HW5 : Hid (Below wc.heap.size wc w5) := Lib.hid (keepE (Below.refl wc.heap.size wc).drew hb5); have HB5 : Hid (ButL wc.heap.size [w.heap.size + 1] wc w5) := Lib.hid (ButL.of_below HW5.out); clear hd5 hg5 hb5)
      | (go_at_call 28; refine (HWr.out _ ?_).mono ?_; exact HEr.out.below HW5.out; rintro e w6 ⟨er2, rfl, he6, hb6⟩; have HE6 := Lib.hid he6; have HD6 := Lib.hid (HD5.out.below hb6); have HW6 : Hid (Below wc.heap.size wc w6) := Lib.hid (keepE HW5.out hb6); have HB6 : Hid (ButL wc.heap.size [w.heap.size + 1] wc w6) := Lib.hid (ButL.of_below HW6.out); have HR6 : Hid (w6.heap[w.heap.size + 1]? = some (.cells #[.slice none 0 0, .slice none 0 0, .int .i64 0, .int .i64 0] 25 (0, 0))) := Lib.hid ((HW6.out.block _ (lt_of HR.out)).trans HR.out); have r0 := cellJ HR6.out (j := 0) rfl; have r1 := cellJ HR6.out (j := 1) rfl; have r2 := cellJ HR6.out (j := 2) rfl; have r3 := cellJ HR6.out (j := 3) rfl; have f0 := freeJ HR6.out 0; have f1 := freeJ HR6.out 1; have f2 := freeJ HR6.out 2; have f3 := freeJ HR6.out 3; clear he6 hb6))
    all_goals (try go_wp2_with fail)
    refine bodyPost_ret (results_row4 rfl _ _ (w.heap.size + 1) _ _ _ _ rfl (set4_at HR6.out _ _ _ _) Try.underlying25 rfl sz_ans) rfl ?_
    refine ⟨⟨_, _, p5, c5, er2, rfl, ((H1.out.below HW6.out).keep (fun k c fr hk => set4_ne (ne_of_ty hk HR6.out (by decide)) _ _ _ _)).base HZ2.out, ((H2.out.below HW6.out).keep (fun k c fr hk => set4_ne (ne_of_ty hk HR6.out (by decide)) _ _ _ _)).base HZ2.out, HD6.out.same (fun h0 a0 e0 => ?_) (by simp only [set_size]; exact Nat.le_refl _), HE6.out.keep (fun k c fr hk => set4_ne (ne_of_ty hk HR6.out (by decide)) _ _ _ _)⟩, (set4_ne (by have := HBw.out; omega) _ _ _ _).trans ((HW6.out.block _ (lt_of Hop.out)).trans Hop.out), but_set4 (HBc.out.trans (by have := HZ.out; omega) HW6.out) (.inr (by omega)) _ _ _ _⟩
    obtain ⟨g5, e5, hg5⟩ := HG5.out h0
    rw [e5] at e0
    injection e0 with e0
    subst e0
    exact set4_ne (by have := HZ.out; show g5 ≠ _; omega) _ _ _ _
end Go.Proofs.Ytpdkjifalgeodaa
