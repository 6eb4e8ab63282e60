/- SourceRegistry: the walk. -/
import Derived.Test.YtpdkjifalgeodaaScf
namespace Go.Proofs.Ytpdkjifalgeodaa
open Go.RowKit Go.Extern.Stop Go.Stop Go.Extern Go.Lib Go.Tx
/-- What the law keeps between the rounds. -/
structure RI (w wr : World) (r i : Nat) (nv : Value) (L : List (List UInt8)) (D : DataW Value) : Prop where
  reg : RegS w.heap.size wr i r D
  keys : KeysAre D L
  names : StrC w.heap.size wr nv L
  len : L.length ≤ i
  bel : Below w.heap.size w wr
theorem RI.below {w wr w' : World} {r i : Nat} {nv : Value} {L : List (List UInt8)} {D : DataW Value} (h : RI w wr r i nv L D) (hb : Below wr.heap.size wr w') : RI w w' r i nv L D :=
  ⟨h.reg.below hb, h.keys, own_below h.names hb, h.len, keepE h.bel hb⟩
theorem cutB_len (s : ByteArray) : (cutB 20 s).size ≤ 20 := by
  unfold cutB
  show (List.take 20 _).toArray.size ≤ 20
  rw [List.size_toArray, List.length_take]
  omega
theorem metN (d : DefL) : ∃ tv, srcV d = .iface tv (defV d) ∧ ∀ n w, (Go.method (n + 2) tv (defV d) "Name").run Try.prog w = .ok (86, defV d) w := by
  cases h : d.wild
  · exact ⟨_, srcV_able h, fun n w => metNA n d w⟩
  · exact ⟨_, srcV_wild h, fun n w => metNP (n + 1) _ w⟩
theorem str_nil {s : ByteArray} (h : s.data.toList = []) : s = ⟨#[]⟩ := by
  apply ByteArray.ext
  exact Array.toList_inj.1 h
theorem less_of (x y : List UInt8) : Op.bytesLess (ByteArray.toList ⟨x.toArray⟩) (ByteArray.toList ⟨y.toArray⟩) = decide (x < y) := by
  rw [Go.Lib.toList_data, Go.Lib.toList_data]
  exact bytesLess_eq x y
/-- The cells of one text that was built. -/
theorem Below.bumped {B : Nat} {w w' : World} {g : Option Nat} (h : w.grownBy w' g) (hg : ∀ x, g = some x → B ≤ x) (hB : B ≤ w.heap.size) : Below B w w' :=
  ⟨h.os, h.tape, h.output, h.size, fun k hk => h.block k (by omega) (fun e => by have := hg k e.symm; omega)⟩
theorem belN {B : Nat} {a w : World} (h : Below B a w) (n : Nat) : Below B a (w.drewN n) := h.trans ⟨rfl, rfl, rfl, Nat.le_refl _, fun _ _ => rfl⟩
theorem own_some {w : World} {B : Nat} {e : TypeId} {v : Value} {n : Nat} {xs : List Value} (h : w.ownsRow B e 1 v n xs) (hn : 0 < n) : ∃ g c, v = .slice (some ⟨g, 0, none⟩) n c ∧ ∀ (j : Nat) u, xs[j]? = some u → w.cell? ((⟨g, 0, none⟩ : Addr).add j) = some u := by
  have hl := h.1
  rcases h.2 with ⟨_, h0⟩ | ⟨g, cap, cur, rfl, a2, a3, a4, a5, a6, a7⟩
  · omega
  · refine ⟨g, cap, rfl, fun j u hj => ?_⟩
    have ha : (⟨g, 0, none⟩ : Addr).add j = ⟨g, j, none⟩ := by unfold Addr.add; split <;> simp_all
    rw [ha]
    have hj2 := (List.getElem?_eq_some_iff.1 hj).1
    rw [World.ownsRow.cellAt h j (by omega)]
    exact hj
theorem one_cell {w : World} {h : Nat} {lb : List UInt8} {e : TypeId} (hA : w.heap[h]? = some (.cells #[.string ⟨lb.toArray⟩] e (0, 0))) : ∀ b, some (⟨h, 0, none⟩ : Addr) = some b → ∀ (j : Nat) u, [strV lb][j]? = some u → w.cell? (b.add j) = some u := by
  intro b hb j u hj
  cases hb
  match j, hj with
  | 0, hj =>
    cases hj
    exact cell1 hA
theorem one_drop {w : World} {h k : Nat} {lb : List UInt8} {L : List (List UInt8)} {e : TypeId} (hd : (L.drop k).length = k - k) (hA : w.heap[h]? = some (.cells #[.string ⟨lb.toArray⟩] e (0, 0))) : ∀ (j : Nat) u, (strV lb :: (L.drop k).map strV)[j]? = some u → w.cell? ((⟨h, 0, none⟩ : Addr).add j) = some u := by
  intro j u hj
  have hn : L.drop k = [] := List.eq_nil_of_length_eq_zero (by rw [hd]; omega)
  rw [hn] at hj
  exact one_cell hA _ rfl j u hj
/-- The name that the law asks for at its end. -/
abbrev nmL : List UInt8 := [110, 111, 32, 115, 117, 99, 104, 32, 111, 110, 101, 32, 97, 116, 32, 97, 108, 108]
theorem mem_step {x y : List UInt8} {l : List (List UInt8)} : decide (x ∈ l ++ [y]) = (decide (x ∈ l) || y == x) := by
  rw [Bool.eq_iff_iff]
  simp only [decide_eq_true_eq, Bool.or_eq_true, List.mem_append, List.mem_singleton, beq_iff_eq]
  exact ⟨fun h => h.imp id Eq.symm, fun h => h.imp id Eq.symm⟩
set_option maxHeartbeats 8000000 in
set_option maxRecDepth 100000 in
theorem sourceRegistry_walk (a : Option Addr) (n cap : Nat) (Ls : List DefX) (w : World) (hd : InDefs w a n cap Ls) :
    Calls Try.prog 4 #[.slice a n cap] w fun e w' => e = .returned (.bool true) ∧ Below w.heap.size w w' := by
  have HSx := Lib.hid begun12_any
  have e1 := ptrE
  have HD := Lib.hid hd
  have hml : n ≤ maxLen := Nat.le_trans hd.2.1 hd.2.2.1
  unfold maxLen at hml
  clear hd
  go_enter Try.func4, Try.ntmps4
  go_upto_region 9 with (first
    | (go_at_call 7; refine (HSx.out _).mono ?_; rintro e w1 ⟨rfl, hb⟩; have HB1 := Lib.hid hb; clear hb)
    | (go_at_call 19; refine (new_any _).mono ?_; rintro e W0 ⟨rfl, hW0⟩; have HI0 : Hid (RI w W0 w1.heap.size 0 (.slice none 0 0) [] (.map [])) := Lib.hid (by rw [hW0]; exact ⟨RegS.new _ _ HB1.out.size, KeysAre.nil, World.ownsRow_nil _ _ _ _, Nat.le_refl _, keepE HB1.out (al_bel _ _)⟩); clear hW0))
  generalize w1.heap.size = r at *
  go_loopw [5, 6] (fun nv iv wr => ∃ (i : Nat) (L : List (List UInt8)) (D : DataW Value), i ≤ n ∧ i ≤ 10 ∧ iv = .int .i64 i ∧ RI w wr r i nv L D) (fun _ iv _ => 10 - (intOf iv).toNat)
  case atStart => exact ⟨0, [], .map [], Nat.zero_le _, by decide, rfl, HI0.out⟩
  case round =>
    obtain ⟨i, L, D, hi, hi10, rfl, hI⟩ := hrel
    obtain ⟨p, c, rfl⟩ := hI.names.shape
    have HI := Lib.hid hI
    clear hI HI0
    by_cases hlt : i < n
    · by_cases hlt10 : i < 10
      · obtain ⟨x, hx⟩ : ∃ r, Ls[i]? = some r := ⟨_, List.getElem?_eq_getElem (by rw [HD.out.1]; exact hlt)⟩
        obtain ⟨b, off, rfl, hbl, hcell, hin⟩ := HD.out.2.2.2 i x hx
        have HCut : Hid (∀ W, Below w.heap.size w W → Calls Try.prog 8 #[.agg (defC x.d).toList.toArray] W fun e w' => ∃ d2, e = .returned (.agg (defC d2)) ∧ d2.label.size ≤ 20 ∧ Below W.heap.size W w') := Lib.hid (fun W hW => (cut12_of x.d x.ns x.as_ x.ds w W hin hW).mono (fun e w' ⟨d2, he, hl, _, hb⟩ => ⟨d2, he, by rw [hl]; exact cutB_len _, hb⟩))
        have HC : Hid (∀ W, Below w.heap.size w W → W.rangeAt b (off + i * 18) (defC x.d).toList) := Lib.hid (fun W hW k u hk => by
          rw [hW.cell (p := ⟨b, off + i * 18 + k, none⟩) hbl]
          exact hcell k u hk)
        have h18 : Hid ((Try.prog.info? 28).map (·.size) = some (defC x.d).toList.length) := Lib.hid (by rw [Array.length_toList]; exact sz_def x.d)
        have hii : (0 : Int) ≤ (i : Int) := by omega
        have him : (i : Int) < (n : Int) := by omega
        have hi3 : (i : Int) < 10 := by omega
        clear hcell hin hx
        generalize (defC x.d).toList = cs at *
        go_upto_region 12 with (first
          | (with_reducible refine wpList_load_mid rfl 28 _ rfl b (off + i * 18) rfl cs _ (HC.out _ HI.out.bel) Try.underlying28 rfl h18.out ?_)
          | (go_at_call 8; refine (HCut.out _ HI.out.bel).mono ?_; rintro e w2 ⟨d2, rfl, hlb, hb⟩; have HLb := Lib.hid hlb; have HI2 := Lib.hid (HI.out.below hb); have sz2 := sz_def d2; have H18 : Hid (zDef.size = (defC d2).size) := Lib.hid rfl; have H1c : Hid ((defC d2).all (·.oneCell') = true) := Lib.hid (defC_one d2); clear hlb hb)
          | (with_reducible show wpList _ _ _ (⟨none, _, _, _, _, _⟩ :: _) _ _; refine wpList_store_row rfl 28 _ _ rfl w2.heap.size (defC d2) rfl rfl 28 _ (heap_alloc_new w2 _) sz2 H18.out H1c.out ?_))
        obtain ⟨W3, hW3⟩ : ∃ W, (w2.alloc (.cells zDef 28)).setRow w2.heap.size (defC d2) = W := ⟨_, rfl⟩
        have hA3 : W3.heap[w2.heap.size]? = some (.cells (defC d2) 28 (0, 0)) := by rw [← hW3]; exact setRow_heap _ _ _ _ _ _ (heap_alloc_new w2 _)
        have hB3 : Below w2.heap.size w2 W3 := by
          have h := al_bel w2 (.cells zDef 28)
          rw [← hW3]
          exact ⟨h.os, h.tape, h.output, by rw [setRow_size]; exact h.size, fun k hk => (setRow_other _ _ _ _ (by omega)).trans (h.block k hk)⟩
        have HI3 := Lib.hid (HI2.out.below hB3)
        have HA3 := Lib.hid hA3
        rw [hW3]
        clear hW3 hA3 hB3 HI2
        generalize w2.heap.size = g at *
        try simp only [Act.put]
        have HMk : Hid (∀ W, Calls Try.prog 10 #[.agg (defC d2)] W fun e w' => e = .returned (srcV d2) ∧ w' = W.alloc (.cells (defC d2) 28)) := Lib.hid (make_any d2)
        by_cases hemp : d2.label.data.toList = []
        · have HPut : Hid (∀ W, Calls Try.prog 20 #[.pointer (some ⟨r, 0, none⟩), srcV d2] W fun e w' => e = .returned (.tuple #[]) ∧ Below W.heap.size W w') := Lib.hid (fun W => by
            obtain ⟨tv, hv⟩ := srcV_iface d2
            exact put_skip (srcV d2) (.inr ⟨tv, _, hv⟩) W r (by have := nameOf_any d2 W; rwa [str_nil hemp] at this))
          go_upto_region 13 with (first
            | (with_reducible refine wpList_load_row rfl 28 _ rfl g rfl 28 (defC d2) (0, 0) _ HA3.out Try.underlying28 rfl sz2 ?_)
            | (go_at_call 10; refine (HMk.out _).mono ?_; rintro e wm ⟨rfl, hwm⟩; have HBm : Hid (Below W3.heap.size W3 wm) := Lib.hid (by rw [hwm]; exact al_bel _ _); clear hwm)
            | (go_at_call 20; refine (HPut.out _).mono ?_; rintro e w5 ⟨rfl, hb⟩; have HB5 := Lib.hid (keepE HBm.out hb); clear hb))
          have hA5 := (HB5.out.block _ (lt_of HA3.out)).trans HA3.out
          have k0 : w5.cell? ⟨g, 0, none⟩ = some (.string ⟨#[]⟩) := by rw [← str_nil hemp]; exact cellJ hA5 (defC_at rfl)
          have HI5 := Lib.hid (HI3.out.below HB5.out)
          clear hA5
          go_wp2
          go_roundw
          case rel => exact ⟨i + 1, L, D, hlt, hlt10, by go_num, ⟨HI5.out.reg.mono (by omega), HI5.out.keys, HI5.out.names, by have := HI5.out.len; omega, HI5.out.bel⟩⟩
          case measure => simp [intOf]; omega
        · have HPut : Hid (∀ W, RI w W r i (.slice p L.length c) L D → Calls Try.prog 20 #[.pointer (some ⟨r, 0, none⟩), srcV d2] W fun e w' => e = .returned (.tuple #[]) ∧ RegS w.heap.size w' (i + 1) r (D.put (keyS d2.label) (.held (srcV d2))) ∧ PutF w.heap.size W w') := Lib.hid (fun W h => reg_put d2 W w.heap.size i r D h.reg (by omega) h.bel.size hemp (by have := HLb.out; unfold maxLen; omega))
          go_upto_region 13 with (first
            | (with_reducible refine wpList_load_row rfl 28 _ rfl g rfl 28 (defC d2) (0, 0) _ HA3.out Try.underlying28 rfl sz2 ?_)
            | (go_at_call 10; refine (HMk.out _).mono ?_; rintro e wm ⟨rfl, hwm⟩; have HBm : Hid (Below W3.heap.size W3 wm) := Lib.hid (by rw [hwm]; exact al_bel _ _); clear hwm)
            | (go_at_call 20; refine (HPut.out _ (HI3.out.below HBm.out)).mono ?_; rintro e w5 ⟨rfl, hr5, hp5⟩; have HR5 := Lib.hid hr5; have HP5 := Lib.hid hp5; clear hr5 hp5))
          have hA5 := HP5.out.cells _ _ _ _ ((HBm.out.block _ (lt_of HA3.out)).trans HA3.out) (by decide)
          have HN5 := Lib.hid (StrC.put (HI3.out.below HBm.out).names HP5.out)
          have HB5 : Hid (Below w.heap.size w w5) := Lib.hid ((HI3.out.below HBm.out).bel.trans HP5.out.bel)
          obtain ⟨lb, hlb⟩ : ∃ lb : List UInt8, d2.label = ⟨lb.toArray⟩ := ⟨d2.label.data.toList, by simp⟩
          have hne : lb ≠ [] := fun e => hemp (by rw [hlb, e])
          have k0 : w5.cell? ⟨g, 0, none⟩ = some (.string ⟨lb.toArray⟩) := by rw [← hlb]; exact cellJ hA5 (defC_at rfl)
          have HK0 := Lib.hid k0
          have q0 : lb.isEmpty = false := by cases lb; exact absurd rfl hne; rfl
          have HRI := Lib.hid (HI3.out.below HBm.out)
          clear hA5 hne HMk HPut HCut HI3 HI HC
          go_upto_region 14 with (fail)
          clear q0
          obtain ⟨pN, cN, hvN, hcN, hmN, hrN⟩ := HN5.out.read
          injection hvN with e2 _ e3
          subst e2 e3
          have HrN := Lib.hid hrN
          obtain ⟨nn, hnn⟩ : ∃ nn, L.length = nn := ⟨_, rfl⟩
          have HNN := Lib.hid hnn
          rw [hnn] at hcN ⊢
          clear hrN hnn
          go_upto_block 2 with (fail)
          go_cut [8] from 43 to 57 (fun v wx => ∃ k q : Nat, v = .int .i64 k ∧ k ≤ nn ∧ wx = w5.drewN q ∧ (∀ (j : Nat) y, j < k → L[j]? = some y → y < lb) ∧ ∀ y, L[k]? = some y → ¬ y < lb)
          case first =>
            go_wp2
            go_loopw [8] (fun kv wr => ∃ k q : Nat, kv = .int .i64 k ∧ k ≤ nn ∧ wr = w5.drewN q ∧ ∀ (j : Nat) y, j < k → L[j]? = some y → y < lb) (fun kv _ => nn - (intOf kv).toNat)
            case atStart => exact ⟨0, 0, rfl, Nat.zero_le _, rfl, fun j y h => absurd h (by omega)⟩
            case round =>
              obtain ⟨k, q, rfl, hk, rfl, hk1⟩ := hrel
              have HK1 := Lib.hid hk1
              clear hk1
              by_cases hlk : k < nn
              · obtain ⟨y, hy⟩ : ∃ y, L[k]? = some y := ⟨_, List.getElem?_eq_getElem (by rw [HNN.out]; exact hlk)⟩
                obtain ⟨g1, rfl, -, hcell1⟩ := HrN.out k y hy
                have HY := Lib.hid hy
                clear hy
                by_cases hyl : y < lb
                · have hb1 : Op.bytesLess y lb = true := by rw [bytesLess_eq]; exact decide_eq_true hyl
                  have HYL := Lib.hid hyl
                  clear hyl
                  go_wp2
                  go_quiet (fail)
                  go_wp2
                  go_roundw
                  case rel =>
                    refine ⟨k + 1, _, by go_num, hlk, rfl, fun j z hj hz => ?_⟩
                    by_cases hjk : j < k
                    · exact HK1.out j z hjk hz
                    · obtain rfl : j = k := by omega
                      rw [HY.out] at hz
                      cases hz
                      exact HYL.out
                  case measure => simp [intOf]; omega
                · have hb1 : Op.bytesLess y lb = false := by rw [bytesLess_eq]; exact decide_eq_false hyl
                  have HYL := Lib.hid hyl
                  clear hyl
                  go_wp2
                  go_quiet (fail)
                  go_wp2
                  go_meet
                  exact ⟨k, _, rfl, hk, World.drewN_drewN _ _ _, HK1.out, fun z hz => by rw [HY.out] at hz; cases hz; exact HYL.out⟩
              · go_wp2
                go_quiet (fail)
                go_wp2
                go_meet
                exact ⟨k, _, rfl, hk, World.drewN_drewN _ _ _, HK1.out, fun z hz => absurd (List.getElem?_eq_some_iff.1 hz).1 (by rw [HNN.out]; omega)⟩
          case rest =>
          obtain ⟨k, q, rfl, hkn, rfl, hk1, hk2⟩ := hcut
          have HK1 := Lib.hid hk1
          have HK2 := Lib.hid hk2
          clear hk1 hk2
          go_upto_region 17 with (fail)
          go_cut [70] from 58 to 70 (fun v wx => v = .bool (!decide (L[k]? = some lb)) ∧ ∃ q, wx = w5.drewN q)
          case first =>
            by_cases hL : L[k]? = some lb
            · obtain ⟨g1, rfl, -, hcell1⟩ := HrN.out k lb hL
              have hlk : k < nn := by have := (List.getElem?_eq_some_iff.1 hL).1; rw [HNN.out] at this; exact this
              have hd : Hid (decide (L[k]? = some lb) = true) := Lib.hid (decide_eq_true hL)
              have hki : ¬ (k : Int) = (nn : Int) := by omega
              clear hL
              go_wp2
              go_quiet (fail)
              go_wp2
              go_meet
              exact ⟨by rw [hd.out]; congr 1; simp; omega, _, World.drewN_drewN _ _ _⟩
            · have hd : Hid (decide (L[k]? = some lb) = false) := Lib.hid (decide_eq_false hL)
              by_cases hlk : k = nn
              · clear hL
                subst hlk
                go_wp2
                go_quiet (fail)
                go_wp2
                go_meet
                exact ⟨by rw [hd.out]; rfl, _, World.drewN_drewN _ _ _⟩
              · obtain ⟨y, hy⟩ : ∃ y, L[k]? = some y := ⟨_, List.getElem?_eq_getElem (by rw [HNN.out]; omega)⟩
                obtain ⟨g1, rfl, -, hcell1⟩ := HrN.out k y hy
                have hyl : ¬ y = lb := fun e => hL (by rw [hy, e])
                have hlk2 : k < nn := by omega
                have hki : ¬ (k : Int) = (nn : Int) := by omega
                clear hL hy hlk
                go_wp2
                go_quiet (fail)
                go_wp2
                go_meet
                exact ⟨by rw [hd.out]; congr 1; simp [hyl], _, World.drewN_drewN _ _ _⟩
          case rest =>
          obtain ⟨rfl, q, rfl⟩ := hcut
          obtain ⟨tb, htb⟩ : ∃ tb, (!decide (L[k]? = some lb)) = tb := ⟨_, rfl⟩
          have HTb := Lib.hid htb
          rw [htb]
          clear htb
          go_upto_if 70 with (fail)
          go_cut [5] from 71 to 82 (fun v wx => ∃ p' c', v = .slice p' (insN lb L k).length c' ∧ StrC w.heap.size wx v (insN lb L k) ∧ Below w5.heap.size w5 wx)
          case first =>
            cases tb
            · go_wp2
              go_meet
              have hL : L[k]? = some lb := by have := HTb.out; simpa using this
              have e : insN lb L k = L := if_pos hL
              refine ⟨p, c, by rw [e, HNN.out], ?_, belN (Below.refl _ _) q⟩
              have h := own_below HN5.out (belN (Below.refl _ _) q)
              rw [HNN.out] at h
              rw [e]
              unfold StrC
              rw [HNN.out]
              exact h
            · go_upto_region 18 with (fail)
              have hL : ¬ L[k]? = some lb := by have := HTb.out; simpa using this
              have HIn : Hid (insN lb L k = L.take k ++ lb :: L.drop k) := Lib.hid (if_neg hL)
              obtain ⟨i9, hi9, hz0, hz1, hz2⟩ := info_parts infoStr
              have hkc : k ≤ c := by omega
              have hF := fun W => sl_front W p nn c k hkc
              have hkm : c ≤ maxLen := by have := hmN; unfold maxLen; omega
              have HPn : Hid (p = none → k = 0 ∧ k = 0) := Lib.hid (fun e => by
                by_cases h0 : k = 0
                · exact ⟨h0, h0⟩
                · obtain ⟨y, hy⟩ : ∃ y, L[0]? = some y := ⟨_, List.getElem?_eq_getElem (by rw [HNN.out]; omega)⟩
                  obtain ⟨g1, e1, _⟩ := HrN.out 0 y hy
                  rw [e] at e1
                  cases e1)
              have HOl : Hid (∀ b, p = some b → ∀ (j : Nat) u, ((L.take k).map strV)[j]? = some u → b.block < w5.heap.size ∧ w5.cell? (b.add j) = some u) := Lib.hid (fun b hb j u hj => by
                rw [List.getElem?_map] at hj
                obtain ⟨y, hy, rfl⟩ := Option.map_eq_some_iff.1 hj
                rw [List.getElem?_take] at hy
                split at hy
                · obtain ⟨g1, e1, hl, hc⟩ := HrN.out j y hy
                  rw [hb] at e1
                  injection e1 with e1
                  subst e1
                  have ha : (⟨g1, 0, none⟩ : Addr).add j = ⟨g1, j, none⟩ := by unfold Addr.add; split <;> simp_all
                  rw [ha]
                  exact ⟨hl, hc⟩
                · cases hy)
              have HHd : Hid (∀ W : World, Below w5.heap.size w5 W → W.cell? ⟨g, 0, none⟩ = some (.string ⟨lb.toArray⟩)) := Lib.hid (fun W hW => (hW.cell (p := ⟨g, 0, none⟩) (cell_lt HK0.out)).trans HK0.out)
              have HOw : Hid (∀ W : World, Below w5.heap.size w5 W → ∀ b, p = some b → ∀ (j : Nat) u, ((L.take k).map strV)[j]? = some u → W.cell? (b.add j) = some u) := Lib.hid (fun W hW b hb j u hj => by
                obtain ⟨h1, h2⟩ := HOl.out b hb j u hj
                exact (hW.cell (p := b.add j) (by rw [add_block]; exact h1)).trans h2)
              have HB0 : Hid (Below w5.heap.size w5 (w5.drewN (q + 1))) := Lib.hid (belN (Below.refl _ _) (q + 1))
              have HEn : Hid (∀ (B : Nat) (W : World) v, W.ownsRow B 9 1 v (k + (1 + (nn - k))) ((L.take k).map strV ++ (strV lb :: (L.drop k).map strV)) → w.heap.size ≤ B → StrC w.heap.size W v (insN lb L k)) := Lib.hid (fun B W v h hB => by
                have e1 : (insN lb L k).length = k + (1 + (nn - k)) := by rw [HIn.out, List.length_append, List.length_cons, List.length_take, List.length_drop, HNN.out]; omega
                have e2 : (insN lb L k).map strV = (L.take k).map strV ++ (strV lb :: (L.drop k).map strV) := by rw [HIn.out, List.map_append, List.map_cons]
                unfold StrC
                rw [e1, e2]
                exact ownsRow_base_a h hB)
              have HLk : Hid ((L.take k).length = k) := Lib.hid (by rw [List.length_take, HNN.out]; omega)
              have HLd : Hid ((L.drop k).length = nn - k) := Lib.hid (by rw [List.length_drop, HNN.out])
              have hn9 : Hid (nn ≤ 10) := Lib.hid (by have := HRI.out.len; rw [HNN.out] at this; omega)
              clear hL
              by_cases hkl : k = nn
              · subst hkl
                have hB : ∀ W, (Instr.slice 23 (.slice p k c) (some (.int .i64 k)) none none).run Try.prog W = .ok (.slice (if c = k then p else p.map (·.add k)) 0 (c - k)) W := fun W => by
                  have := sl_back W p k c k (Nat.le_refl _) (by omega)
                  rw [Nat.sub_self] at this
                  exact this
                generalize (if c = k then p else p.map (·.add k)) = pB at hB
                refine wp_region_held_drew (S := fun W => W.cell? ⟨g, 0, none⟩ = some (.string ⟨lb.toArray⟩)) (by kernel_rfl) (HHd.out _ HB0.out) (fun hHeld => ?_)
                try simp only [Act.put, List.setIfInBounds_toArray, List.set_cons_zero, List.set_cons_succ]
                refine wpAnyH_take (i := 0) (oi := { dst := some 71, op := Op.move (Operand.tmp 5), type := 23, pos := "law.go:225", after := #[], guard := none }) (v := ?_) rfl (by kernel_rfl) (by kernel_rfl) (by kernel_rfl) (fun _ _ _ h => h) (Or.inl ⟨by rfl, ?_⟩) (by assumption) ?_
                rotate_left 1
                · (intro w hSw; (try dsimp only at hSw); go_simp; all_goals (first | with_reducible rfl | (simp; done)))
                try simp only [Act.put, List.setIfInBounds_toArray, List.set_cons_zero, List.set_cons_succ]
                refine wpAnyH_take (i := 1) (oi := { dst := some 72, op := Op.move (Operand.tmp 8), type := 3, pos := "law.go:225", after := #[], guard := none }) (v := ?_) rfl (by kernel_rfl) (by kernel_rfl) (by kernel_rfl) (fun _ _ _ h => h) (Or.inl ⟨by rfl, ?_⟩) (by assumption) ?_
                rotate_left 1
                · (intro w hSw; (try dsimp only at hSw); go_simp; all_goals (first | with_reducible rfl | (simp; done)))
                try simp only [Act.put, List.setIfInBounds_toArray, List.set_cons_zero, List.set_cons_succ]
                refine wpAnyH_take (i := 2) (oi := { dst := some 73, op := Op.move (Operand.tmp 8), type := 3, pos := "law.go:225", after := #[], guard := none }) (v := ?_) rfl (by kernel_rfl) (by kernel_rfl) (by kernel_rfl) (fun _ _ _ h => h) (Or.inl ⟨by rfl, ?_⟩) (by assumption) ?_
                rotate_left 1
                · (intro w hSw; (try dsimp only at hSw); go_simp; all_goals (first | with_reducible rfl | (simp; done)))
                try simp only [Act.put, List.setIfInBounds_toArray, List.set_cons_zero, List.set_cons_succ]
                refine wpAnyH_take (i := 3) (oi := { dst := some 74, op := Op.slice 23 (Operand.tmp 71) none (some (Operand.tmp 72)) (some (Operand.tmp 73)), type := 23, pos := "law.go:225", after := #[{ on := 0, ground := Ground.data }, { on := 1, ground := Ground.data }, { on := 2, ground := Ground.data }], guard := none }) (v := .slice p k k) rfl (by kernel_rfl) (by kernel_rfl) (by kernel_rfl) (fun _ _ _ h => h) (Or.inl ⟨by rfl, ?_⟩) (by assumption) ?_
                · (intro w hSw; (try dsimp only at hSw); go_simp; all_goals (first | with_reducible rfl | (simp; done)))
                try simp only [Act.put, List.setIfInBounds_toArray, List.set_cons_zero, List.set_cons_succ]
                refine wpAnyH_take (i := 4) (oi := { dst := some 75, op := Op.fieldAddr 28 (Operand.tmp 7) 0, type := 0, pos := "law.go:225", after := #[], guard := none }) (v := ?_) rfl (by kernel_rfl) (by kernel_rfl) (by kernel_rfl) (fun _ _ _ h => h) (Or.inl ⟨by rfl, ?_⟩) (by assumption) ?_
                rotate_left 1
                · (intro w hSw; (try dsimp only at hSw); go_simp; all_goals (first | with_reducible rfl | (simp; done)))
                try simp only [Act.put, List.setIfInBounds_toArray, List.set_cons_zero, List.set_cons_succ]
                refine wpAnyH_take (i := 5) (oi := { dst := some 76, op := Op.load 9 (Operand.tmp 75), type := 9, pos := "law.go:225", after := #[{ on := 4, ground := Ground.data }], guard := none }) (v := ?_) rfl (by kernel_rfl) (by kernel_rfl) (by kernel_rfl) (fun _ _ _ h => h) (Or.inl ⟨by rfl, ?_⟩) (by assumption) ?_
                rotate_left 1
                · (intro w hSw; (try dsimp only at hSw); go_simp; all_goals (first | with_reducible rfl | (simp; done)))
                try simp only [Act.put, List.setIfInBounds_toArray, List.set_cons_zero, List.set_cons_succ]
                refine wpAnyH_take (i := 7) (oi := { dst := some 78, op := Op.move (Operand.tmp 5), type := 23, pos := "law.go:225", after := #[], guard := none }) (v := ?_) rfl (by kernel_rfl) (by kernel_rfl) (by kernel_rfl) (fun _ _ _ h => h) (Or.inl ⟨by rfl, ?_⟩) (by assumption) ?_
                rotate_left 1
                · (intro w hSw; (try dsimp only at hSw); go_simp; all_goals (first | with_reducible rfl | (simp; done)))
                try simp only [Act.put, List.setIfInBounds_toArray, List.set_cons_zero, List.set_cons_succ]
                refine wpAnyH_take (i := 8) (oi := { dst := some 79, op := Op.move (Operand.tmp 8), type := 3, pos := "law.go:225", after := #[], guard := none }) (v := ?_) rfl (by kernel_rfl) (by kernel_rfl) (by kernel_rfl) (fun _ _ _ h => h) (Or.inl ⟨by rfl, ?_⟩) (by assumption) ?_
                rotate_left 1
                · (intro w hSw; (try dsimp only at hSw); go_simp; all_goals (first | with_reducible rfl | (simp; done)))
                try simp only [Act.put, List.setIfInBounds_toArray, List.set_cons_zero, List.set_cons_succ]
                refine wpAnyH_take (i := 9) (oi := { dst := some 80, op := Op.slice 23 (Operand.tmp 78) (some (Operand.tmp 79)) none none, type := 23, pos := "law.go:225", after := #[{ on := 7, ground := Ground.data }, { on := 8, ground := Ground.data }], guard := none }) (v := .slice pB 0 (c - k)) rfl (by kernel_rfl) (by kernel_rfl) (by kernel_rfl) (fun _ _ _ h => h) (Or.inl ⟨by rfl, ?_⟩) (by assumption) ?_
                · (intro w hSw; (try dsimp only at hSw); go_simp; all_goals (first | with_reducible rfl | (simp; done)))
                try simp only [Act.put, List.setIfInBounds_toArray, List.set_cons_zero, List.set_cons_succ]
                refine wpAnyH_ready (rs := [6]) (by kernel_rfl) (by simp) ?_
                refine AllReadyH.cons (o := { dst := some 77, op := Op.buildSlice 23 1 #[(0, Operand.tmp 76)], type := 23, pos := "law.go:225", after := #[{ on := 5, ground := Ground.data }], guard := none }) rfl (fun K hK => ?_) AllReadyH.nil
                go_simp
                have HB1 : Hid (Below w5.heap.size w5 ((w5.drewN (q + 1)).alloc (.cells #[.string ⟨lb.toArray⟩] 9))) := Lib.hid (HB0.out.alloc (Nat.le_refl _) _)
                refine hK.out _ _ ?_ (fun hHeld => ?_)
                · ((try dsimp only); exact HHd.out _ HB1.out)
                clear hK K
                try simp only [Act.put, List.setIfInBounds_toArray, List.set_cons_zero, List.set_cons_succ]
                obtain ⟨W1, hW1⟩ : ∃ W, (w5.drewN (q + 1)).alloc (.cells #[.string ⟨lb.toArray⟩] 9) = W := ⟨_, rfl⟩
                have HA1 : Hid (W1.heap[w5.heap.size]? = some (.cells #[.string ⟨lb.toArray⟩] 9 (0, 0))) := Lib.hid (hW1 ▸ heap_alloc_new (w5.drewN (q + 1)) _)
                have HZ1 : Hid (W1.heap.size = w5.heap.size + 1) := Lib.hid (hW1 ▸ al_size (w5.drewN (q + 1)) _)
                rw [hW1] at HB1 hHeld ⊢
                clear hW1
                refine wpAnyH_ready (rs := [10]) (by kernel_rfl) (by simp) ?_
                refine AllReadyH.cons (o := { dst := some 81, op := Op.call { callee := Callee.builtin Builtin.append, args := #[Operand.tmp 77, Operand.tmp 80], argTypes := #[23, 23] }, type := 23, pos := "law.go:225", after := #[{ on := 6, ground := Ground.data }, { on := 9, ground := Ground.data }], guard := none }) rfl (fun K hK => ?_) AllReadyH.nil
                refine step_append_zero rfl _ _ (by rfl) (some ⟨w5.heap.size, 0, none⟩) 1 1 (by rfl) (Nat.le_refl _) pB (c - k) (by rfl) ?_
                refine hK.out _ _ ?_ (fun hHeld => ?_)
                · ((try dsimp only); exact HHd.out _ HB1.out)
                clear hK K
                try simp only [Act.put, List.setIfInBounds_toArray, List.set_cons_zero, List.set_cons_succ]
                have HCe : Hid (∀ (j : Nat) u, (strV lb :: (L.drop k).map strV)[j]? = some u → W1.cell? ((⟨w5.heap.size, 0, none⟩ : Addr).add j) = some u) := Lib.hid (one_drop HLd.out HA1.out)
                refine wpAnyH_ready (rs := [11]) (by kernel_rfl) (by simp) ?_
                refine AllReadyH.cons (o := { dst := some 82, op := Op.call { callee := Callee.builtin Builtin.append, args := #[Operand.tmp 74, Operand.tmp 81], argTypes := #[23, 23] }, type := 23, pos := "law.go:225", after := #[{ on := 3, ground := Ground.data }, { on := 10, ground := Ground.data }, { on := 10, ground := Ground.chain }], guard := none }) rfl (fun K hK => ?_) AllReadyH.nil
                refine step_append_grows rfl _ _ 23 (by rfl) 9 i9 (.string ⟨#[]⟩) 1 16 Try.underlying23 hi9 hz0 hz1 hz2 rfl (by decide) p k k ((L.take k).map strV) (by rfl) HPn.out (by rw [List.length_map, HLk.out, Nat.mul_one]) (HOw.out _ HB1.out) ⟨w5.heap.size, 0, none⟩ 1 1 (strV lb :: (L.drop k).map strV) (by rfl) (by rw [List.length_cons, List.length_map, HLd.out]; omega) HCe.out (by intro u hu; rcases List.mem_cons.1 hu with rfl | hu; rfl; obtain ⟨z, _, rfl⟩ := List.mem_map.1 hu; rfl) (by omega) (by unfold maxLen; have := hn9.out; omega) (by have := hn9.out; omega) ?_
                intro v6 w6 hown6 hg6
                have HO6 := Lib.hid hown6
                have HB6 : Hid (Below w5.heap.size w5 w6) := Lib.hid (HB1.out.trans (Below.bumped hg6 (fun x e => by cases e) (HB1.out.size)))
                clear hown6 hg6
                refine hK.out _ _ ?_ (fun hHeld => ?_)
                · ((try dsimp only); exact HHd.out _ HB6.out)
                clear hK K
                try simp only [Act.put, List.setIfInBounds_toArray, List.set_cons_zero, List.set_cons_succ]
                refine wpAnyH_take (i := 12) (oi := { dst := some 5, op := Op.assign (Operand.tmp 82), type := 23, pos := "law.go:225", after := #[{ on := 11, ground := Ground.data }, { on := 11, ground := Ground.chain }, { on := 0, ground := Ground.phase }, { on := 1, ground := Ground.phase }, { on := 2, ground := Ground.phase }, { on := 3, ground := Ground.phase }, { on := 4, ground := Ground.phase }, { on := 5, ground := Ground.phase }, { on := 6, ground := Ground.phase }, { on := 7, ground := Ground.phase }, { on := 8, ground := Ground.phase }, { on := 9, ground := Ground.phase }, { on := 10, ground := Ground.phase }, { on := 11, ground := Ground.phase }], guard := none }) (v := ?_) rfl (by kernel_rfl) (by kernel_rfl) (by kernel_rfl) (fun _ _ _ h => h) (Or.inl ⟨by rfl, ?_⟩) (by assumption) ?_
                rotate_left 1
                · (intro w hSw; (try dsimp only at hSw); go_simp; all_goals (first | with_reducible rfl | (simp; done)))
                try simp only [Act.put, List.setIfInBounds_toArray, List.set_cons_zero, List.set_cons_succ]
                refine wpAnyH_done (by kernel_rfl) ?_ _
                go_wp2
                go_meet
                have hO6 := HO6.out
                rw [show k + 1 = k + (1 + (k - k)) from by omega] at hO6
                have hS6 := HEn.out _ _ _ hO6 (by have := HB5.out.size; have := HB1.out.size; omega)
                obtain ⟨p6, c6, hv6⟩ := hS6.shape
                exact ⟨p6, c6, hv6, hS6, HB6.out⟩
              · obtain ⟨y, hy⟩ : ∃ y, L[k]? = some y := ⟨_, List.getElem?_eq_getElem (by rw [HNN.out]; omega)⟩
                obtain ⟨g1, rfl, -, -⟩ := HrN.out k y hy
                have HDr : Hid (∀ W : World, Below w5.heap.size w5 W → ∀ (j : Nat) u, ((L.drop k).map strV)[j]? = some u → W.cell? ((⟨g1, k, none⟩ : Addr).add j) = some u) := Lib.hid (fun W hW j u hj => by
                  rw [List.getElem?_map] at hj
                  obtain ⟨z, hz, rfl⟩ := Option.map_eq_some_iff.1 hj
                  rw [List.getElem?_drop] at hz
                  obtain ⟨g2, e1, hl, hc⟩ := HrN.out (k + j) z hz
                  injection e1 with e1
                  injection e1 with e1
                  subst e1
                  have ha : (⟨g1, k, none⟩ : Addr).add j = ⟨g1, k + j, none⟩ := by unfold Addr.add; split <;> simp_all
                  rw [ha]
                  exact (hW.cell (p := ⟨g1, k + j, none⟩) hl).trans hc)
                have hkl2 : k < nn := by omega
                have hB : ∀ W, (Instr.slice 23 (.slice (some ⟨g1, 0, none⟩) nn c) (some (.int .i64 k)) none none).run Try.prog W = .ok (.slice (some ⟨g1, k, none⟩) (nn - k) (c - k)) W := fun W => by
                  have := sl_back W (some ⟨g1, 0, none⟩) nn c k (by omega) (by omega)
                  rw [if_neg (by omega)] at this
                  rw [this]
                  have ha : (⟨g1, 0, none⟩ : Addr).add k = ⟨g1, k, none⟩ := by unfold Addr.add; split <;> simp_all
                  simp only [Option.map_some, ha]
                clear hy hkl
                refine wp_region_held_drew (S := fun W => W.cell? ⟨g, 0, none⟩ = some (.string ⟨lb.toArray⟩)) (by kernel_rfl) (HHd.out _ HB0.out) (fun hHeld => ?_)
                try simp only [Act.put, List.setIfInBounds_toArray, List.set_cons_zero, List.set_cons_succ]
                refine wpAnyH_take (i := 0) (oi := { dst := some 71, op := Op.move (Operand.tmp 5), type := 23, pos := "law.go:225", after := #[], guard := none }) (v := ?_) rfl (by kernel_rfl) (by kernel_rfl) (by kernel_rfl) (fun _ _ _ h => h) (Or.inl ⟨by rfl, ?_⟩) (by assumption) ?_
                rotate_left 1
                · (intro w hSw; (try dsimp only at hSw); go_simp; all_goals (first | with_reducible rfl | (simp; done)))
                try simp only [Act.put, List.setIfInBounds_toArray, List.set_cons_zero, List.set_cons_succ]
                refine wpAnyH_take (i := 1) (oi := { dst := some 72, op := Op.move (Operand.tmp 8), type := 3, pos := "law.go:225", after := #[], guard := none }) (v := ?_) rfl (by kernel_rfl) (by kernel_rfl) (by kernel_rfl) (fun _ _ _ h => h) (Or.inl ⟨by rfl, ?_⟩) (by assumption) ?_
                rotate_left 1
                · (intro w hSw; (try dsimp only at hSw); go_simp; all_goals (first | with_reducible rfl | (simp; done)))
                try simp only [Act.put, List.setIfInBounds_toArray, List.set_cons_zero, List.set_cons_succ]
                refine wpAnyH_take (i := 2) (oi := { dst := some 73, op := Op.move (Operand.tmp 8), type := 3, pos := "law.go:225", after := #[], guard := none }) (v := ?_) rfl (by kernel_rfl) (by kernel_rfl) (by kernel_rfl) (fun _ _ _ h => h) (Or.inl ⟨by rfl, ?_⟩) (by assumption) ?_
                rotate_left 1
                · (intro w hSw; (try dsimp only at hSw); go_simp; all_goals (first | with_reducible rfl | (simp; done)))
                try simp only [Act.put, List.setIfInBounds_toArray, List.set_cons_zero, List.set_cons_succ]
                refine wpAnyH_take (i := 3) (oi := { dst := some 74, op := Op.slice 23 (Operand.tmp 71) none (some (Operand.tmp 72)) (some (Operand.tmp 73)), type := 23, pos := "law.go:225", after := #[{ on := 0, ground := Ground.data }, { on := 1, ground := Ground.data }, { on := 2, ground := Ground.data }], guard := none }) (v := .slice (some ⟨g1, 0, none⟩) k k) rfl (by kernel_rfl) (by kernel_rfl) (by kernel_rfl) (fun _ _ _ h => h) (Or.inl ⟨by rfl, ?_⟩) (by assumption) ?_
                · (intro w hSw; (try dsimp only at hSw); go_simp; all_goals (first | with_reducible rfl | (simp; done)))
                try simp only [Act.put, List.setIfInBounds_toArray, List.set_cons_zero, List.set_cons_succ]
                refine wpAnyH_take (i := 4) (oi := { dst := some 75, op := Op.fieldAddr 28 (Operand.tmp 7) 0, type := 0, pos := "law.go:225", after := #[], guard := none }) (v := ?_) rfl (by kernel_rfl) (by kernel_rfl) (by kernel_rfl) (fun _ _ _ h => h) (Or.inl ⟨by rfl, ?_⟩) (by assumption) ?_
                rotate_left 1
                · (intro w hSw; (try dsimp only at hSw); go_simp; all_goals (first | with_reducible rfl | (simp; done)))
                try simp only [Act.put, List.setIfInBounds_toArray, List.set_cons_zero, List.set_cons_succ]
                refine wpAnyH_take (i := 5) (oi := { dst := some 76, op := Op.load 9 (Operand.tmp 75), type := 9, pos := "law.go:225", after := #[{ on := 4, ground := Ground.data }], guard := none }) (v := ?_) rfl (by kernel_rfl) (by kernel_rfl) (by kernel_rfl) (fun _ _ _ h => h) (Or.inl ⟨by rfl, ?_⟩) (by assumption) ?_
                rotate_left 1
                · (intro w hSw; (try dsimp only at hSw); go_simp; all_goals (first | with_reducible rfl | (simp; done)))
                try simp only [Act.put, List.setIfInBounds_toArray, List.set_cons_zero, List.set_cons_succ]
                refine wpAnyH_take (i := 7) (oi := { dst := some 78, op := Op.move (Operand.tmp 5), type := 23, pos := "law.go:225", after := #[], guard := none }) (v := ?_) rfl (by kernel_rfl) (by kernel_rfl) (by kernel_rfl) (fun _ _ _ h => h) (Or.inl ⟨by rfl, ?_⟩) (by assumption) ?_
                rotate_left 1
                · (intro w hSw; (try dsimp only at hSw); go_simp; all_goals (first | with_reducible rfl | (simp; done)))
                try simp only [Act.put, List.setIfInBounds_toArray, List.set_cons_zero, List.set_cons_succ]
                refine wpAnyH_take (i := 8) (oi := { dst := some 79, op := Op.move (Operand.tmp 8), type := 3, pos := "law.go:225", after := #[], guard := none }) (v := ?_) rfl (by kernel_rfl) (by kernel_rfl) (by kernel_rfl) (fun _ _ _ h => h) (Or.inl ⟨by rfl, ?_⟩) (by assumption) ?_
                rotate_left 1
                · (intro w hSw; (try dsimp only at hSw); go_simp; all_goals (first | with_reducible rfl | (simp; done)))
                try simp only [Act.put, List.setIfInBounds_toArray, List.set_cons_zero, List.set_cons_succ]
                refine wpAnyH_take (i := 9) (oi := { dst := some 80, op := Op.slice 23 (Operand.tmp 78) (some (Operand.tmp 79)) none none, type := 23, pos := "law.go:225", after := #[{ on := 7, ground := Ground.data }, { on := 8, ground := Ground.data }], guard := none }) (v := .slice (some ⟨g1, k, none⟩) (nn - k) (c - k)) rfl (by kernel_rfl) (by kernel_rfl) (by kernel_rfl) (fun _ _ _ h => h) (Or.inl ⟨by rfl, ?_⟩) (by assumption) ?_
                · (intro w hSw; (try dsimp only at hSw); go_simp; all_goals (first | with_reducible rfl | (simp; done)))
                try simp only [Act.put, List.setIfInBounds_toArray, List.set_cons_zero, List.set_cons_succ]
                refine wpAnyH_ready (rs := [6]) (by kernel_rfl) (by simp) ?_
                refine AllReadyH.cons (o := { dst := some 77, op := Op.buildSlice 23 1 #[(0, Operand.tmp 76)], type := 23, pos := "law.go:225", after := #[{ on := 5, ground := Ground.data }], guard := none }) rfl (fun K hK => ?_) AllReadyH.nil
                go_simp
                have HB1 : Hid (Below w5.heap.size w5 ((w5.drewN (q + 1)).alloc (.cells #[.string ⟨lb.toArray⟩] 9))) := Lib.hid (HB0.out.alloc (Nat.le_refl _) _)
                refine hK.out _ _ ?_ (fun hHeld => ?_)
                · ((try dsimp only); exact HHd.out _ HB1.out)
                clear hK K
                try simp only [Act.put, List.setIfInBounds_toArray, List.set_cons_zero, List.set_cons_succ]
                obtain ⟨W1, hW1⟩ : ∃ W, (w5.drewN (q + 1)).alloc (.cells #[.string ⟨lb.toArray⟩] 9) = W := ⟨_, rfl⟩
                have HA1 : Hid (W1.heap[w5.heap.size]? = some (.cells #[.string ⟨lb.toArray⟩] 9 (0, 0))) := Lib.hid (hW1 ▸ heap_alloc_new (w5.drewN (q + 1)) _)
                have HZ1 : Hid (W1.heap.size = w5.heap.size + 1) := Lib.hid (hW1 ▸ al_size (w5.drewN (q + 1)) _)
                rw [hW1] at HB1 hHeld ⊢
                clear hW1
                refine wpAnyH_ready (rs := [10]) (by kernel_rfl) (by simp) ?_
                refine AllReadyH.cons (o := { dst := some 81, op := Op.call { callee := Callee.builtin Builtin.append, args := #[Operand.tmp 77, Operand.tmp 80], argTypes := #[23, 23] }, type := 23, pos := "law.go:225", after := #[{ on := 6, ground := Ground.data }, { on := 9, ground := Ground.data }], guard := none }) rfl (fun K hK => ?_) AllReadyH.nil
                refine step_append_grows rfl _ _ 23 (by rfl) 9 i9 (.string ⟨#[]⟩) 1 16 Try.underlying23 hi9 hz0 hz1 hz2 rfl (by decide) (some ⟨w5.heap.size, 0, none⟩) 1 1 [strV lb] (by rfl) (fun h => by cases h) rfl (one_cell HA1.out) ⟨g1, k, none⟩ (nn - k) (c - k) ((L.drop k).map strV) (by rfl) (by rw [List.length_map, HLd.out, Nat.mul_one]) (HDr.out _ HB1.out) (by intro u hu; obtain ⟨z, _, rfl⟩ := List.mem_map.1 hu; rfl) (by omega) (by unfold maxLen; have := hn9.out; omega) (by have := hn9.out; omega) ?_
                intro v4 w4 hown4 hg4
                have HB4 : Hid (Below w5.heap.size w5 w4) := Lib.hid (HB1.out.trans (Below.bumped hg4 (fun x e => by cases e) (by have := HZ1.out; omega)))
                clear hg4
                obtain ⟨g4, c4, rfl, hr4⟩ := own_some hown4 (by omega)
                have HCe : Hid (∀ (j : Nat) u, (strV lb :: (L.drop k).map strV)[j]? = some u → w4.cell? ((⟨g4, 0, none⟩ : Addr).add j) = some u) := Lib.hid hr4
                clear hr4 hown4
                refine hK.out _ _ ?_ (fun hHeld => ?_)
                · ((try dsimp only); exact HHd.out _ HB4.out)
                clear hK K
                try simp only [Act.put, List.setIfInBounds_toArray, List.set_cons_zero, List.set_cons_succ]
                refine wpAnyH_ready (rs := [11]) (by kernel_rfl) (by simp) ?_
                refine AllReadyH.cons (o := { dst := some 82, op := Op.call { callee := Callee.builtin Builtin.append, args := #[Operand.tmp 74, Operand.tmp 81], argTypes := #[23, 23] }, type := 23, pos := "law.go:225", after := #[{ on := 3, ground := Ground.data }, { on := 10, ground := Ground.data }, { on := 10, ground := Ground.chain }], guard := none }) rfl (fun K hK => ?_) AllReadyH.nil
                refine step_append_grows rfl _ _ 23 (by rfl) 9 i9 (.string ⟨#[]⟩) 1 16 Try.underlying23 hi9 hz0 hz1 hz2 rfl (by decide) (some ⟨g1, 0, none⟩) k k ((L.take k).map strV) (by rfl) (fun h => by cases h) (by rw [List.length_map, HLk.out, Nat.mul_one]) (HOw.out _ HB4.out) ⟨g4, 0, none⟩ (1 + (nn - k)) c4 (strV lb :: (L.drop k).map strV) (by rfl) (by rw [List.length_cons, List.length_map, HLd.out]; omega) HCe.out (by intro u hu; rcases List.mem_cons.1 hu with rfl | hu; rfl; obtain ⟨z, _, rfl⟩ := List.mem_map.1 hu; rfl) (by omega) (by unfold maxLen; have := hn9.out; omega) (by have := hn9.out; omega) ?_
                intro v6 w6 hown6 hg6
                have HO6 := Lib.hid hown6
                have HB6 : Hid (Below w5.heap.size w5 w6) := Lib.hid (HB4.out.trans (Below.bumped hg6 (fun x e => by cases e) (HB4.out.size)))
                clear hown6 hg6
                refine hK.out _ _ ?_ (fun hHeld => ?_)
                · ((try dsimp only); exact HHd.out _ HB6.out)
                clear hK K
                try simp only [Act.put, List.setIfInBounds_toArray, List.set_cons_zero, List.set_cons_succ]
                refine wpAnyH_take (i := 12) (oi := { dst := some 5, op := Op.assign (Operand.tmp 82), type := 23, pos := "law.go:225", after := #[{ on := 11, ground := Ground.data }, { on := 11, ground := Ground.chain }, { on := 0, ground := Ground.phase }, { on := 1, ground := Ground.phase }, { on := 2, ground := Ground.phase }, { on := 3, ground := Ground.phase }, { on := 4, ground := Ground.phase }, { on := 5, ground := Ground.phase }, { on := 6, ground := Ground.phase }, { on := 7, ground := Ground.phase }, { on := 8, ground := Ground.phase }, { on := 9, ground := Ground.phase }, { on := 10, ground := Ground.phase }, { on := 11, ground := Ground.phase }], guard := none }) (v := ?_) rfl (by kernel_rfl) (by kernel_rfl) (by kernel_rfl) (fun _ _ _ h => h) (Or.inl ⟨by rfl, ?_⟩) (by assumption) ?_
                rotate_left 1
                · (intro w hSw; (try dsimp only at hSw); go_simp; all_goals (first | with_reducible rfl | (simp; done)))
                try simp only [Act.put, List.setIfInBounds_toArray, List.set_cons_zero, List.set_cons_succ]
                refine wpAnyH_done (by kernel_rfl) ?_ _
                go_wp2
                go_meet
                have hS6 := HEn.out _ _ _ HO6.out (by have := HB5.out.size; have := HB4.out.size; omega)
                obtain ⟨p6, c6, hv6⟩ := hS6.shape
                exact ⟨p6, c6, hv6, hS6, HB6.out⟩
          case rest =>
          obtain ⟨p6, c6, rfl, hs6, hb6⟩ := hcut
          have HS6 := Lib.hid hs6
          have HB6 := Lib.hid hb6
          have HKey := Lib.hid (HRI.out.keys.put HRI.out.reg.isMap (.held (srcV d2)) HK1.out HK2.out)
          have HR6 := Lib.hid (HR5.out.below hb6)
          have k06 : wc.cell? ⟨g, 0, none⟩ = some (.string ⟨lb.toArray⟩) := (hb6.cell (p := ⟨g, 0, none⟩) (cell_lt HK0.out)).trans HK0.out
          have HK06 := Lib.hid k06
          have HLn := Lib.hid (show (insN lb L k).length ≤ i + 1 from Nat.le_trans (ins_ok HRI.out.keys.1 HK1.out HK2.out).2.2 (by have := HRI.out.len; omega))
          have HGt : Hid (Calls Try.prog 21 #[.pointer (some ⟨r, 0, none⟩), .string ⟨lb.toArray⟩] wc fun e w' => e = .returned (.tuple #[srcV d2, .bool true]) ∧ wc = w') := Lib.hid (by
            have h := reg_get wc _ _ _ _ HR6.out d2.label (by have := HLb.out; unfold maxLen; omega)
            rw [getV_put HRI.out.reg.isMap, Go.Maps.has_put_same HRI.out.reg.isMap (show Go.WideAt.IsKeyLit (keyS d2.label) from trivial)] at h
            rw [hlb] at h
            exact h)
          go_upto_region 20 with (go_at_call 21; refine HGt.out.mono ?_; rintro e w7 ⟨rfl, rfl⟩)
          obtain ⟨tv, hsv, hmt⟩ := metN d2
          have HNm : Hid (∀ W, Calls Try.prog 86 #[defV d2] W fun e w' => e = .returned (.string ⟨lb.toArray⟩) ∧ Below W.heap.size W w') := Lib.hid (fun W => (pname_any d2 W).mono (fun e w' ⟨he, hw⟩ => ⟨by rw [he, hlb], by rw [hw]; exact al_bel _ _⟩))
          rw [hsv] at HKey HR6 ⊢
          have HKL : Hid (keyS d2.label = .string lb) := Lib.hid (by rw [hlb]; rfl)
          generalize defV d2 = dv at *
          clear hsv
          refine wp_region_held_drew (S := fun W => W.cell? ⟨g, 0, none⟩ = some (.string ⟨lb.toArray⟩)) (by kernel_rfl) (HK06.out) (fun hHeld => ?_)
          try simp only [Act.put, List.setIfInBounds_toArray, List.set_cons_zero, List.set_cons_succ]
          refine wpAnyH_take (i := 0) (oi := { dst := some 90, op := Op.move (Operand.tmp 10), type := 4, pos := "law.go:228", after := #[], guard := none }) (v := ?_) rfl (by kernel_rfl) (by kernel_rfl) (by kernel_rfl) (fun _ _ _ h => h) (Or.inl ⟨by rfl, ?_⟩) (by assumption) ?_
          rotate_left 1
          · (intro w hSw; (try dsimp only at hSw); go_simp; all_goals (first | with_reducible rfl | (simp; done)))
          try simp only [Act.put, List.setIfInBounds_toArray, List.set_cons_zero, List.set_cons_succ]
          refine wpAnyH_take (i := 1) (oi := { dst := some 91, op := Op.unOp UnOp.not 4 (Operand.tmp 90), type := 4, pos := "law.go:228", after := #[{ on := 0, ground := Ground.data }], guard := none }) (v := .bool false) rfl (by kernel_rfl) (by kernel_rfl) (by kernel_rfl) (fun _ _ _ h => h) (Or.inl ⟨by rfl, ?_⟩) (by assumption) ?_
          · (intro w hSw; (try dsimp only at hSw); go_simp; all_goals (first | with_reducible rfl | (simp; done)))
          try simp only [Act.put, List.setIfInBounds_toArray, List.set_cons_zero, List.set_cons_succ]
          refine wpAnyH_take (i := 2) (oi := { dst := some 92, op := Op.move (Operand.tmp 91), type := 4, pos := "law.go:228", after := #[{ on := 1, ground := Ground.data }], guard := none }) (v := .bool false) rfl (by kernel_rfl) (by kernel_rfl) (by kernel_rfl) (fun _ _ _ h => h) (Or.inl ⟨by rfl, ?_⟩) (by assumption) ?_
          · (intro w hSw; (try dsimp only at hSw); go_simp; all_goals (first | with_reducible rfl | (simp; done)))
          try simp only [Act.put, List.setIfInBounds_toArray, List.set_cons_zero, List.set_cons_succ]
          refine wpAnyH_take (i := 3) (oi := { dst := some 93, op := Op.move (Operand.tmp 9), type := 39, pos := "law.go:228", after := #[{ on := 2, ground := Ground.guard }], guard := some (2, false) }) (v := ?_) rfl (by kernel_rfl) (by kernel_rfl) (by kernel_rfl) (fun _ _ _ h => h) (Or.inl ⟨by rfl, ?_⟩) (by assumption) ?_
          rotate_left 1
          · (intro w hSw; (try dsimp only at hSw); go_simp; all_goals (first | with_reducible rfl | (simp; done)))
          try simp only [Act.put, List.setIfInBounds_toArray, List.set_cons_zero, List.set_cons_succ]
          refine wpAnyH_take (i := 4) (oi := { dst := some 94, op := Op.binOp BinOp.eql 39 (Operand.tmp 93) (Operand.const Value.nilIface) 39, type := 4, pos := "law.go:228", after := #[{ on := 3, ground := Ground.data }, { on := 2, ground := Ground.guard }], guard := some (2, false) }) (v := .bool false) rfl (by kernel_rfl) (by kernel_rfl) (by kernel_rfl) (fun _ _ _ h => h) (Or.inl ⟨by rfl, ?_⟩) (by assumption) ?_
          · (intro w hSw; (try dsimp only at hSw); go_simp; all_goals (first | with_reducible rfl | (simp; done)))
          try simp only [Act.put, List.setIfInBounds_toArray, List.set_cons_zero, List.set_cons_succ]
          refine wpAnyH_take (i := 5) (oi := { dst := some 95, op := Op.pick (Operand.tmp 92) (Operand.const (Value.bool true)) (Operand.tmp 94), type := 4, pos := "law.go:228", after := #[{ on := 2, ground := Ground.data }, { on := 4, ground := Ground.data }], guard := none }) (v := .bool false) rfl (by kernel_rfl) (by kernel_rfl) (by kernel_rfl) (fun _ _ _ h => h) (Or.inl ⟨by rfl, ?_⟩) (by assumption) ?_
          · (intro w hSw; (try dsimp only at hSw); go_simp; all_goals (first | with_reducible rfl | (simp; done)))
          try simp only [Act.put, List.setIfInBounds_toArray, List.set_cons_zero, List.set_cons_succ]
          refine wpAnyH_take (i := 6) (oi := { dst := some 96, op := Op.move (Operand.tmp 95), type := 4, pos := "law.go:228", after := #[{ on := 5, ground := Ground.data }, { on := 2, ground := Ground.chain }], guard := none }) (v := .bool false) rfl (by kernel_rfl) (by kernel_rfl) (by kernel_rfl) (fun _ _ _ h => h) (Or.inl ⟨by rfl, ?_⟩) (by assumption) ?_
          · (intro w hSw; (try dsimp only at hSw); go_simp; all_goals (first | with_reducible rfl | (simp; done)))
          try simp only [Act.put, List.setIfInBounds_toArray, List.set_cons_zero, List.set_cons_succ]
          refine wpAnyH_take (i := 7) (oi := { dst := some 97, op := Op.move (Operand.tmp 9), type := 39, pos := "law.go:228", after := #[{ on := 6, ground := Ground.guard }], guard := some (6, false) }) (v := ?_) rfl (by kernel_rfl) (by kernel_rfl) (by kernel_rfl) (fun _ _ _ h => h) (Or.inl ⟨by rfl, ?_⟩) (by assumption) ?_
          rotate_left 1
          · (intro w hSw; (try dsimp only at hSw); go_simp; all_goals (first | with_reducible rfl | (simp; done)))
          try simp only [Act.put, List.setIfInBounds_toArray, List.set_cons_zero, List.set_cons_succ]
          refine wpAnyH_take (i := 9) (oi := { dst := some 99, op := Op.fieldAddr 28 (Operand.tmp 7) 0, type := 0, pos := "law.go:228", after := #[{ on := 6, ground := Ground.guard }], guard := some (6, false) }) (v := ?_) rfl (by kernel_rfl) (by kernel_rfl) (by kernel_rfl) (fun _ _ _ h => h) (Or.inl ⟨by rfl, ?_⟩) (by assumption) ?_
          rotate_left 1
          · (intro w hSw; (try dsimp only at hSw); go_simp; all_goals (first | with_reducible rfl | (simp; done)))
          try simp only [Act.put, List.setIfInBounds_toArray, List.set_cons_zero, List.set_cons_succ]
          refine wpAnyH_take (i := 10) (oi := { dst := some 100, op := Op.load 9 (Operand.tmp 99), type := 9, pos := "law.go:228", after := #[{ on := 9, ground := Ground.data }, { on := 6, ground := Ground.guard }], guard := some (6, false) }) (v := ?_) rfl (by kernel_rfl) (by kernel_rfl) (by kernel_rfl) (fun _ _ _ h => h) (Or.inl ⟨by rfl, ?_⟩) (by assumption) ?_
          rotate_left 1
          · (intro w hSw; (try dsimp only at hSw); go_simp; all_goals (first | with_reducible rfl | (simp; done)))
          try simp only [Act.put, List.setIfInBounds_toArray, List.set_cons_zero, List.set_cons_succ]
          refine wpAnyH_ready (rs := [8]) (by kernel_rfl) (by simp) ?_
          refine AllReadyH.cons (o := { dst := some 98, op := Op.call { callee := Callee.invoke (Operand.tmp 97) "Name", args := #[], argTypes := #[] }, type := 9, pos := "law.go:228", after := #[{ on := 7, ground := Ground.data }, { on := 6, ground := Ground.chain }, { on := 6, ground := Ground.guard }], guard := some (6, false) }) rfl (fun K hK => ?_) AllReadyH.nil
          go_simp
          go_at_call 86
          refine (HNm.out _).mono ?_
          rintro e w8 ⟨rfl, hb8⟩
          have HB8 : Hid (Below wc.heap.size wc w8) := Lib.hid ((Below.refl wc.heap.size wc).drew.trans hb8)
          clear hb8
          try go_wp2_with fail
          refine hK.out _ _ ?_ (fun hHeld => ?_)
          · ((try dsimp only); exact (HB8.out.cell (p := ⟨g, 0, none⟩) (cell_lt HK06.out)).trans HK06.out)
          clear hK K
          try simp only [Act.put, List.setIfInBounds_toArray, List.set_cons_zero, List.set_cons_succ]
          refine wpAnyH_take (i := 11) (oi := { dst := some 101, op := Op.binOp BinOp.neq 9 (Operand.tmp 98) (Operand.tmp 100) 9, type := 4, pos := "law.go:228", after := #[{ on := 8, ground := Ground.data }, { on := 10, ground := Ground.data }, { on := 6, ground := Ground.guard }], guard := some (6, false) }) (v := .bool false) rfl (by kernel_rfl) (by kernel_rfl) (by kernel_rfl) (fun _ _ _ h => h) (Or.inl ⟨by rfl, ?_⟩) (by assumption) ?_
          · (intro w hSw; (try dsimp only at hSw); go_simp; all_goals (first | with_reducible rfl | (simp; done)))
          try simp only [Act.put, List.setIfInBounds_toArray, List.set_cons_zero, List.set_cons_succ]
          refine wpAnyH_take (i := 12) (oi := { dst := some 102, op := Op.pick (Operand.tmp 96) (Operand.const (Value.bool true)) (Operand.tmp 101), type := 4, pos := "law.go:228", after := #[{ on := 6, ground := Ground.data }, { on := 11, ground := Ground.data }], guard := none }) (v := .bool false) rfl (by kernel_rfl) (by kernel_rfl) (by kernel_rfl) (fun _ _ _ h => h) (Or.inl ⟨by rfl, ?_⟩) (by assumption) ?_
          · (intro w hSw; (try dsimp only at hSw); go_simp; all_goals (first | with_reducible rfl | (simp; done)))
          try simp only [Act.put, List.setIfInBounds_toArray, List.set_cons_zero, List.set_cons_succ]
          refine wpAnyH_done (by kernel_rfl) ?_ _
          go_wp2
          go_roundw
          case rel =>
            refine ⟨i + 1, insN lb L k, _, hlt, hlt10, by go_num, ⟨HR6.out.below HB8.out, ?_, own_below HS6.out HB8.out, HLn.out, keepE (keepE HB5.out HB6.out) HB8.out⟩⟩
            rw [HKL.out]
            exact HKey.out
          case measure => simp [intOf]; omega
      · obtain rfl : i = 10 := by omega
        have hend : (10 : Int) < (n : Int) := by omega
        have HPut : Hid (∀ W, Calls Try.prog 20 #[.pointer (some ⟨r, 0, none⟩), .nilIface] W fun e w' => e = .returned (.tuple #[]) ∧ Below W.heap.size W w') := Lib.hid (fun W => put_skip .nilIface (.inl rfl) W r (nameOf_nil W))
        obtain ⟨tb, htb⟩ : ∃ tb, Go.Maps.has D (keyS ⟨#[110, 111, 32, 115, 117, 99, 104, 32, 111, 110, 101, 32, 97, 116, 32, 97, 108, 108]⟩) = tb := ⟨_, rfl⟩
        have HTb : Hid (decide (nmL ∈ L) = tb) := Lib.hid (by rw [← htb]; exact (HI.out.keys.there nmL).symm)
        have HGt : Hid (∀ W, RegS w.heap.size W 10 r D → Calls Try.prog 21 #[.pointer (some ⟨r, 0, none⟩), .string ⟨#[110, 111, 32, 115, 117, 99, 104, 32, 111, 110, 101, 32, 97, 116, 32, 97, 108, 108]⟩] W fun e w' => e = .returned (.tuple #[getV D ⟨#[110, 111, 32, 115, 117, 99, 104, 32, 111, 110, 101, 32, 97, 116, 32, 97, 108, 108]⟩, .bool tb]) ∧ W = w') := Lib.hid (fun W h => by rw [← htb]; exact reg_get W _ _ _ _ h _ (by show 18 ≤ maxLen; decide))
        clear htb
        generalize getV D ⟨#[110, 111, 32, 115, 117, 99, 104, 32, 111, 110, 101, 32, 97, 116, 32, 97, 108, 108]⟩ = gv at *
        have HN := Lib.hid HI.out.names
        obtain ⟨nn, hnn⟩ : ∃ nn, L.length = nn := ⟨_, rfl⟩
        have HNN := Lib.hid hnn
        have hn10 : Hid (nn ≤ 10) := Lib.hid (by have := HI.out.len; omega)
        rw [hnn] at HN ⊢
        clear hnn
        go_upto_block 4 with (first
          | (go_at_call 20; refine (HPut.out _).mono ?_; rintro e w5 ⟨rfl, hb⟩; have HI5 := Lib.hid (HI.out.below hb); clear hb)
          | (go_at_call 21; refine (HGt.out _ HI5.out.reg).mono ?_; rintro e w6 ⟨rfl, rfl⟩))
        obtain ⟨pN, cN, hvN, hcN, hmN, hrN⟩ := HI5.out.names.read
        injection hvN with e2 _ e3
        subst e2 e3
        have HrN := Lib.hid hrN
        clear hrN
        rw [HNN.out] at hcN
        go_wp2
        go_loopw [13, 14] (fun bv jv wx => ∃ j : Nat, j ≤ nn ∧ jv = .int .i64 j ∧ bv = .bool (decide (nmL ∈ L.take j)) ∧ wx = w5) (fun _ jv _ => nn - (intOf jv).toNat)
        case atStart => exact ⟨0, Nat.zero_le _, rfl, by simp, rfl⟩
        case round =>
          obtain ⟨j, hj, rfl, rfl, hwx⟩ := hrel
          replace hwx := hwx.symm
          subst hwx
          by_cases hjn : j < nn
          · obtain ⟨y, hy⟩ : ∃ y, L[j]? = some y := ⟨_, List.getElem?_eq_getElem (by rw [HNN.out]; exact hjn)⟩
            obtain ⟨g1, rfl, -, hcell1⟩ := HrN.out j y hy
            have HTk : Hid (decide (nmL ∈ L.take (j + 1)) = (decide (nmL ∈ L.take j) || y == nmL)) := Lib.hid (by rw [takeH hy, mem_step])
            clear hy
            generalize decide (nmL ∈ L.take j) = th at *
            have hjj : (j : Int) < (nn : Int) := by omega
            cases th
            · go_wp2
              go_roundw
              case rel => exact ⟨j + 1, hjn, by go_num, by rw [HTk.out]; rfl, by first | rfl | trivial⟩
              case measure => simp [intOf]; omega
            · go_wp2
              go_roundw
              case rel => exact ⟨j + 1, hjn, by go_num, by rw [HTk.out]; rfl, by first | rfl | trivial⟩
              case measure => simp [intOf]; omega
          · obtain rfl : j = nn := by omega
            rw [List.take_of_length_le (by rw [HNN.out]; exact Nat.le_refl _), HTb.out]
            have HNm : Hid (∀ W, Below w5.heap.size w5 W → Calls Try.prog 23 #[.pointer (some ⟨r, 0, none⟩)] W fun e w' => ∃ v, e = .returned v ∧ StrC W.heap.size w' v L ∧ Below w5.heap.size w5 w') := Lib.hid (fun W hW => (reg_names W _ _ _ _ _ (HI5.out.reg.below hW) (by omega) HI5.out.keys).mono (fun e w' ⟨v, he, hs, hb⟩ => ⟨v, he, hs, keepE hW hb⟩))
            have HBx := Lib.hid (Below.refl w5.heap.size w5)
            have HN5 : Hid (StrC w.heap.size w5 (.slice p L.length c) L) := Lib.hid HI5.out.names
            rw [HNN.out] at HN5
            go_wp2_with (first
              | (go_at_call 23; refine (HNm.out _ HBx.out).mono ?_; rintro e w8 ⟨v8, rfl, hs8, hb8⟩; have HS8 := Lib.hid hs8; have HB8 := Lib.hid hb8; clear hs8 hb8)
              | (go_at_call 22; refine (eqtexts_any _ _ L _ _ _ HS8.out (own_below HN5.out HB8.out)).mono ?_; rintro e w9 ⟨rfl, q, rfl⟩))
            go_ret
            exact ⟨by simp, belN (keepE HI5.out.bel HB8.out) _⟩
    · obtain rfl : i = n := by omega
      have HPut : Hid (∀ W, Calls Try.prog 20 #[.pointer (some ⟨r, 0, none⟩), .nilIface] W fun e w' => e = .returned (.tuple #[]) ∧ Below W.heap.size W w') := Lib.hid (fun W => put_skip .nilIface (.inl rfl) W r (nameOf_nil W))
      obtain ⟨tb, htb⟩ : ∃ tb, Go.Maps.has D (keyS ⟨#[110, 111, 32, 115, 117, 99, 104, 32, 111, 110, 101, 32, 97, 116, 32, 97, 108, 108]⟩) = tb := ⟨_, rfl⟩
      have HTb : Hid (decide (nmL ∈ L) = tb) := Lib.hid (by rw [← htb]; exact (HI.out.keys.there nmL).symm)
      have HGt : Hid (∀ W, RegS w.heap.size W i r D → Calls Try.prog 21 #[.pointer (some ⟨r, 0, none⟩), .string ⟨#[110, 111, 32, 115, 117, 99, 104, 32, 111, 110, 101, 32, 97, 116, 32, 97, 108, 108]⟩] W fun e w' => e = .returned (.tuple #[getV D ⟨#[110, 111, 32, 115, 117, 99, 104, 32, 111, 110, 101, 32, 97, 116, 32, 97, 108, 108]⟩, .bool tb]) ∧ W = w') := Lib.hid (fun W h => by rw [← htb]; exact reg_get W _ _ _ _ h _ (by show 18 ≤ maxLen; decide))
      clear htb
      generalize getV D ⟨#[110, 111, 32, 115, 117, 99, 104, 32, 111, 110, 101, 32, 97, 116, 32, 97, 108, 108]⟩ = gv at *
      have HN := Lib.hid HI.out.names
      obtain ⟨nn, hnn⟩ : ∃ nn, L.length = nn := ⟨_, rfl⟩
      have HNN := Lib.hid hnn
      have hn10 : Hid (nn ≤ 10) := Lib.hid (by have := HI.out.len; omega)
      rw [hnn] at HN ⊢
      clear hnn
      go_upto_block 4 with (first
        | (go_at_call 20; refine (HPut.out _).mono ?_; rintro e w5 ⟨rfl, hb⟩; have HI5 := Lib.hid (HI.out.below hb); clear hb)
        | (go_at_call 21; refine (HGt.out _ HI5.out.reg).mono ?_; rintro e w6 ⟨rfl, rfl⟩))
      obtain ⟨pN, cN, hvN, hcN, hmN, hrN⟩ := HI5.out.names.read
      injection hvN with e2 _ e3
      subst e2 e3
      have HrN := Lib.hid hrN
      clear hrN
      rw [HNN.out] at hcN
      go_wp2
      go_loopw [13, 14] (fun bv jv wx => ∃ j : Nat, j ≤ nn ∧ jv = .int .i64 j ∧ bv = .bool (decide (nmL ∈ L.take j)) ∧ wx = w5) (fun _ jv _ => nn - (intOf jv).toNat)
      case atStart => exact ⟨0, Nat.zero_le _, rfl, by simp, rfl⟩
      case round =>
        obtain ⟨j, hj, rfl, rfl, hwx⟩ := hrel
        replace hwx := hwx.symm
        subst hwx
        by_cases hjn : j < nn
        · obtain ⟨y, hy⟩ : ∃ y, L[j]? = some y := ⟨_, List.getElem?_eq_getElem (by rw [HNN.out]; exact hjn)⟩
          obtain ⟨g1, rfl, -, hcell1⟩ := HrN.out j y hy
          have HTk : Hid (decide (nmL ∈ L.take (j + 1)) = (decide (nmL ∈ L.take j) || y == nmL)) := Lib.hid (by rw [takeH hy, mem_step])
          clear hy
          generalize decide (nmL ∈ L.take j) = th at *
          have hjj : (j : Int) < (nn : Int) := by omega
          cases th
          · go_wp2
            go_roundw
            case rel => exact ⟨j + 1, hjn, by go_num, by rw [HTk.out]; rfl, by first | rfl | trivial⟩
            case measure => simp [intOf]; omega
          · go_wp2
            go_roundw
            case rel => exact ⟨j + 1, hjn, by go_num, by rw [HTk.out]; rfl, by first | rfl | trivial⟩
            case measure => simp [intOf]; omega
        · obtain rfl : j = nn := by omega
          rw [List.take_of_length_le (by rw [HNN.out]; exact Nat.le_refl _), HTb.out]
          have HNm : Hid (∀ W, Below w5.heap.size w5 W → Calls Try.prog 23 #[.pointer (some ⟨r, 0, none⟩)] W fun e w' => ∃ v, e = .returned v ∧ StrC W.heap.size w' v L ∧ Below w5.heap.size w5 w') := Lib.hid (fun W hW => (reg_names W _ _ _ _ _ (HI5.out.reg.below hW) (by omega) HI5.out.keys).mono (fun e w' ⟨v, he, hs, hb⟩ => ⟨v, he, hs, keepE hW hb⟩))
          have HBx := Lib.hid (Below.refl w5.heap.size w5)
          have HN5 : Hid (StrC w.heap.size w5 (.slice p L.length c) L) := Lib.hid HI5.out.names
          rw [HNN.out] at HN5
          go_wp2_with (first
            | (go_at_call 23; refine (HNm.out _ HBx.out).mono ?_; rintro e w8 ⟨v8, rfl, hs8, hb8⟩; have HS8 := Lib.hid hs8; have HB8 := Lib.hid hb8; clear hs8 hb8)
            | (go_at_call 22; refine (eqtexts_any _ _ L _ _ _ HS8.out (own_below HN5.out HB8.out)).mono ?_; rintro e w9 ⟨rfl, q, rfl⟩))
          go_ret
          exact ⟨by simp, belN (keepE HI5.out.bel HB8.out) _⟩
end Go.Proofs.Ytpdkjifalgeodaa
