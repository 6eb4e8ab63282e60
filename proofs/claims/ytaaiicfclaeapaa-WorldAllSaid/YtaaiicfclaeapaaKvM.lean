/- The walk of WorldAll. -/
import Derived.Test.YtaaiicfclaeapaaWaCg
namespace Go.Proofs.Ytaaiicfclaeapaa
open Go.RowKit Go.Mp Go.Rb Go.Lib
theorem wp_block_then {P : Program} {c : Code} {n : Nat} {K : Act → World → Prop} {R : Exit → Act → World → Prop} {a : Act} {w : World} (h : c.wp P (Exit.then K (Exit.inBlock n (Exit.then K R))) a w) : c.wp P (Exit.inBlock n (Exit.then K R)) a w :=
  Code.wp_mono (fun e a w h => by cases e <;> exact h) h
set_option maxHeartbeats 40000000 in
set_option maxRecDepth 100000 in
theorem worldAll_walk (a : Option Addr) (n c : Nat) (rs : List OpV) (W : World) (hin : InOps W a n c rs) :
    Calls Try.prog 3 #[.slice a n c] W fun e w' => e = .returned (.bool true) ∧ Below W.heap.size W w' := by
  have HIn := Lib.hid hin
  have hnc := hin.2.1
  have hcm : c ≤ 9223372036854775807 := by have := hin.2.2.1; unfold maxLen at this; omega
  clear hin
  go_enter Try.func3, Try.ntmps3
  go_upto_region 9 with (first | (go_at_call 4; refine (begun1 _).mono ?_; rintro e w2 ⟨rfl, hb⟩; have HB := Lib.hid hb; clear hb) | (go_at_call 5; refine (new_any _).mono ?_; rintro e w3 ⟨rfl, rfl⟩))
  obtain ⟨col0, hc0, hp0, hd0⟩ := startW W.heap.size w2 HB.out.size
  have HSt : Hid (AllSt W.heap.size ((w2.alloc zWorld).alloc zRef) (.pointer (some ⟨w2.heap.size, 0, none⟩)) (.pointer (some ⟨(w2.alloc zWorld).heap.size, 0, none⟩)) 0 ∧ Below W.heap.size W ((w2.alloc zWorld).alloc zRef)) := Lib.hid ⟨⟨w2.heap.size, _, 8, col0, s0W, rfl, rfl, by decide, hc0, hp0, hd0, okw0⟩, (HB.out.alloc HB.out.size _).alloc (by have := HB.out.size; show _ ≤ (w2.heap.push _).size; simp; omega) _⟩
  clear hc0 hp0 hd0
  obtain ⟨ib, hib, hz0, hz1, hz2⟩ := info_parts' infoU8
  go_loopw [4, 5, 6] (fun bv rv iv wr => ∃ j : Nat, iv = .int .i64 j ∧ j ≤ n ∧ j ≤ 40 ∧ AllSt W.heap.size wr bv rv j ∧ Below W.heap.size W wr) (fun _ _ iv _ => n - (intOf iv).toNat)
  case atStart =>
    have h := HSt.out
    rw [size_alloc1] at h
    exact ⟨0, rfl, Nat.zero_le _, Nat.zero_le _, h.1, h.2⟩
  case round =>
    obtain ⟨j, rfl, hjn, hj40, hst, hbw⟩ := hrel
    obtain ⟨b, r, d, col, s, rfl, rfl, hd, hc, hP, hD, ho⟩ := hst.it
    have HSt := Lib.hid (show 8 ≤ d ∧ ColOk W.heap.size col wr ∧ ProgIn col wr b s ∧ DocIn d col wr r s ∧ Okw s j from ⟨hd, hc, hP, hD, ho⟩)
    have HBw := Lib.hid hbw
    clear hst hbw hd hc hP hD ho
    by_cases hgo : j < n ∧ j < 40
    · obtain ⟨hlt, hlt2⟩ := hgo
      obtain ⟨z, hz⟩ : ∃ z, rs[j]? = some z := ⟨_, List.getElem?_eq_getElem (by rw [HIn.out.1]; exact hlt)⟩
      obtain ⟨y, rfl, hy, s1, s2, s3, s4, q0, q1, q2, q3, q4, q5⟩ := (HIn.out.below HBw.out).2.2.2 j z hz
      obtain ⟨zk, zK, zN, zn, za, zm, zc, zz, zl⟩ := z
      simp only at s1 s2 s3 s4 q0 q1 q2 q3 q4 q5
      have hzc : zm ≤ zc ∧ zc ≤ 9223372036854775807 := by
        rcases s4 with ⟨_, h1, h2, _⟩ | ⟨_, _, h1, h2, _⟩
        · omega
        · unfold maxLen at h2; omega
      obtain ⟨m, hm1, hm2, hsh⟩ := short_len za zm zc hzc.1 hzc.2
      obtain ⟨l, hl, hsrc⟩ := src_ints s4 hm1
      have HSh := Lib.hid hsh
      have HSrc := Lib.hid hsrc
      have hj0 : (0 : Int) ≤ (j : Int) := by omega
      have hj1 : (j : Int) < (n : Int) := by omega
      have hj2 : (j : Int) < 40 := by omega
      have HBt := Lib.hid HBw
      clear hsh hsrc s4 hz
      go_upto_region 12 with (fail)
      have hb1 : Below wr.heap.size wr (wr.alloc (.cells #[.int .i64 zk, .int .i64 zK, .int .i64 zN, .string zn, .slice za zm zc, .bool zl] 35)) := (Below.refl _ _).alloc (Nat.le_refl _) _
      have o4 : (wr.alloc (.cells #[.int .i64 zk, .int .i64 zK, .int .i64 zN, .string zn, .slice za zm zc, .bool zl] 35)).cell? ⟨wr.heap.size, 4, none⟩ = some (.slice za zm zc) := by rw [World.cell?_alloc_new]; rfl
      have HB1 := Lib.hid hb1
      have HSr1 := Lib.hid (HSrc.out _ hb1)
      have hnew : Hid ((wr.alloc (.cells #[.int .i64 zk, .int .i64 zK, .int .i64 zN, .string zn, .slice za zm zc, .bool zl] 35)).heap[wr.heap.size]? = some (.cells #[.int .i64 zk, .int .i64 zK, .int .i64 zN, .string zn, .slice za zm zc, .bool zl] 35 (0, 0))) := Lib.hid (heap_alloc_new _ _)
      clear hb1 q0 q1 q2 q3 q4 q5
      generalize (wr.alloc (.cells #[.int .i64 zk, .int .i64 zK, .int .i64 zN, .string zn, .slice za zm zc, .bool zl] 35)) = w1 at *
      go_upto_region 13 with (first | (go_at_call 6; refine (HSh.out _).mono ?_; rintro e w5 ⟨rfl, rfl⟩) | (at_builtin; refine wpList_append_rb rfl _ _ 33 33 rfl Try.underlying33 Try.underlying33 (by intro k h; cases h) hib hz0 hz1 hz2 (B := w1.heap.size) (l := []) (m := l) rfl rfl (.inl ⟨rfl, rfl⟩) HSr1.out (Nat.le_refl _) (by simp; omega) ?_; intro s5 w5 hr5 hb5; rw [List.nil_append] at hr5; obtain ⟨p8, c8, rfl, hp8, hc8⟩ := RB.shape hr5; have HR5 := Lib.hid hr5; have HB5 := Lib.hid hb5; clear hr5 hb5))
      have hb15 : Below wr.heap.size wr w5 := HB1.out.trans (HB5.out.mono HB1.out.size)
      have HT : Hid (Two W w5 b r d s s wr.heap.size #[.int .i64 zk, .int .i64 zK, .int .i64 zN, .string zn, .slice za zm zc, .bool zl] p8 m c8 l) := Lib.hid (by
        obtain ⟨hd, hc, hP, hD, ho⟩ := HSt.out
        have hz : ∀ k, wr.heap.size ≤ k → col k = 0 := fun k hk => Classical.byContradiction fun hn => by have := (hc.lo k hn).2; omega
        have hs1 := HB1.out.size
        have hsw := HBw.out.size
        have hob := (HB5.out.block _ (Array.getElem?_eq_some_iff.1 hnew.out).1).trans hnew.out
        have hrb : RB W.heap.size w5 (.slice p8 m c8) l := by have := RB.base (B' := W.heap.size) HR5.out (by omega); rw [hl] at this; exact this
        refine ⟨col, hd, hc.below hb15, hP.keep hc (Fr.below (cs := fun _ => False) hb15) ⟨fun h => h, fun h => h, fun h => h, fun h => h⟩, hD.keep hd hc (Fr.below (cs := fun _ => False) hb15) ⟨fun h => h, fun h => h⟩, HBw.out.trans (hb15.mono hsw), hob, hz _ (Nat.le_refl _), hrb, fun q e => hz _ ?_⟩
        have h1 := HR5.out
        rw [hl] at h1
        have := (RB.blk h1 e).1
        omega)
      have HO : Hid (Okw s j) := Lib.hid HSt.out.2.2.2.2
      obtain ⟨oB, hoB⟩ : ∃ oB, wr.heap.size = oB := ⟨_, rfl⟩
      rw [hoB] at HT ⊢
      obtain ⟨oc, hoc⟩ : ∃ oc : Array Value, #[.int .i64 zk, .int .i64 zK, .int .i64 zN, .string zn, .slice za zm zc, .bool zl] = oc := ⟨_, rfl⟩
      have HOc : Hid (oc[0]? = some (.int .i64 zk) ∧ oc[1]? = some (.int .i64 zK) ∧ oc[2]? = some (.int .i64 zN) ∧ oc[3]? = some (.string zn) ∧ oc[5]? = some (.bool zl)) := Lib.hid (by rw [← hoc]; exact ⟨rfl, rfl, rfl, rfl, rfl⟩)
      rw [hoc] at HT
      have hl60 : l.length ≤ 60 := by omega
      have hk1 : -9223372036854775808 ≤ zK ∧ zK ≤ 9223372036854775807 := by simpa [Lit.wf, IntKind.wrap, IntKind.bits, IntKind.signed, IntKind.min, IntKind.max] using s2
      have hn1 : -9223372036854775808 ≤ zN ∧ zN ≤ 9223372036854775807 := by simpa [Lit.wf, IntKind.wrap, IntKind.bits, IntKind.signed, IntKind.min, IntKind.max] using s3
      have o0 := HT.out.op HOc.out.1
      clear hb15 hoc hoB HSt HB1 HB5 HR5 hnew HSr1 HSrc HSh HBw HBt HIn s2 s3 hzc hy hib hz0 hz1 hz2
      go_upto_if 69 with (fail)
      clear o0
      refine wp_block_then ?_
      go_cut [4, 5, 9, 10] from 21 to 223 (fun wv rv xv yv wx => ∃ b' r' d' s', wv = .pointer (some ⟨b', 0, none⟩) ∧ rv = .pointer (some ⟨r', 0, none⟩) ∧ Two W wx b' r' d' s' s' oB oc p8 m c8 l ∧ Okm s' (j + 1))
      case first =>
        have hkk : zk = 0 ∨ zk = 1 ∨ zk = 2 ∨ zk = 3 ∨ zk = 4 ∨ zk = 5 ∨ zk = 6 ∨ zk = 7 ∨ zk = 8 ∨ zk = 9 ∨ (¬ zk = 0 ∧ ¬ zk = 1 ∧ ¬ zk = 2 ∧ ¬ zk = 3 ∧ ¬ zk = 4 ∧ ¬ zk = 5 ∧ ¬ zk = 6 ∧ ¬ zk = 7 ∧ ¬ zk = 8 ∧ ¬ zk = 9) := by omega
        have o0 := HT.out.op HOc.out.1
        have o1 := HT.out.op HOc.out.2.1
        have o2 := HT.out.op HOc.out.2.2.1
        have o3 := HT.out.op HOc.out.2.2.2.1
        have o5 := HT.out.op HOc.out.2.2.2.2
        rcases hkk with rfl | rfl | rfl | rfl | rfl | rfl | rfl | rfl | rfl | rfl | ⟨d0, d1, d2, d3, d4, d5, d6, d7, d8, d9⟩
        · as_aux_lemma =>
          have HA1 := Lib.hid (HT.out.advance HO.out zN hn1)
          go_wp2_with (first | (go_at_call 7; refine HA1.out.mono ?_; rintro e w6 ⟨rfl, h6⟩; have HT6 := Lib.hid h6; have HA2 := Lib.hid (h6.dadvance HO.out zN hn1); have q0 := h6.op HOc.out.2.2.1; clear h6) | (go_at_call 8; refine HA2.out.mono ?_; rintro e w7 ⟨rfl, h7⟩; have HT7 := Lib.hid h7; clear h7))
          go_meet
          exact ⟨b, r, d, _, rfl, rfl, HT7.out, okm_adv HO.out hlt2 zN⟩
        · as_aux_lemma =>
          have HA1 := Lib.hid (HT.out.put HO.out hl60 zn)
          go_wp2_with (first | (go_at_call 9; refine HA1.out.mono ?_; rintro e w6 ⟨rfl, h6⟩; have HT6 := Lib.hid h6; have HA2 := Lib.hid (h6.dput HO.out hl60 zn); have q0 := h6.op HOc.out.2.2.2.1; clear h6) | (go_at_call 10; refine HA2.out.mono ?_; rintro e w7 ⟨rfl, h7⟩; have HT7 := Lib.hid h7; clear h7))
          go_meet
          exact ⟨b, r, d, _, rfl, rfl, HT7.out, okm_put HO.out hlt2 zn _ hl60⟩
        · as_aux_lemma =>
          have HA1 := Lib.hid (HT.out.remove HO.out zn)
          go_wp2_with (first | (go_at_call 11; refine HA1.out.mono ?_; rintro e w6 ⟨rfl, h6⟩; have HT6 := Lib.hid h6; have HA2 := Lib.hid (h6.dremove HO.out zn); have q0 := h6.op HOc.out.2.2.2.1; clear h6) | (go_at_call 12; refine HA2.out.mono ?_; rintro e w7 ⟨rfl, h7⟩; have HT7 := Lib.hid h7; clear h7))
          go_meet
          exact ⟨b, r, d, _, rfl, rfl, HT7.out, okm_put HO.out hlt2 zn _ (Nat.zero_le _)⟩
        · as_aux_lemma =>
          have HA1 := Lib.hid (HT.out.send HO.out hl60 zn zl)
          go_upto_region 30 with (go_at_call 13; refine HA1.out.mono ?_; rintro e w6 ⟨rfl, h6⟩; have HT6 := Lib.hid h6; clear h6)
          obtain ⟨q6, cap6, M6, hrow6, hcl6, hfi6⟩ := HT6.out.sentPre
          have HRow6 := Lib.hid hrow6
          have HCl6 := Lib.hid hcl6
          have HFi6 := Lib.hid hfi6
          have HSo : Hid (∀ W2, Below w6.heap.size w6 W2 → W2.cell? ⟨oB, 3, none⟩ = some (.string zn) ∧ W2.cell? ⟨oB, 5, none⟩ = some (.bool zl)) := Lib.hid (fun W2 hW2 => ⟨(HT6.out.below hW2).op HOc.out.2.2.2.1, (HT6.out.below hW2).op HOc.out.2.2.2.2⟩)
          obtain ⟨ib, hib, hz0, hz1, hz2⟩ := info_parts' infoU8
          obtain ⟨jb, hjb, hy0, hy1, hy2⟩ := info_parts' infoDg
          have HSr6 : Hid (∀ W2, Below w6.heap.size w6 W2 → Src Try.prog W2 (.slice p8 m c8) l) := Lib.hid (fun W2 hW2 => RB.src ((HT6.out.below hW2).it.elim fun _ h => h.2.2.2.2.rb))
          have r3 := hcl6 _ (Below.refl _ _)
          have r3d := hcl6 _ (Below.refl _ _).drew
          have hfl : s.sent.length ≤ 40 := by have := HO.out.sent; have := HO.out.few; omega
          clear hrow6 hcl6 hfi6
          go_upto_region 30 with (fail)
          refine wp_region_noPanic ?_
          refine wp_region_held_drew (S := fun W2 => W2.cell? ⟨oB, 3, none⟩ = some (.string zn) ∧ W2.cell? ⟨oB, 5, none⟩ = some (.bool zl)) (by kernel_rfl) (HSo.out _ (Below.refl _ _).drew) (fun hHeld => ?_)
          refine wpAnyH_take (i := 0) (oi := { dst := some 111, op := Op.move (Operand.tmp 5), type := 26, pos := "law.go:100", after := #[], guard := none }) (v := ?_) rfl (by kernel_rfl) (by kernel_rfl) (by kernel_rfl) (fun _ _ _ h => h) (Or.inl ⟨by rfl, ?_⟩) (by assumption) ?_
          rotate_left 1
          · (intro w hSw; (try dsimp only at hSw); go_simp; all_goals (with_reducible rfl))
          try simp only [Act.put, List.setIfInBounds_toArray, List.set_cons_zero, List.set_cons_succ]
          refine wpAnyH_take (i := 1) (oi := { dst := some 112, op := Op.move (Operand.tmp 5), type := 26, pos := "law.go:100", after := #[], guard := none }) (v := ?_) rfl (by kernel_rfl) (by kernel_rfl) (by kernel_rfl) (fun _ _ _ h => h) (Or.inl ⟨by rfl, ?_⟩) (by assumption) ?_
          rotate_left 1
          · (intro w hSw; (try dsimp only at hSw); go_simp; all_goals (with_reducible rfl))
          try simp only [Act.put, List.setIfInBounds_toArray, List.set_cons_zero, List.set_cons_succ]
          refine wpAnyH_take (i := 2) (oi := { dst := some 113, op := Op.nilCheck (Operand.tmp 112), type := 0, pos := "law.go:100", after := #[{ on := 1, ground := Ground.data }], guard := none }) (v := ?_) rfl (by kernel_rfl) (by kernel_rfl) (by kernel_rfl) (fun _ _ _ h => h) (Or.inl ⟨by rfl, ?_⟩) (by assumption) ?_
          rotate_left 1
          · (intro w hSw; (try dsimp only at hSw); go_simp; all_goals (with_reducible rfl))
          try simp only [Act.put, List.setIfInBounds_toArray, List.set_cons_zero, List.set_cons_succ]
          refine wpAnyH_take (i := 3) (oi := { dst := some 114, op := Op.fieldAddr 32 (Operand.tmp 113) 3, type := 0, pos := "law.go:100", after := #[{ on := 2, ground := Ground.data }], guard := none }) (v := ?_) rfl (by kernel_rfl) (by kernel_rfl) (by kernel_rfl) (fun _ _ _ h => h) (Or.inl ⟨by rfl, ?_⟩) (by assumption) ?_
          rotate_left 1
          · (intro w hSw; (try dsimp only at hSw); go_simp; all_goals (with_reducible rfl))
          try simp only [Act.put, List.setIfInBounds_toArray, List.set_cons_zero, List.set_cons_succ]
          refine wpAnyH_take (i := 5) (oi := { dst := some 116, op := Op.fieldAddr 35 (Operand.tmp 7) 3, type := 0, pos := "law.go:100", after := #[], guard := none }) (v := ?_) rfl (by kernel_rfl) (by kernel_rfl) (by kernel_rfl) (fun _ _ _ h => h) (Or.inl ⟨by rfl, ?_⟩) (by assumption) ?_
          rotate_left 1
          · (intro w hSw; (try dsimp only at hSw); go_simp; all_goals (with_reducible rfl))
          try simp only [Act.put, List.setIfInBounds_toArray, List.set_cons_zero, List.set_cons_succ]
          refine wpAnyH_take (i := 6) (oi := { dst := some 117, op := Op.load 9 (Operand.tmp 116), type := 9, pos := "law.go:100", after := #[{ on := 5, ground := Ground.data }], guard := none }) (v := ?_) rfl (by kernel_rfl) (by kernel_rfl) (by kernel_rfl) (fun _ _ _ h => h) (Or.inl ⟨by rfl, ?_⟩) (by assumption) ?_
          rotate_left 1
          · (intro w hSw; (try dsimp only at hSw); go_simp; all_goals (with_reducible rfl))
          try simp only [Act.put, List.setIfInBounds_toArray, List.set_cons_zero, List.set_cons_succ]
          refine wpAnyH_take (i := 7) (oi := { dst := some 118, op := Op.fieldAddr 35 (Operand.tmp 7) 5, type := 0, pos := "law.go:100", after := #[], guard := none }) (v := ?_) rfl (by kernel_rfl) (by kernel_rfl) (by kernel_rfl) (fun _ _ _ h => h) (Or.inl ⟨by rfl, ?_⟩) (by assumption) ?_
          rotate_left 1
          · (intro w hSw; (try dsimp only at hSw); go_simp; all_goals (with_reducible rfl))
          try simp only [Act.put, List.setIfInBounds_toArray, List.set_cons_zero, List.set_cons_succ]
          refine wpAnyH_take (i := 8) (oi := { dst := some 119, op := Op.load 4 (Operand.tmp 118), type := 4, pos := "law.go:100", after := #[{ on := 7, ground := Ground.data }], guard := none }) (v := ?_) rfl (by kernel_rfl) (by kernel_rfl) (by kernel_rfl) (fun _ _ _ h => h) (Or.inl ⟨by rfl, ?_⟩) (by assumption) ?_
          rotate_left 1
          · (intro w hSw; (try dsimp only at hSw); go_simp; all_goals (with_reducible rfl))
          try simp only [Act.put, List.setIfInBounds_toArray, List.set_cons_zero, List.set_cons_succ]
          refine wpAnyH_take (i := 9) (oi := { dst := some 120, op := Op.move (Operand.tmp 8), type := 33, pos := "law.go:100", after := #[], guard := none }) (v := ?_) rfl (by kernel_rfl) (by kernel_rfl) (by kernel_rfl) (fun _ _ _ h => h) (Or.inl ⟨by rfl, ?_⟩) (by assumption) ?_
          rotate_left 1
          · (intro w hSw; (try dsimp only at hSw); go_simp; all_goals (with_reducible rfl))
          try simp only [Act.put, List.setIfInBounds_toArray, List.set_cons_zero, List.set_cons_succ]
          refine wpAnyH_ready (rs := [4, 10]) (by kernel_rfl) (by simp) ?_
          refine AllReadyH.cons (o := { dst := some 115, op := Op.load 28 (Operand.tmp 114), type := 28, pos := "law.go:100", after := #[{ on := 3, ground := Ground.data }], guard := none }) rfl (fun K hK => ?_) (AllReadyH.cons (o := { dst := some 121, op := Op.call { callee := Callee.builtin Builtin.append, args := #[Operand.const (Value.slice none 0 0), Operand.tmp 120], argTypes := #[33, 33] }, type := 33, pos := "law.go:100", after := #[{ on := 9, ground := Ground.data }], guard := none }) rfl (fun K hK => ?_) AllReadyH.nil)
          · skip
            go_simp
            refine hK.out _ _ ?_ (fun hHeld => ?_)
            · ((try dsimp only); first | assumption | exact HSo.out _ (Below.refl _ _).drew)
            clear hK K
            try simp only [Act.put, List.setIfInBounds_toArray, List.set_cons_zero, List.set_cons_succ]
            refine wpAnyH_ready (rs := [10]) (by kernel_rfl) (by simp) ?_
            refine AllReadyH.cons (o := { dst := some 121, op := Op.call { callee := Callee.builtin Builtin.append, args := #[Operand.const (Value.slice none 0 0), Operand.tmp 120], argTypes := #[33, 33] }, type := 33, pos := "law.go:100", after := #[{ on := 9, ground := Ground.data }], guard := none }) rfl (fun K hK => ?_) AllReadyH.nil
            refine step_append_rb (B := w6.heap.size) (l := []) (m := l) (sv := .slice none 0 0) (v := .slice p8 m c8) rfl _ _ 33 33 rfl Try.underlying33 Try.underlying33 (by intro k h; cases h) hib hz0 hz1 hz2 rfl rfl (.inl ⟨rfl, rfl⟩) (HSr6.out _ (Below.refl _ _).drew) (Nat.le_refl _) (by simp; omega) ?_
            intro s7 w7 hr7 hb7
            rw [List.nil_append] at hr7
            obtain ⟨p7, c7, rfl, _, _⟩ := RB.shape hr7
            have HR7 := Lib.hid hr7
            have HB7 := Lib.hid ((Below.refl _ w6).drew.trans hb7)
            have r37 := HCl6.out _ ((Below.refl _ w6).drew.trans hb7)
            have r37o := fun o => HCl6.out _ (HB7.out.alloc HB7.out.size o)
            clear hr7 hb7
            refine hK.out _ _ ?_ (fun hHeld => ?_)
            · ((try dsimp only); first | assumption | exact HSo.out _ HB7.out)
            clear hK K
            try simp only [Act.put, List.setIfInBounds_toArray, List.set_cons_zero, List.set_cons_succ]
            refine wpAnyH_take (i := 11) (oi := { dst := some 122, op := Op.build 42 #[(0, Operand.tmp 117), (1, Operand.tmp 119), (2, Operand.tmp 121)], type := 42, pos := "law.go:100", after := #[{ on := 6, ground := Ground.data }, { on := 8, ground := Ground.data }, { on := 10, ground := Ground.data }], guard := none }) (v := ?_) rfl (by kernel_rfl) (by kernel_rfl) (by kernel_rfl) (fun _ _ _ h => h) (Or.inl ⟨by rfl, ?_⟩) (by assumption) ?_
            rotate_left 1
            · (intro w hSw; (try dsimp only at hSw); go_simp; all_goals (with_reducible rfl))
            try simp only [Act.put, List.setIfInBounds_toArray, List.set_cons_zero, List.set_cons_succ]
            refine wpAnyH_ready (rs := [12]) (by kernel_rfl) (by simp) ?_
            refine AllReadyH.cons (o := { dst := some 123, op := Op.buildSlice 28 1 #[(0, Operand.tmp 122)], type := 28, pos := "law.go:100", after := #[{ on := 11, ground := Ground.data }], guard := none }) rfl (fun K hK => ?_) AllReadyH.nil
            go_simp
            refine hK.out _ _ ?_ (fun hHeld => ?_)
            · ((try dsimp only); first | assumption | exact HSo.out _ (HB7.out.alloc HB7.out.size _) | exact HSo.out _ (HB7.out.alloc HB7.out.size _).drew)
            clear hK K
            try simp only [Act.put, List.setIfInBounds_toArray, List.set_cons_zero, List.set_cons_succ]
            clear r3 r3d r37 r37o
            refine wpAnyH_ready (rs := [13]) (by kernel_rfl) (by simp) ?_
            refine AllReadyH.cons (o := { dst := some 124, op := Op.call { callee := Callee.builtin Builtin.append, args := #[Operand.tmp 115, Operand.tmp 123], argTypes := #[28, 28] }, type := 28, pos := "law.go:100", after := #[{ on := 4, ground := Ground.data }, { on := 12, ground := Ground.data }, { on := 10, ground := Ground.chain }], guard := none }) rfl (fun K hK => ?_) AllReadyH.nil
            refine step_append_lies _ (by rfl) _ _ _ (by rfl) 0 42 jb (.agg #[.string ⟨#[]⟩, .bool false, .slice none 0 0]) 3 48 Try.underlying28 hjb hy0 hy1 hy2 rfl (by decide) (.slice q6 s.sent.length cap6) s.sent.length (M6.flatMap fun x => dgrC x.1 x.2) (by rfl) (HRow6.out _ (HB7.out.alloc HB7.out.size _)) ⟨w7.heap.size, 0, none⟩ 1 1 [.string zn, .bool zl, .slice p7 m c7] (by rfl) rfl (new_cells3 _ _ _ _ _) (by simp [Value.oneCell']) (by decide) (by unfold maxLen; omega) (by omega) (Nat.zero_le _) (w7.heap.size + 1) (size_alloc1 _ _) ?_
            intro g4 cap4 w8 ho8 hg8 hat8 hlt8
            have h7 := HR7.out
            rw [hl] at h7
            have h8s := hg8.size
            rw [size_alloc1] at h8s
            have hs7 := HB7.out.size
            obtain ⟨k8, f8, hoc8, htw8⟩ := HFi6.out _ w8 g4 cap4 m c7 p7 (zn, zl, l) (HB7.out.alloc HB7.out.size _) ho8 hg8 (by rcases hat8 with h | h; exact .inl h; exact .inr (by omega)) (RB.alloc (RB.base h7 (Nat.zero_le _)) _) (fun q e => by have h1 := (RB.blk h7 e).1; have h2 := (RB.blk h7 e).2; omega)
            have HT8 := Lib.hid htw8
            have HOc8 := Lib.hid hoc8
            clear h7 htw8 hoc8 ho8 hg8 hat8
            refine hK.out _ _ ?_ (fun hHeld => ?_)
            · ((try dsimp only); first | assumption | exact ⟨(HOc8.out _ _ HOc.out.2.2.2.1).1, (HOc8.out _ _ HOc.out.2.2.2.2).1⟩)
            clear hK K
            try simp only [Act.put, List.setIfInBounds_toArray, List.set_cons_zero, List.set_cons_succ]
            refine wpAnyH_take (i := 14) (oi := { dst := some 125, op := Op.nilCheck (Operand.tmp 111), type := 0, pos := "law.go:100", after := #[{ on := 0, ground := Ground.data }, { on := 0, ground := Ground.phase }, { on := 1, ground := Ground.phase }, { on := 2, ground := Ground.phase }, { on := 3, ground := Ground.phase }, { on := 4, ground := Ground.phase }, { on := 5, ground := Ground.phase }, { on := 6, ground := Ground.phase }, { on := 7, ground := Ground.phase }, { on := 8, ground := Ground.phase }, { on := 9, ground := Ground.phase }, { on := 10, ground := Ground.phase }, { on := 11, ground := Ground.phase }, { on := 12, ground := Ground.phase }, { on := 13, ground := Ground.phase }], guard := none }) (v := ?_) rfl (by kernel_rfl) (by kernel_rfl) (by kernel_rfl) (fun _ _ _ h => h) (Or.inl ⟨by rfl, ?_⟩) (by assumption) ?_
            rotate_left 1
            · (intro w hSw; (try dsimp only at hSw); go_simp; all_goals (with_reducible rfl))
            try simp only [Act.put, List.setIfInBounds_toArray, List.set_cons_zero, List.set_cons_succ]
            refine wpAnyH_take (i := 15) (oi := { dst := some 126, op := Op.fieldAddr 32 (Operand.tmp 125) 3, type := 0, pos := "law.go:100", after := #[{ on := 14, ground := Ground.data }, { on := 0, ground := Ground.phase }, { on := 1, ground := Ground.phase }, { on := 2, ground := Ground.phase }, { on := 3, ground := Ground.phase }, { on := 4, ground := Ground.phase }, { on := 5, ground := Ground.phase }, { on := 6, ground := Ground.phase }, { on := 7, ground := Ground.phase }, { on := 8, ground := Ground.phase }, { on := 9, ground := Ground.phase }, { on := 10, ground := Ground.phase }, { on := 11, ground := Ground.phase }, { on := 12, ground := Ground.phase }, { on := 13, ground := Ground.phase }], guard := none }) (v := ?_) rfl (by kernel_rfl) (by kernel_rfl) (by kernel_rfl) (fun _ _ _ h => h) (Or.inl ⟨by rfl, ?_⟩) (by assumption) ?_
            rotate_left 1
            · (intro w hSw; (try dsimp only at hSw); go_simp; all_goals (with_reducible rfl))
            try simp only [Act.put, List.setIfInBounds_toArray, List.set_cons_zero, List.set_cons_succ]
            refine wpAnyH_ready (rs := [16]) (by kernel_rfl) (by simp) ?_
            refine AllReadyH.cons (o := { dst := none, op := Op.store 28 (Operand.tmp 126) (Operand.tmp 124), type := 0, pos := "law.go:100", after := #[{ on := 15, ground := Ground.data }, { on := 13, ground := Ground.data }, { on := 13, ground := Ground.chain }, { on := 0, ground := Ground.phase }, { on := 1, ground := Ground.phase }, { on := 2, ground := Ground.phase }, { on := 3, ground := Ground.phase }, { on := 4, ground := Ground.phase }, { on := 5, ground := Ground.phase }, { on := 6, ground := Ground.phase }, { on := 7, ground := Ground.phase }, { on := 8, ground := Ground.phase }, { on := 9, ground := Ground.phase }, { on := 10, ground := Ground.phase }, { on := 11, ground := Ground.phase }, { on := 12, ground := Ground.phase }, { on := 13, ground := Ground.phase }], guard := none }) rfl (fun K hK => ?_) AllReadyH.nil
            go_simp
            refine hK.out _ _ ?_ (fun hHeld => ?_)
            · ((try dsimp only); first | assumption | exact ⟨(HOc8.out _ _ HOc.out.2.2.2.1).2, (HOc8.out _ _ HOc.out.2.2.2.2).2⟩)
            clear hK K
            try simp only [Act.put, List.setIfInBounds_toArray, List.set_cons_zero, List.set_cons_succ]
            refine wpAnyH_done (by kernel_rfl) ?_ _
            refine NoPanic.normal ?_
            go_wp2
            go_meet
            exact ⟨b, r, d, _, rfl, rfl, HT8.out, okm_send HO.out hlt2 _ hl60⟩
          · skip
            refine step_append_rb (B := w6.heap.size) (l := []) (m := l) (sv := .slice none 0 0) (v := .slice p8 m c8) rfl _ _ 33 33 rfl Try.underlying33 Try.underlying33 (by intro k h; cases h) hib hz0 hz1 hz2 rfl rfl (.inl ⟨rfl, rfl⟩) (HSr6.out _ (Below.refl _ _).drew) (Nat.le_refl _) (by simp; omega) ?_
            intro s7 w7 hr7 hb7
            rw [List.nil_append] at hr7
            obtain ⟨p7, c7, rfl, _, _⟩ := RB.shape hr7
            have HR7 := Lib.hid hr7
            have HB7 := Lib.hid ((Below.refl _ w6).drew.trans hb7)
            have r37 := HCl6.out _ ((Below.refl _ w6).drew.trans hb7)
            have r37o := fun o => HCl6.out _ (HB7.out.alloc HB7.out.size o)
            clear hr7 hb7
            refine hK.out _ _ ?_ (fun hHeld => ?_)
            · ((try dsimp only); first | assumption | exact HSo.out _ HB7.out)
            clear hK K
            try simp only [Act.put, List.setIfInBounds_toArray, List.set_cons_zero, List.set_cons_succ]
            refine wpAnyH_take (i := 11) (oi := { dst := some 122, op := Op.build 42 #[(0, Operand.tmp 117), (1, Operand.tmp 119), (2, Operand.tmp 121)], type := 42, pos := "law.go:100", after := #[{ on := 6, ground := Ground.data }, { on := 8, ground := Ground.data }, { on := 10, ground := Ground.data }], guard := none }) (v := ?_) rfl (by kernel_rfl) (by kernel_rfl) (by kernel_rfl) (fun _ _ _ h => h) (Or.inl ⟨by rfl, ?_⟩) (by assumption) ?_
            rotate_left 1
            · (intro w hSw; (try dsimp only at hSw); go_simp; all_goals (with_reducible rfl))
            try simp only [Act.put, List.setIfInBounds_toArray, List.set_cons_zero, List.set_cons_succ]
            refine wpAnyH_ready (rs := [4, 12]) (by kernel_rfl) (by simp) ?_
            refine AllReadyH.cons (o := { dst := some 115, op := Op.load 28 (Operand.tmp 114), type := 28, pos := "law.go:100", after := #[{ on := 3, ground := Ground.data }], guard := none }) rfl (fun K hK => ?_) (AllReadyH.cons (o := { dst := some 123, op := Op.buildSlice 28 1 #[(0, Operand.tmp 122)], type := 28, pos := "law.go:100", after := #[{ on := 11, ground := Ground.data }], guard := none }) rfl (fun K hK => ?_) AllReadyH.nil)
            · skip
              go_simp
              refine hK.out _ _ ?_ (fun hHeld => ?_)
              · ((try dsimp only); first | assumption | exact HSo.out _ HB7.out)
              clear hK K
              try simp only [Act.put, List.setIfInBounds_toArray, List.set_cons_zero, List.set_cons_succ]
              refine wpAnyH_ready (rs := [12]) (by kernel_rfl) (by simp) ?_
              refine AllReadyH.cons (o := { dst := some 123, op := Op.buildSlice 28 1 #[(0, Operand.tmp 122)], type := 28, pos := "law.go:100", after := #[{ on := 11, ground := Ground.data }], guard := none }) rfl (fun K hK => ?_) AllReadyH.nil
              go_simp
              refine hK.out _ _ ?_ (fun hHeld => ?_)
              · ((try dsimp only); first | assumption | exact HSo.out _ (HB7.out.alloc HB7.out.size _) | exact HSo.out _ (HB7.out.alloc HB7.out.size _).drew)
              clear hK K
              try simp only [Act.put, List.setIfInBounds_toArray, List.set_cons_zero, List.set_cons_succ]
              clear r3 r3d r37 r37o
              refine wpAnyH_ready (rs := [13]) (by kernel_rfl) (by simp) ?_
              refine AllReadyH.cons (o := { dst := some 124, op := Op.call { callee := Callee.builtin Builtin.append, args := #[Operand.tmp 115, Operand.tmp 123], argTypes := #[28, 28] }, type := 28, pos := "law.go:100", after := #[{ on := 4, ground := Ground.data }, { on := 12, ground := Ground.data }, { on := 10, ground := Ground.chain }], guard := none }) rfl (fun K hK => ?_) AllReadyH.nil
              refine step_append_lies _ (by rfl) _ _ _ (by rfl) 0 42 jb (.agg #[.string ⟨#[]⟩, .bool false, .slice none 0 0]) 3 48 Try.underlying28 hjb hy0 hy1 hy2 rfl (by decide) (.slice q6 s.sent.length cap6) s.sent.length (M6.flatMap fun x => dgrC x.1 x.2) (by rfl) (HRow6.out _ (HB7.out.alloc HB7.out.size _)) ⟨w7.heap.size, 0, none⟩ 1 1 [.string zn, .bool zl, .slice p7 m c7] (by rfl) rfl (new_cells3 _ _ _ _ _) (by simp [Value.oneCell']) (by decide) (by unfold maxLen; omega) (by omega) (Nat.zero_le _) (w7.heap.size + 1) (size_alloc1 _ _) ?_
              intro g4 cap4 w8 ho8 hg8 hat8 hlt8
              have h7 := HR7.out
              rw [hl] at h7
              have h8s := hg8.size
              rw [size_alloc1] at h8s
              have hs7 := HB7.out.size
              obtain ⟨k8, f8, hoc8, htw8⟩ := HFi6.out _ w8 g4 cap4 m c7 p7 (zn, zl, l) (HB7.out.alloc HB7.out.size _) ho8 hg8 (by rcases hat8 with h | h; exact .inl h; exact .inr (by omega)) (RB.alloc (RB.base h7 (Nat.zero_le _)) _) (fun q e => by have h1 := (RB.blk h7 e).1; have h2 := (RB.blk h7 e).2; omega)
              have HT8 := Lib.hid htw8
              have HOc8 := Lib.hid hoc8
              clear h7 htw8 hoc8 ho8 hg8 hat8
              refine hK.out _ _ ?_ (fun hHeld => ?_)
              · ((try dsimp only); first | assumption | exact ⟨(HOc8.out _ _ HOc.out.2.2.2.1).1, (HOc8.out _ _ HOc.out.2.2.2.2).1⟩)
              clear hK K
              try simp only [Act.put, List.setIfInBounds_toArray, List.set_cons_zero, List.set_cons_succ]
              refine wpAnyH_take (i := 14) (oi := { dst := some 125, op := Op.nilCheck (Operand.tmp 111), type := 0, pos := "law.go:100", after := #[{ on := 0, ground := Ground.data }, { on := 0, ground := Ground.phase }, { on := 1, ground := Ground.phase }, { on := 2, ground := Ground.phase }, { on := 3, ground := Ground.phase }, { on := 4, ground := Ground.phase }, { on := 5, ground := Ground.phase }, { on := 6, ground := Ground.phase }, { on := 7, ground := Ground.phase }, { on := 8, ground := Ground.phase }, { on := 9, ground := Ground.phase }, { on := 10, ground := Ground.phase }, { on := 11, ground := Ground.phase }, { on := 12, ground := Ground.phase }, { on := 13, ground := Ground.phase }], guard := none }) (v := ?_) rfl (by kernel_rfl) (by kernel_rfl) (by kernel_rfl) (fun _ _ _ h => h) (Or.inl ⟨by rfl, ?_⟩) (by assumption) ?_
              rotate_left 1
              · (intro w hSw; (try dsimp only at hSw); go_simp; all_goals (with_reducible rfl))
              try simp only [Act.put, List.setIfInBounds_toArray, List.set_cons_zero, List.set_cons_succ]
              refine wpAnyH_take (i := 15) (oi := { dst := some 126, op := Op.fieldAddr 32 (Operand.tmp 125) 3, type := 0, pos := "law.go:100", after := #[{ on := 14, ground := Ground.data }, { on := 0, ground := Ground.phase }, { on := 1, ground := Ground.phase }, { on := 2, ground := Ground.phase }, { on := 3, ground := Ground.phase }, { on := 4, ground := Ground.phase }, { on := 5, ground := Ground.phase }, { on := 6, ground := Ground.phase }, { on := 7, ground := Ground.phase }, { on := 8, ground := Ground.phase }, { on := 9, ground := Ground.phase }, { on := 10, ground := Ground.phase }, { on := 11, ground := Ground.phase }, { on := 12, ground := Ground.phase }, { on := 13, ground := Ground.phase }], guard := none }) (v := ?_) rfl (by kernel_rfl) (by kernel_rfl) (by kernel_rfl) (fun _ _ _ h => h) (Or.inl ⟨by rfl, ?_⟩) (by assumption) ?_
              rotate_left 1
              · (intro w hSw; (try dsimp only at hSw); go_simp; all_goals (with_reducible rfl))
              try simp only [Act.put, List.setIfInBounds_toArray, List.set_cons_zero, List.set_cons_succ]
              refine wpAnyH_ready (rs := [16]) (by kernel_rfl) (by simp) ?_
              refine AllReadyH.cons (o := { dst := none, op := Op.store 28 (Operand.tmp 126) (Operand.tmp 124), type := 0, pos := "law.go:100", after := #[{ on := 15, ground := Ground.data }, { on := 13, ground := Ground.data }, { on := 13, ground := Ground.chain }, { on := 0, ground := Ground.phase }, { on := 1, ground := Ground.phase }, { on := 2, ground := Ground.phase }, { on := 3, ground := Ground.phase }, { on := 4, ground := Ground.phase }, { on := 5, ground := Ground.phase }, { on := 6, ground := Ground.phase }, { on := 7, ground := Ground.phase }, { on := 8, ground := Ground.phase }, { on := 9, ground := Ground.phase }, { on := 10, ground := Ground.phase }, { on := 11, ground := Ground.phase }, { on := 12, ground := Ground.phase }, { on := 13, ground := Ground.phase }], guard := none }) rfl (fun K hK => ?_) AllReadyH.nil
              go_simp
              refine hK.out _ _ ?_ (fun hHeld => ?_)
              · ((try dsimp only); first | assumption | exact ⟨(HOc8.out _ _ HOc.out.2.2.2.1).2, (HOc8.out _ _ HOc.out.2.2.2.2).2⟩)
              clear hK K
              try simp only [Act.put, List.setIfInBounds_toArray, List.set_cons_zero, List.set_cons_succ]
              refine wpAnyH_done (by kernel_rfl) ?_ _
              refine NoPanic.normal ?_
              go_wp2
              go_meet
              exact ⟨b, r, d, _, rfl, rfl, HT8.out, okm_send HO.out hlt2 _ hl60⟩
            · skip
              go_simp
              refine hK.out _ _ ?_ (fun hHeld => ?_)
              · ((try dsimp only); first | assumption | exact HSo.out _ (HB7.out.alloc HB7.out.size _) | exact HSo.out _ (HB7.out.alloc HB7.out.size _).drew)
              clear hK K
              try simp only [Act.put, List.setIfInBounds_toArray, List.set_cons_zero, List.set_cons_succ]
              refine wpAnyH_ready (rs := [4]) (by kernel_rfl) (by simp) ?_
              refine AllReadyH.cons (o := { dst := some 115, op := Op.load 28 (Operand.tmp 114), type := 28, pos := "law.go:100", after := #[{ on := 3, ground := Ground.data }], guard := none }) rfl (fun K hK => ?_) AllReadyH.nil
              go_simp
              refine hK.out _ _ ?_ (fun hHeld => ?_)
              · ((try dsimp only); first | assumption | exact HSo.out _ (HB7.out.alloc HB7.out.size _) | exact HSo.out _ (HB7.out.alloc HB7.out.size _).drew)
              clear hK K
              try simp only [Act.put, List.setIfInBounds_toArray, List.set_cons_zero, List.set_cons_succ]
              clear r3 r3d r37 r37o
              refine wpAnyH_ready (rs := [13]) (by kernel_rfl) (by simp) ?_
              refine AllReadyH.cons (o := { dst := some 124, op := Op.call { callee := Callee.builtin Builtin.append, args := #[Operand.tmp 115, Operand.tmp 123], argTypes := #[28, 28] }, type := 28, pos := "law.go:100", after := #[{ on := 4, ground := Ground.data }, { on := 12, ground := Ground.data }, { on := 10, ground := Ground.chain }], guard := none }) rfl (fun K hK => ?_) AllReadyH.nil
              refine step_append_lies _ (by rfl) _ _ _ (by rfl) 0 42 jb (.agg #[.string ⟨#[]⟩, .bool false, .slice none 0 0]) 3 48 Try.underlying28 hjb hy0 hy1 hy2 rfl (by decide) (.slice q6 s.sent.length cap6) s.sent.length (M6.flatMap fun x => dgrC x.1 x.2) (by rfl) (HRow6.out _ (HB7.out.alloc HB7.out.size _)) ⟨w7.heap.size, 0, none⟩ 1 1 [.string zn, .bool zl, .slice p7 m c7] (by rfl) rfl (new_cells3 _ _ _ _ _) (by simp [Value.oneCell']) (by decide) (by unfold maxLen; omega) (by omega) (Nat.zero_le _) (w7.heap.size + 1) (size_alloc1 _ _) ?_
              intro g4 cap4 w8 ho8 hg8 hat8 hlt8
              have h7 := HR7.out
              rw [hl] at h7
              have h8s := hg8.size
              rw [size_alloc1] at h8s
              have hs7 := HB7.out.size
              obtain ⟨k8, f8, hoc8, htw8⟩ := HFi6.out _ w8 g4 cap4 m c7 p7 (zn, zl, l) (HB7.out.alloc HB7.out.size _) ho8 hg8 (by rcases hat8 with h | h; exact .inl h; exact .inr (by omega)) (RB.alloc (RB.base h7 (Nat.zero_le _)) _) (fun q e => by have h1 := (RB.blk h7 e).1; have h2 := (RB.blk h7 e).2; omega)
              have HT8 := Lib.hid htw8
              have HOc8 := Lib.hid hoc8
              clear h7 htw8 hoc8 ho8 hg8 hat8
              refine hK.out _ _ ?_ (fun hHeld => ?_)
              · ((try dsimp only); first | assumption | exact ⟨(HOc8.out _ _ HOc.out.2.2.2.1).1, (HOc8.out _ _ HOc.out.2.2.2.2).1⟩)
              clear hK K
              try simp only [Act.put, List.setIfInBounds_toArray, List.set_cons_zero, List.set_cons_succ]
              refine wpAnyH_take (i := 14) (oi := { dst := some 125, op := Op.nilCheck (Operand.tmp 111), type := 0, pos := "law.go:100", after := #[{ on := 0, ground := Ground.data }, { on := 0, ground := Ground.phase }, { on := 1, ground := Ground.phase }, { on := 2, ground := Ground.phase }, { on := 3, ground := Ground.phase }, { on := 4, ground := Ground.phase }, { on := 5, ground := Ground.phase }, { on := 6, ground := Ground.phase }, { on := 7, ground := Ground.phase }, { on := 8, ground := Ground.phase }, { on := 9, ground := Ground.phase }, { on := 10, ground := Ground.phase }, { on := 11, ground := Ground.phase }, { on := 12, ground := Ground.phase }, { on := 13, ground := Ground.phase }], guard := none }) (v := ?_) rfl (by kernel_rfl) (by kernel_rfl) (by kernel_rfl) (fun _ _ _ h => h) (Or.inl ⟨by rfl, ?_⟩) (by assumption) ?_
              rotate_left 1
              · (intro w hSw; (try dsimp only at hSw); go_simp; all_goals (with_reducible rfl))
              try simp only [Act.put, List.setIfInBounds_toArray, List.set_cons_zero, List.set_cons_succ]
              refine wpAnyH_take (i := 15) (oi := { dst := some 126, op := Op.fieldAddr 32 (Operand.tmp 125) 3, type := 0, pos := "law.go:100", after := #[{ on := 14, ground := Ground.data }, { on := 0, ground := Ground.phase }, { on := 1, ground := Ground.phase }, { on := 2, ground := Ground.phase }, { on := 3, ground := Ground.phase }, { on := 4, ground := Ground.phase }, { on := 5, ground := Ground.phase }, { on := 6, ground := Ground.phase }, { on := 7, ground := Ground.phase }, { on := 8, ground := Ground.phase }, { on := 9, ground := Ground.phase }, { on := 10, ground := Ground.phase }, { on := 11, ground := Ground.phase }, { on := 12, ground := Ground.phase }, { on := 13, ground := Ground.phase }], guard := none }) (v := ?_) rfl (by kernel_rfl) (by kernel_rfl) (by kernel_rfl) (fun _ _ _ h => h) (Or.inl ⟨by rfl, ?_⟩) (by assumption) ?_
              rotate_left 1
              · (intro w hSw; (try dsimp only at hSw); go_simp; all_goals (with_reducible rfl))
              try simp only [Act.put, List.setIfInBounds_toArray, List.set_cons_zero, List.set_cons_succ]
              refine wpAnyH_ready (rs := [16]) (by kernel_rfl) (by simp) ?_
              refine AllReadyH.cons (o := { dst := none, op := Op.store 28 (Operand.tmp 126) (Operand.tmp 124), type := 0, pos := "law.go:100", after := #[{ on := 15, ground := Ground.data }, { on := 13, ground := Ground.data }, { on := 13, ground := Ground.chain }, { on := 0, ground := Ground.phase }, { on := 1, ground := Ground.phase }, { on := 2, ground := Ground.phase }, { on := 3, ground := Ground.phase }, { on := 4, ground := Ground.phase }, { on := 5, ground := Ground.phase }, { on := 6, ground := Ground.phase }, { on := 7, ground := Ground.phase }, { on := 8, ground := Ground.phase }, { on := 9, ground := Ground.phase }, { on := 10, ground := Ground.phase }, { on := 11, ground := Ground.phase }, { on := 12, ground := Ground.phase }, { on := 13, ground := Ground.phase }], guard := none }) rfl (fun K hK => ?_) AllReadyH.nil
              go_simp
              refine hK.out _ _ ?_ (fun hHeld => ?_)
              · ((try dsimp only); first | assumption | exact ⟨(HOc8.out _ _ HOc.out.2.2.2.1).2, (HOc8.out _ _ HOc.out.2.2.2.2).2⟩)
              clear hK K
              try simp only [Act.put, List.setIfInBounds_toArray, List.set_cons_zero, List.set_cons_succ]
              refine wpAnyH_done (by kernel_rfl) ?_ _
              refine NoPanic.normal ?_
              go_wp2
              go_meet
              exact ⟨b, r, d, _, rfl, rfl, HT8.out, okm_send HO.out hlt2 _ hl60⟩
        · as_aux_lemma =>
          have n7 : ((s.strm.length : Int) != (s.strm.length : Int)) = false := by simp
          have HTd := Lib.hid (HT.out.below (Below.refl _ _).drew)
          go_upto_region 32 with (fail)
          go_region_held3 (fun W2 => W2.cell? ⟨oB, 3, none⟩ = some (.string zn)) (first | exact HT7.out.op HOc.out.2.2.2.1 | exact HT6.out.op HOc.out.2.2.2.1 | exact HT8.out.op HOc.out.2.2.2.1 | exact HTd.out.op HOc.out.2.2.2.1) (first | ((go_at_call 14; refine (HT8.out.opened HO.out zn).mono ?_; rintro e w7 ⟨rfl, h7⟩; have HT7 := Lib.hid h7; clear h7)) | ((go_at_call 14; refine (HTd.out.opened HO.out zn).mono ?_; rintro e w6 ⟨rfl, h6⟩; have HT6 := Lib.hid h6; clear h6)) | ((go_at_call 15; refine (HT6.out.dopened HO.out zn).mono ?_; rintro e w7 ⟨rfl, h7⟩; have HT7 := Lib.hid h7; clear h7)) | ((go_at_call 15; refine (HTd.out.dopened HO.out zn).mono ?_; rintro e w6 ⟨rfl, h6⟩; have HT8 := Lib.hid h6; clear h6)))
          all_goals (
            go_wp2
            go_meet
            exact ⟨b, r, d, _, rfl, rfl, HT7.out, okm_open HO.out hlt2 zn⟩)
        · as_aux_lemma =>
          have HA1 := Lib.hid (HT.out.wrote HO.out hl60 zK hk1)
          go_wp2_with (first | (go_at_call 16; refine HA1.out.mono ?_; rintro e w6 ⟨rfl, h6⟩; have HT6 := Lib.hid h6; have HA2 := Lib.hid (h6.dwrote HO.out hl60 zK hk1); have q0 := h6.op HOc.out.2.1; clear h6) | (go_at_call 17; refine HA2.out.mono ?_; rintro e w7 ⟨rfl, h7⟩; have HT7 := Lib.hid h7; clear h7))
          go_meet
          exact ⟨b, r, d, _, rfl, rfl, HT7.out, okm_write HO.out hlt2 zK l hl60⟩
        · as_aux_lemma =>
          have HA1 := Lib.hid (HT.out.closed HO.out zK hk1)
          go_wp2_with (first | (go_at_call 18; refine HA1.out.mono ?_; rintro e w6 ⟨rfl, h6⟩; have HT6 := Lib.hid h6; have HA2 := Lib.hid (h6.dclosed HO.out zK hk1); have q0 := h6.op HOc.out.2.1; clear h6) | (go_at_call 19; refine HA2.out.mono ?_; rintro e w7 ⟨rfl, h7⟩; have HT7 := Lib.hid h7; clear h7))
          go_meet
          exact ⟨b, r, d, _, rfl, rfl, HT7.out, okm_close HO.out hlt2 zK⟩
        · as_aux_lemma =>
          have HA1 := Lib.hid (HT.out.appended HO.out hl60 zn s1)
          go_upto_region 45 with (go_at_call 20; refine HA1.out.mono ?_; rintro e w6 ⟨rfl, h6⟩; have HT6 := Lib.hid h6; clear h6)
          obtain ⟨q6, cap6, M6, hrow6, hcl6, hfi6⟩ := HT6.out.rawPre
          have HRow6 := Lib.hid hrow6
          have HCl6 := Lib.hid hcl6
          have HFi6 := Lib.hid hfi6
          have HSo : Hid (∀ W2, Below w6.heap.size w6 W2 → W2.cell? ⟨oB, 3, none⟩ = some (.string zn) ∧ W2.cell? ⟨oB, 0, none⟩ = some (.int .i64 7)) := Lib.hid (fun W2 hW2 => ⟨(HT6.out.below hW2).op HOc.out.2.2.2.1, (HT6.out.below hW2).op HOc.out.1⟩)
          obtain ⟨ib, hib, hz0, hz1, hz2⟩ := info_parts' infoU8
          obtain ⟨jb, hjb, hy0, hy1, hy2⟩ := info_parts' infoRaw
          have HSr6 : Hid (∀ W2, Below w6.heap.size w6 W2 → Src Try.prog W2 (.slice p8 m c8) l) := Lib.hid (fun W2 hW2 => RB.src ((HT6.out.below hW2).it.elim fun _ h => h.2.2.2.2.rb))
          have r3 := hcl6 _ (Below.refl _ _)
          have r3d := hcl6 _ (Below.refl _ _).drew
          have hfl : s.raws.length ≤ 40 := by have := HO.out.raws; have := HO.out.few; omega
          clear hrow6 hcl6 hfi6
          go_upto_region 45 with (fail)
          refine wp_region_noPanic ?_
          refine wp_region_held_drew (S := fun W2 => W2.cell? ⟨oB, 3, none⟩ = some (.string zn) ∧ W2.cell? ⟨oB, 0, none⟩ = some (.int .i64 7)) (by kernel_rfl) (HSo.out _ (Below.refl _ _).drew) (fun hHeld => ?_)
          refine wpAnyH_take (i := 0) (oi := { dst := some 176, op := Op.move (Operand.tmp 5), type := 26, pos := "law.go:117", after := #[], guard := none }) (v := ?_) rfl (by kernel_rfl) (by kernel_rfl) (by kernel_rfl) (fun _ _ _ h => h) (Or.inl ⟨by rfl, ?_⟩) (by assumption) ?_
          rotate_left 1
          · (intro w hSw; (try dsimp only at hSw); go_simp; all_goals (with_reducible rfl))
          try simp only [Act.put, List.setIfInBounds_toArray, List.set_cons_zero, List.set_cons_succ]
          refine wpAnyH_take (i := 1) (oi := { dst := some 177, op := Op.move (Operand.tmp 5), type := 26, pos := "law.go:117", after := #[], guard := none }) (v := ?_) rfl (by kernel_rfl) (by kernel_rfl) (by kernel_rfl) (fun _ _ _ h => h) (Or.inl ⟨by rfl, ?_⟩) (by assumption) ?_
          rotate_left 1
          · (intro w hSw; (try dsimp only at hSw); go_simp; all_goals (with_reducible rfl))
          try simp only [Act.put, List.setIfInBounds_toArray, List.set_cons_zero, List.set_cons_succ]
          refine wpAnyH_take (i := 2) (oi := { dst := some 178, op := Op.nilCheck (Operand.tmp 177), type := 0, pos := "law.go:117", after := #[{ on := 1, ground := Ground.data }], guard := none }) (v := ?_) rfl (by kernel_rfl) (by kernel_rfl) (by kernel_rfl) (fun _ _ _ h => h) (Or.inl ⟨by rfl, ?_⟩) (by assumption) ?_
          rotate_left 1
          · (intro w hSw; (try dsimp only at hSw); go_simp; all_goals (with_reducible rfl))
          try simp only [Act.put, List.setIfInBounds_toArray, List.set_cons_zero, List.set_cons_succ]
          refine wpAnyH_take (i := 3) (oi := { dst := some 179, op := Op.fieldAddr 32 (Operand.tmp 178) 5, type := 0, pos := "law.go:117", after := #[{ on := 2, ground := Ground.data }], guard := none }) (v := ?_) rfl (by kernel_rfl) (by kernel_rfl) (by kernel_rfl) (fun _ _ _ h => h) (Or.inl ⟨by rfl, ?_⟩) (by assumption) ?_
          rotate_left 1
          · (intro w hSw; (try dsimp only at hSw); go_simp; all_goals (with_reducible rfl))
          try simp only [Act.put, List.setIfInBounds_toArray, List.set_cons_zero, List.set_cons_succ]
          refine wpAnyH_take (i := 5) (oi := { dst := some 181, op := Op.fieldAddr 35 (Operand.tmp 7) 3, type := 0, pos := "law.go:117", after := #[], guard := none }) (v := ?_) rfl (by kernel_rfl) (by kernel_rfl) (by kernel_rfl) (fun _ _ _ h => h) (Or.inl ⟨by rfl, ?_⟩) (by assumption) ?_
          rotate_left 1
          · (intro w hSw; (try dsimp only at hSw); go_simp; all_goals (with_reducible rfl))
          try simp only [Act.put, List.setIfInBounds_toArray, List.set_cons_zero, List.set_cons_succ]
          refine wpAnyH_take (i := 6) (oi := { dst := some 182, op := Op.load 9 (Operand.tmp 181), type := 9, pos := "law.go:117", after := #[{ on := 5, ground := Ground.data }], guard := none }) (v := ?_) rfl (by kernel_rfl) (by kernel_rfl) (by kernel_rfl) (fun _ _ _ h => h) (Or.inl ⟨by rfl, ?_⟩) (by assumption) ?_
          rotate_left 1
          · (intro w hSw; (try dsimp only at hSw); go_simp; all_goals (with_reducible rfl))
          try simp only [Act.put, List.setIfInBounds_toArray, List.set_cons_zero, List.set_cons_succ]
          refine wpAnyH_take (i := 7) (oi := { dst := some 183, op := Op.move (Operand.tmp 8), type := 33, pos := "law.go:117", after := #[], guard := none }) (v := ?_) rfl (by kernel_rfl) (by kernel_rfl) (by kernel_rfl) (fun _ _ _ h => h) (Or.inl ⟨by rfl, ?_⟩) (by assumption) ?_
          rotate_left 1
          · (intro w hSw; (try dsimp only at hSw); go_simp; all_goals (with_reducible rfl))
          try simp only [Act.put, List.setIfInBounds_toArray, List.set_cons_zero, List.set_cons_succ]
          refine wpAnyH_take (i := 9) (oi := { dst := some 185, op := Op.fieldAddr 35 (Operand.tmp 7) 0, type := 0, pos := "law.go:117", after := #[], guard := none }) (v := ?_) rfl (by kernel_rfl) (by kernel_rfl) (by kernel_rfl) (fun _ _ _ h => h) (Or.inl ⟨by rfl, ?_⟩) (by assumption) ?_
          rotate_left 1
          · (intro w hSw; (try dsimp only at hSw); go_simp; all_goals (with_reducible rfl))
          try simp only [Act.put, List.setIfInBounds_toArray, List.set_cons_zero, List.set_cons_succ]
          refine wpAnyH_take (i := 10) (oi := { dst := some 186, op := Op.load 3 (Operand.tmp 185), type := 3, pos := "law.go:117", after := #[{ on := 9, ground := Ground.data }], guard := none }) (v := ?_) rfl (by kernel_rfl) (by kernel_rfl) (by kernel_rfl) (fun _ _ _ h => h) (Or.inl ⟨by rfl, ?_⟩) (by assumption) ?_
          rotate_left 1
          · (intro w hSw; (try dsimp only at hSw); go_simp; all_goals (with_reducible rfl))
          try simp only [Act.put, List.setIfInBounds_toArray, List.set_cons_zero, List.set_cons_succ]
          refine wpAnyH_take (i := 11) (oi := { dst := some 187, op := Op.binOp BinOp.eql 3 (Operand.tmp 186) (Operand.const (Value.int IntKind.i64 8)) 3, type := 4, pos := "law.go:117", after := #[{ on := 10, ground := Ground.data }], guard := none }) (v := ?_) rfl (by kernel_rfl) (by kernel_rfl) (by kernel_rfl) (fun _ _ _ h => h) (Or.inl ⟨by rfl, ?_⟩) (by assumption) ?_
          rotate_left 1
          · (intro w hSw; (try dsimp only at hSw); go_simp; all_goals (with_reducible rfl))
          try simp only [Act.put, List.setIfInBounds_toArray, List.set_cons_zero, List.set_cons_succ]
          refine wpAnyH_ready (rs := [4, 8]) (by kernel_rfl) (by simp) ?_
          refine AllReadyH.cons (o := { dst := some 180, op := Op.load 30 (Operand.tmp 179), type := 30, pos := "law.go:117", after := #[{ on := 3, ground := Ground.data }], guard := none }) rfl (fun K hK => ?_) (AllReadyH.cons (o := { dst := some 184, op := Op.call { callee := Callee.builtin Builtin.append, args := #[Operand.const (Value.slice none 0 0), Operand.tmp 183], argTypes := #[33, 33] }, type := 33, pos := "law.go:117", after := #[{ on := 7, ground := Ground.data }], guard := none }) rfl (fun K hK => ?_) AllReadyH.nil)
          · skip
            go_simp
            refine hK.out _ _ ?_ (fun hHeld => ?_)
            · ((try dsimp only); first | assumption | exact HSo.out _ (Below.refl _ _).drew)
            clear hK K
            try simp only [Act.put, List.setIfInBounds_toArray, List.set_cons_zero, List.set_cons_succ]
            refine wpAnyH_ready (rs := [8]) (by kernel_rfl) (by simp) ?_
            refine AllReadyH.cons (o := { dst := some 184, op := Op.call { callee := Callee.builtin Builtin.append, args := #[Operand.const (Value.slice none 0 0), Operand.tmp 183], argTypes := #[33, 33] }, type := 33, pos := "law.go:117", after := #[{ on := 7, ground := Ground.data }], guard := none }) rfl (fun K hK => ?_) AllReadyH.nil
            refine step_append_rb (B := w6.heap.size) (l := []) (m := l) (sv := .slice none 0 0) (v := .slice p8 m c8) rfl _ _ 33 33 rfl Try.underlying33 Try.underlying33 (by intro k h; cases h) hib hz0 hz1 hz2 rfl rfl (.inl ⟨rfl, rfl⟩) (HSr6.out _ (Below.refl _ _).drew) (Nat.le_refl _) (by simp; omega) ?_
            intro s7 w7 hr7 hb7
            rw [List.nil_append] at hr7
            obtain ⟨p7, c7, rfl, _, _⟩ := RB.shape hr7
            have HR7 := Lib.hid hr7
            have HB7 := Lib.hid ((Below.refl _ w6).drew.trans hb7)
            have r37 := HCl6.out _ ((Below.refl _ w6).drew.trans hb7)
            have r37o := fun o => HCl6.out _ (HB7.out.alloc HB7.out.size o)
            clear hr7 hb7
            refine hK.out _ _ ?_ (fun hHeld => ?_)
            · ((try dsimp only); first | assumption | exact HSo.out _ HB7.out)
            clear hK K
            try simp only [Act.put, List.setIfInBounds_toArray, List.set_cons_zero, List.set_cons_succ]
            refine wpAnyH_take (i := 12) (oi := { dst := some 188, op := Op.build 47 #[(0, Operand.tmp 182), (1, Operand.tmp 184), (2, Operand.tmp 187)], type := 47, pos := "law.go:117", after := #[{ on := 6, ground := Ground.data }, { on := 8, ground := Ground.data }, { on := 11, ground := Ground.data }], guard := none }) (v := ?_) rfl (by kernel_rfl) (by kernel_rfl) (by kernel_rfl) (fun _ _ _ h => h) (Or.inl ⟨by rfl, ?_⟩) (by assumption) ?_
            rotate_left 1
            · (intro w hSw; (try dsimp only at hSw); go_simp; all_goals (with_reducible rfl))
            try simp only [Act.put, List.setIfInBounds_toArray, List.set_cons_zero, List.set_cons_succ]
            refine wpAnyH_ready (rs := [13]) (by kernel_rfl) (by simp) ?_
            refine AllReadyH.cons (o := { dst := some 189, op := Op.buildSlice 30 1 #[(0, Operand.tmp 188)], type := 30, pos := "law.go:117", after := #[{ on := 12, ground := Ground.data }], guard := none }) rfl (fun K hK => ?_) AllReadyH.nil
            go_simp
            refine hK.out _ _ ?_ (fun hHeld => ?_)
            · ((try dsimp only); first | assumption | exact HSo.out _ (HB7.out.alloc HB7.out.size _) | exact HSo.out _ (HB7.out.alloc HB7.out.size _).drew)
            clear hK K
            try simp only [Act.put, List.setIfInBounds_toArray, List.set_cons_zero, List.set_cons_succ]
            clear r3 r3d r37 r37o
            refine wpAnyH_ready (rs := [14]) (by kernel_rfl) (by simp) ?_
            refine AllReadyH.cons (o := { dst := some 190, op := Op.call { callee := Callee.builtin Builtin.append, args := #[Operand.tmp 180, Operand.tmp 189], argTypes := #[30, 30] }, type := 30, pos := "law.go:117", after := #[{ on := 4, ground := Ground.data }, { on := 13, ground := Ground.data }, { on := 8, ground := Ground.chain }], guard := none }) rfl (fun K hK => ?_) AllReadyH.nil
            refine step_append_lies _ (by rfl) _ _ _ (by rfl) 0 47 jb (.agg #[.string ⟨#[]⟩, .slice none 0 0, .bool false]) 3 48 Try.underlying30 hjb hy0 hy1 hy2 rfl (by decide) (.slice q6 s.raws.length cap6) s.raws.length (M6.flatMap fun x => rawC x.1 x.2) (by rfl) (HRow6.out _ (HB7.out.alloc HB7.out.size _)) ⟨w7.heap.size, 0, none⟩ 1 1 [.string zn, .slice p7 m c7, .bool false] (by rfl) rfl (new_cells3 _ _ _ _ _) (by simp [Value.oneCell']) (by decide) (by unfold maxLen; omega) (by omega) (Nat.zero_le _) (w7.heap.size + 1) (size_alloc1 _ _) ?_
            intro g4 cap4 w8 ho8 hg8 hat8 hlt8
            have h7 := HR7.out
            rw [hl] at h7
            have h8s := hg8.size
            rw [size_alloc1] at h8s
            have hs7 := HB7.out.size
            obtain ⟨k8, f8, hoc8, htw8⟩ := HFi6.out _ w8 g4 cap4 m c7 p7 (zn, l, false) (s.wr + 1) (HB7.out.alloc HB7.out.size _) ho8 hg8 (by rcases hat8 with h | h; exact .inl h; exact .inr (by omega)) (RB.alloc (RB.base h7 (Nat.zero_le _)) _) (fun q e => by have h1 := (RB.blk h7 e).1; have h2 := (RB.blk h7 e).2; omega)
            have HT8 := Lib.hid htw8
            have HOc8 := Lib.hid hoc8
            clear h7 htw8 hoc8 ho8 hg8 hat8
            refine hK.out _ _ ?_ (fun hHeld => ?_)
            · ((try dsimp only); first | assumption | exact ⟨(HOc8.out _ _ HOc.out.2.2.2.1).1, (HOc8.out _ _ HOc.out.1).1⟩)
            clear hK K
            try simp only [Act.put, List.setIfInBounds_toArray, List.set_cons_zero, List.set_cons_succ]
            refine wpAnyH_take (i := 15) (oi := { dst := some 191, op := Op.nilCheck (Operand.tmp 176), type := 0, pos := "law.go:117", after := #[{ on := 0, ground := Ground.data }, { on := 0, ground := Ground.phase }, { on := 1, ground := Ground.phase }, { on := 2, ground := Ground.phase }, { on := 3, ground := Ground.phase }, { on := 4, ground := Ground.phase }, { on := 5, ground := Ground.phase }, { on := 6, ground := Ground.phase }, { on := 7, ground := Ground.phase }, { on := 8, ground := Ground.phase }, { on := 9, ground := Ground.phase }, { on := 10, ground := Ground.phase }, { on := 11, ground := Ground.phase }, { on := 12, ground := Ground.phase }, { on := 13, ground := Ground.phase }, { on := 14, ground := Ground.phase }], guard := none }) (v := ?_) rfl (by kernel_rfl) (by kernel_rfl) (by kernel_rfl) (fun _ _ _ h => h) (Or.inl ⟨by rfl, ?_⟩) (by assumption) ?_
            rotate_left 1
            · (intro w hSw; (try dsimp only at hSw); go_simp; all_goals (with_reducible rfl))
            try simp only [Act.put, List.setIfInBounds_toArray, List.set_cons_zero, List.set_cons_succ]
            refine wpAnyH_take (i := 16) (oi := { dst := some 192, op := Op.fieldAddr 32 (Operand.tmp 191) 5, type := 0, pos := "law.go:117", after := #[{ on := 15, ground := Ground.data }, { on := 0, ground := Ground.phase }, { on := 1, ground := Ground.phase }, { on := 2, ground := Ground.phase }, { on := 3, ground := Ground.phase }, { on := 4, ground := Ground.phase }, { on := 5, ground := Ground.phase }, { on := 6, ground := Ground.phase }, { on := 7, ground := Ground.phase }, { on := 8, ground := Ground.phase }, { on := 9, ground := Ground.phase }, { on := 10, ground := Ground.phase }, { on := 11, ground := Ground.phase }, { on := 12, ground := Ground.phase }, { on := 13, ground := Ground.phase }, { on := 14, ground := Ground.phase }], guard := none }) (v := ?_) rfl (by kernel_rfl) (by kernel_rfl) (by kernel_rfl) (fun _ _ _ h => h) (Or.inl ⟨by rfl, ?_⟩) (by assumption) ?_
            rotate_left 1
            · (intro w hSw; (try dsimp only at hSw); go_simp; all_goals (with_reducible rfl))
            try simp only [Act.put, List.setIfInBounds_toArray, List.set_cons_zero, List.set_cons_succ]
            refine wpAnyH_ready (rs := [17]) (by kernel_rfl) (by simp) ?_
            refine AllReadyH.cons (o := { dst := none, op := Op.store 30 (Operand.tmp 192) (Operand.tmp 190), type := 0, pos := "law.go:117", after := #[{ on := 16, ground := Ground.data }, { on := 14, ground := Ground.data }, { on := 14, ground := Ground.chain }, { on := 0, ground := Ground.phase }, { on := 1, ground := Ground.phase }, { on := 2, ground := Ground.phase }, { on := 3, ground := Ground.phase }, { on := 4, ground := Ground.phase }, { on := 5, ground := Ground.phase }, { on := 6, ground := Ground.phase }, { on := 7, ground := Ground.phase }, { on := 8, ground := Ground.phase }, { on := 9, ground := Ground.phase }, { on := 10, ground := Ground.phase }, { on := 11, ground := Ground.phase }, { on := 12, ground := Ground.phase }, { on := 13, ground := Ground.phase }, { on := 14, ground := Ground.phase }], guard := none }) rfl (fun K hK => ?_) AllReadyH.nil
            go_simp
            refine hK.out _ _ ?_ (fun hHeld => ?_)
            · ((try dsimp only); first | assumption | exact ⟨(HOc8.out _ _ HOc.out.2.2.2.1).2, (HOc8.out _ _ HOc.out.1).2⟩)
            clear hK K
            try simp only [Act.put, List.setIfInBounds_toArray, List.set_cons_zero, List.set_cons_succ]
            refine wpAnyH_done (by kernel_rfl) ?_ _
            refine NoPanic.normal ?_
            go_wp2
            go_meet
            exact ⟨b, r, d, _, rfl, rfl, HT8.out, okm_raw HO.out hlt2 _ hl60⟩
          · skip
            refine step_append_rb (B := w6.heap.size) (l := []) (m := l) (sv := .slice none 0 0) (v := .slice p8 m c8) rfl _ _ 33 33 rfl Try.underlying33 Try.underlying33 (by intro k h; cases h) hib hz0 hz1 hz2 rfl rfl (.inl ⟨rfl, rfl⟩) (HSr6.out _ (Below.refl _ _).drew) (Nat.le_refl _) (by simp; omega) ?_
            intro s7 w7 hr7 hb7
            rw [List.nil_append] at hr7
            obtain ⟨p7, c7, rfl, _, _⟩ := RB.shape hr7
            have HR7 := Lib.hid hr7
            have HB7 := Lib.hid ((Below.refl _ w6).drew.trans hb7)
            have r37 := HCl6.out _ ((Below.refl _ w6).drew.trans hb7)
            have r37o := fun o => HCl6.out _ (HB7.out.alloc HB7.out.size o)
            clear hr7 hb7
            refine hK.out _ _ ?_ (fun hHeld => ?_)
            · ((try dsimp only); first | assumption | exact HSo.out _ HB7.out)
            clear hK K
            try simp only [Act.put, List.setIfInBounds_toArray, List.set_cons_zero, List.set_cons_succ]
            refine wpAnyH_take (i := 12) (oi := { dst := some 188, op := Op.build 47 #[(0, Operand.tmp 182), (1, Operand.tmp 184), (2, Operand.tmp 187)], type := 47, pos := "law.go:117", after := #[{ on := 6, ground := Ground.data }, { on := 8, ground := Ground.data }, { on := 11, ground := Ground.data }], guard := none }) (v := ?_) rfl (by kernel_rfl) (by kernel_rfl) (by kernel_rfl) (fun _ _ _ h => h) (Or.inl ⟨by rfl, ?_⟩) (by assumption) ?_
            rotate_left 1
            · (intro w hSw; (try dsimp only at hSw); go_simp; all_goals (with_reducible rfl))
            try simp only [Act.put, List.setIfInBounds_toArray, List.set_cons_zero, List.set_cons_succ]
            refine wpAnyH_ready (rs := [4, 13]) (by kernel_rfl) (by simp) ?_
            refine AllReadyH.cons (o := { dst := some 180, op := Op.load 30 (Operand.tmp 179), type := 30, pos := "law.go:117", after := #[{ on := 3, ground := Ground.data }], guard := none }) rfl (fun K hK => ?_) (AllReadyH.cons (o := { dst := some 189, op := Op.buildSlice 30 1 #[(0, Operand.tmp 188)], type := 30, pos := "law.go:117", after := #[{ on := 12, ground := Ground.data }], guard := none }) rfl (fun K hK => ?_) AllReadyH.nil)
            · skip
              go_simp
              refine hK.out _ _ ?_ (fun hHeld => ?_)
              · ((try dsimp only); first | assumption | exact HSo.out _ HB7.out)
              clear hK K
              try simp only [Act.put, List.setIfInBounds_toArray, List.set_cons_zero, List.set_cons_succ]
              refine wpAnyH_ready (rs := [13]) (by kernel_rfl) (by simp) ?_
              refine AllReadyH.cons (o := { dst := some 189, op := Op.buildSlice 30 1 #[(0, Operand.tmp 188)], type := 30, pos := "law.go:117", after := #[{ on := 12, ground := Ground.data }], guard := none }) rfl (fun K hK => ?_) AllReadyH.nil
              go_simp
              refine hK.out _ _ ?_ (fun hHeld => ?_)
              · ((try dsimp only); first | assumption | exact HSo.out _ (HB7.out.alloc HB7.out.size _) | exact HSo.out _ (HB7.out.alloc HB7.out.size _).drew)
              clear hK K
              try simp only [Act.put, List.setIfInBounds_toArray, List.set_cons_zero, List.set_cons_succ]
              clear r3 r3d r37 r37o
              refine wpAnyH_ready (rs := [14]) (by kernel_rfl) (by simp) ?_
              refine AllReadyH.cons (o := { dst := some 190, op := Op.call { callee := Callee.builtin Builtin.append, args := #[Operand.tmp 180, Operand.tmp 189], argTypes := #[30, 30] }, type := 30, pos := "law.go:117", after := #[{ on := 4, ground := Ground.data }, { on := 13, ground := Ground.data }, { on := 8, ground := Ground.chain }], guard := none }) rfl (fun K hK => ?_) AllReadyH.nil
              refine step_append_lies _ (by rfl) _ _ _ (by rfl) 0 47 jb (.agg #[.string ⟨#[]⟩, .slice none 0 0, .bool false]) 3 48 Try.underlying30 hjb hy0 hy1 hy2 rfl (by decide) (.slice q6 s.raws.length cap6) s.raws.length (M6.flatMap fun x => rawC x.1 x.2) (by rfl) (HRow6.out _ (HB7.out.alloc HB7.out.size _)) ⟨w7.heap.size, 0, none⟩ 1 1 [.string zn, .slice p7 m c7, .bool false] (by rfl) rfl (new_cells3 _ _ _ _ _) (by simp [Value.oneCell']) (by decide) (by unfold maxLen; omega) (by omega) (Nat.zero_le _) (w7.heap.size + 1) (size_alloc1 _ _) ?_
              intro g4 cap4 w8 ho8 hg8 hat8 hlt8
              have h7 := HR7.out
              rw [hl] at h7
              have h8s := hg8.size
              rw [size_alloc1] at h8s
              have hs7 := HB7.out.size
              obtain ⟨k8, f8, hoc8, htw8⟩ := HFi6.out _ w8 g4 cap4 m c7 p7 (zn, l, false) (s.wr + 1) (HB7.out.alloc HB7.out.size _) ho8 hg8 (by rcases hat8 with h | h; exact .inl h; exact .inr (by omega)) (RB.alloc (RB.base h7 (Nat.zero_le _)) _) (fun q e => by have h1 := (RB.blk h7 e).1; have h2 := (RB.blk h7 e).2; omega)
              have HT8 := Lib.hid htw8
              have HOc8 := Lib.hid hoc8
              clear h7 htw8 hoc8 ho8 hg8 hat8
              refine hK.out _ _ ?_ (fun hHeld => ?_)
              · ((try dsimp only); first | assumption | exact ⟨(HOc8.out _ _ HOc.out.2.2.2.1).1, (HOc8.out _ _ HOc.out.1).1⟩)
              clear hK K
              try simp only [Act.put, List.setIfInBounds_toArray, List.set_cons_zero, List.set_cons_succ]
              refine wpAnyH_take (i := 15) (oi := { dst := some 191, op := Op.nilCheck (Operand.tmp 176), type := 0, pos := "law.go:117", after := #[{ on := 0, ground := Ground.data }, { on := 0, ground := Ground.phase }, { on := 1, ground := Ground.phase }, { on := 2, ground := Ground.phase }, { on := 3, ground := Ground.phase }, { on := 4, ground := Ground.phase }, { on := 5, ground := Ground.phase }, { on := 6, ground := Ground.phase }, { on := 7, ground := Ground.phase }, { on := 8, ground := Ground.phase }, { on := 9, ground := Ground.phase }, { on := 10, ground := Ground.phase }, { on := 11, ground := Ground.phase }, { on := 12, ground := Ground.phase }, { on := 13, ground := Ground.phase }, { on := 14, ground := Ground.phase }], guard := none }) (v := ?_) rfl (by kernel_rfl) (by kernel_rfl) (by kernel_rfl) (fun _ _ _ h => h) (Or.inl ⟨by rfl, ?_⟩) (by assumption) ?_
              rotate_left 1
              · (intro w hSw; (try dsimp only at hSw); go_simp; all_goals (with_reducible rfl))
              try simp only [Act.put, List.setIfInBounds_toArray, List.set_cons_zero, List.set_cons_succ]
              refine wpAnyH_take (i := 16) (oi := { dst := some 192, op := Op.fieldAddr 32 (Operand.tmp 191) 5, type := 0, pos := "law.go:117", after := #[{ on := 15, ground := Ground.data }, { on := 0, ground := Ground.phase }, { on := 1, ground := Ground.phase }, { on := 2, ground := Ground.phase }, { on := 3, ground := Ground.phase }, { on := 4, ground := Ground.phase }, { on := 5, ground := Ground.phase }, { on := 6, ground := Ground.phase }, { on := 7, ground := Ground.phase }, { on := 8, ground := Ground.phase }, { on := 9, ground := Ground.phase }, { on := 10, ground := Ground.phase }, { on := 11, ground := Ground.phase }, { on := 12, ground := Ground.phase }, { on := 13, ground := Ground.phase }, { on := 14, ground := Ground.phase }], guard := none }) (v := ?_) rfl (by kernel_rfl) (by kernel_rfl) (by kernel_rfl) (fun _ _ _ h => h) (Or.inl ⟨by rfl, ?_⟩) (by assumption) ?_
              rotate_left 1
              · (intro w hSw; (try dsimp only at hSw); go_simp; all_goals (with_reducible rfl))
              try simp only [Act.put, List.setIfInBounds_toArray, List.set_cons_zero, List.set_cons_succ]
              refine wpAnyH_ready (rs := [17]) (by kernel_rfl) (by simp) ?_
              refine AllReadyH.cons (o := { dst := none, op := Op.store 30 (Operand.tmp 192) (Operand.tmp 190), type := 0, pos := "law.go:117", after := #[{ on := 16, ground := Ground.data }, { on := 14, ground := Ground.data }, { on := 14, ground := Ground.chain }, { on := 0, ground := Ground.phase }, { on := 1, ground := Ground.phase }, { on := 2, ground := Ground.phase }, { on := 3, ground := Ground.phase }, { on := 4, ground := Ground.phase }, { on := 5, ground := Ground.phase }, { on := 6, ground := Ground.phase }, { on := 7, ground := Ground.phase }, { on := 8, ground := Ground.phase }, { on := 9, ground := Ground.phase }, { on := 10, ground := Ground.phase }, { on := 11, ground := Ground.phase }, { on := 12, ground := Ground.phase }, { on := 13, ground := Ground.phase }, { on := 14, ground := Ground.phase }], guard := none }) rfl (fun K hK => ?_) AllReadyH.nil
              go_simp
              refine hK.out _ _ ?_ (fun hHeld => ?_)
              · ((try dsimp only); first | assumption | exact ⟨(HOc8.out _ _ HOc.out.2.2.2.1).2, (HOc8.out _ _ HOc.out.1).2⟩)
              clear hK K
              try simp only [Act.put, List.setIfInBounds_toArray, List.set_cons_zero, List.set_cons_succ]
              refine wpAnyH_done (by kernel_rfl) ?_ _
              refine NoPanic.normal ?_
              go_wp2
              go_meet
              exact ⟨b, r, d, _, rfl, rfl, HT8.out, okm_raw HO.out hlt2 _ hl60⟩
            · skip
              go_simp
              refine hK.out _ _ ?_ (fun hHeld => ?_)
              · ((try dsimp only); first | assumption | exact HSo.out _ (HB7.out.alloc HB7.out.size _) | exact HSo.out _ (HB7.out.alloc HB7.out.size _).drew)
              clear hK K
              try simp only [Act.put, List.setIfInBounds_toArray, List.set_cons_zero, List.set_cons_succ]
              refine wpAnyH_ready (rs := [4]) (by kernel_rfl) (by simp) ?_
              refine AllReadyH.cons (o := { dst := some 180, op := Op.load 30 (Operand.tmp 179), type := 30, pos := "law.go:117", after := #[{ on := 3, ground := Ground.data }], guard := none }) rfl (fun K hK => ?_) AllReadyH.nil
              go_simp
              refine hK.out _ _ ?_ (fun hHeld => ?_)
              · ((try dsimp only); first | assumption | exact HSo.out _ (HB7.out.alloc HB7.out.size _) | exact HSo.out _ (HB7.out.alloc HB7.out.size _).drew)
              clear hK K
              try simp only [Act.put, List.setIfInBounds_toArray, List.set_cons_zero, List.set_cons_succ]
              clear r3 r3d r37 r37o
              refine wpAnyH_ready (rs := [14]) (by kernel_rfl) (by simp) ?_
              refine AllReadyH.cons (o := { dst := some 190, op := Op.call { callee := Callee.builtin Builtin.append, args := #[Operand.tmp 180, Operand.tmp 189], argTypes := #[30, 30] }, type := 30, pos := "law.go:117", after := #[{ on := 4, ground := Ground.data }, { on := 13, ground := Ground.data }, { on := 8, ground := Ground.chain }], guard := none }) rfl (fun K hK => ?_) AllReadyH.nil
              refine step_append_lies _ (by rfl) _ _ _ (by rfl) 0 47 jb (.agg #[.string ⟨#[]⟩, .slice none 0 0, .bool false]) 3 48 Try.underlying30 hjb hy0 hy1 hy2 rfl (by decide) (.slice q6 s.raws.length cap6) s.raws.length (M6.flatMap fun x => rawC x.1 x.2) (by rfl) (HRow6.out _ (HB7.out.alloc HB7.out.size _)) ⟨w7.heap.size, 0, none⟩ 1 1 [.string zn, .slice p7 m c7, .bool false] (by rfl) rfl (new_cells3 _ _ _ _ _) (by simp [Value.oneCell']) (by decide) (by unfold maxLen; omega) (by omega) (Nat.zero_le _) (w7.heap.size + 1) (size_alloc1 _ _) ?_
              intro g4 cap4 w8 ho8 hg8 hat8 hlt8
              have h7 := HR7.out
              rw [hl] at h7
              have h8s := hg8.size
              rw [size_alloc1] at h8s
              have hs7 := HB7.out.size
              obtain ⟨k8, f8, hoc8, htw8⟩ := HFi6.out _ w8 g4 cap4 m c7 p7 (zn, l, false) (s.wr + 1) (HB7.out.alloc HB7.out.size _) ho8 hg8 (by rcases hat8 with h | h; exact .inl h; exact .inr (by omega)) (RB.alloc (RB.base h7 (Nat.zero_le _)) _) (fun q e => by have h1 := (RB.blk h7 e).1; have h2 := (RB.blk h7 e).2; omega)
              have HT8 := Lib.hid htw8
              have HOc8 := Lib.hid hoc8
              clear h7 htw8 hoc8 ho8 hg8 hat8
              refine hK.out _ _ ?_ (fun hHeld => ?_)
              · ((try dsimp only); first | assumption | exact ⟨(HOc8.out _ _ HOc.out.2.2.2.1).1, (HOc8.out _ _ HOc.out.1).1⟩)
              clear hK K
              try simp only [Act.put, List.setIfInBounds_toArray, List.set_cons_zero, List.set_cons_succ]
              refine wpAnyH_take (i := 15) (oi := { dst := some 191, op := Op.nilCheck (Operand.tmp 176), type := 0, pos := "law.go:117", after := #[{ on := 0, ground := Ground.data }, { on := 0, ground := Ground.phase }, { on := 1, ground := Ground.phase }, { on := 2, ground := Ground.phase }, { on := 3, ground := Ground.phase }, { on := 4, ground := Ground.phase }, { on := 5, ground := Ground.phase }, { on := 6, ground := Ground.phase }, { on := 7, ground := Ground.phase }, { on := 8, ground := Ground.phase }, { on := 9, ground := Ground.phase }, { on := 10, ground := Ground.phase }, { on := 11, ground := Ground.phase }, { on := 12, ground := Ground.phase }, { on := 13, ground := Ground.phase }, { on := 14, ground := Ground.phase }], guard := none }) (v := ?_) rfl (by kernel_rfl) (by kernel_rfl) (by kernel_rfl) (fun _ _ _ h => h) (Or.inl ⟨by rfl, ?_⟩) (by assumption) ?_
              rotate_left 1
              · (intro w hSw; (try dsimp only at hSw); go_simp; all_goals (with_reducible rfl))
              try simp only [Act.put, List.setIfInBounds_toArray, List.set_cons_zero, List.set_cons_succ]
              refine wpAnyH_take (i := 16) (oi := { dst := some 192, op := Op.fieldAddr 32 (Operand.tmp 191) 5, type := 0, pos := "law.go:117", after := #[{ on := 15, ground := Ground.data }, { on := 0, ground := Ground.phase }, { on := 1, ground := Ground.phase }, { on := 2, ground := Ground.phase }, { on := 3, ground := Ground.phase }, { on := 4, ground := Ground.phase }, { on := 5, ground := Ground.phase }, { on := 6, ground := Ground.phase }, { on := 7, ground := Ground.phase }, { on := 8, ground := Ground.phase }, { on := 9, ground := Ground.phase }, { on := 10, ground := Ground.phase }, { on := 11, ground := Ground.phase }, { on := 12, ground := Ground.phase }, { on := 13, ground := Ground.phase }, { on := 14, ground := Ground.phase }], guard := none }) (v := ?_) rfl (by kernel_rfl) (by kernel_rfl) (by kernel_rfl) (fun _ _ _ h => h) (Or.inl ⟨by rfl, ?_⟩) (by assumption) ?_
              rotate_left 1
              · (intro w hSw; (try dsimp only at hSw); go_simp; all_goals (with_reducible rfl))
              try simp only [Act.put, List.setIfInBounds_toArray, List.set_cons_zero, List.set_cons_succ]
              refine wpAnyH_ready (rs := [17]) (by kernel_rfl) (by simp) ?_
              refine AllReadyH.cons (o := { dst := none, op := Op.store 30 (Operand.tmp 192) (Operand.tmp 190), type := 0, pos := "law.go:117", after := #[{ on := 16, ground := Ground.data }, { on := 14, ground := Ground.data }, { on := 14, ground := Ground.chain }, { on := 0, ground := Ground.phase }, { on := 1, ground := Ground.phase }, { on := 2, ground := Ground.phase }, { on := 3, ground := Ground.phase }, { on := 4, ground := Ground.phase }, { on := 5, ground := Ground.phase }, { on := 6, ground := Ground.phase }, { on := 7, ground := Ground.phase }, { on := 8, ground := Ground.phase }, { on := 9, ground := Ground.phase }, { on := 10, ground := Ground.phase }, { on := 11, ground := Ground.phase }, { on := 12, ground := Ground.phase }, { on := 13, ground := Ground.phase }, { on := 14, ground := Ground.phase }], guard := none }) rfl (fun K hK => ?_) AllReadyH.nil
              go_simp
              refine hK.out _ _ ?_ (fun hHeld => ?_)
              · ((try dsimp only); first | assumption | exact ⟨(HOc8.out _ _ HOc.out.2.2.2.1).2, (HOc8.out _ _ HOc.out.1).2⟩)
              clear hK K
              try simp only [Act.put, List.setIfInBounds_toArray, List.set_cons_zero, List.set_cons_succ]
              refine wpAnyH_done (by kernel_rfl) ?_ _
              refine NoPanic.normal ?_
              go_wp2
              go_meet
              exact ⟨b, r, d, _, rfl, rfl, HT8.out, okm_raw HO.out hlt2 _ hl60⟩
        · as_aux_lemma =>
          have HA1 := Lib.hid (HT.out.replaced HO.out hl60 zn s1)
          go_upto_region 45 with (go_at_call 21; refine HA1.out.mono ?_; rintro e w6 ⟨rfl, h6⟩; have HT6 := Lib.hid h6; clear h6)
          obtain ⟨q6, cap6, M6, hrow6, hcl6, hfi6⟩ := HT6.out.rawPre
          have HRow6 := Lib.hid hrow6
          have HCl6 := Lib.hid hcl6
          have HFi6 := Lib.hid hfi6
          have HSo : Hid (∀ W2, Below w6.heap.size w6 W2 → W2.cell? ⟨oB, 3, none⟩ = some (.string zn) ∧ W2.cell? ⟨oB, 0, none⟩ = some (.int .i64 8)) := Lib.hid (fun W2 hW2 => ⟨(HT6.out.below hW2).op HOc.out.2.2.2.1, (HT6.out.below hW2).op HOc.out.1⟩)
          obtain ⟨ib, hib, hz0, hz1, hz2⟩ := info_parts' infoU8
          obtain ⟨jb, hjb, hy0, hy1, hy2⟩ := info_parts' infoRaw
          have HSr6 : Hid (∀ W2, Below w6.heap.size w6 W2 → Src Try.prog W2 (.slice p8 m c8) l) := Lib.hid (fun W2 hW2 => RB.src ((HT6.out.below hW2).it.elim fun _ h => h.2.2.2.2.rb))
          have r3 := hcl6 _ (Below.refl _ _)
          have r3d := hcl6 _ (Below.refl _ _).drew
          have hfl : s.raws.length ≤ 40 := by have := HO.out.raws; have := HO.out.few; omega
          clear hrow6 hcl6 hfi6
          go_upto_region 45 with (fail)
          refine wp_region_noPanic ?_
          refine wp_region_held_drew (S := fun W2 => W2.cell? ⟨oB, 3, none⟩ = some (.string zn) ∧ W2.cell? ⟨oB, 0, none⟩ = some (.int .i64 8)) (by kernel_rfl) (HSo.out _ (Below.refl _ _).drew) (fun hHeld => ?_)
          refine wpAnyH_take (i := 0) (oi := { dst := some 176, op := Op.move (Operand.tmp 5), type := 26, pos := "law.go:117", after := #[], guard := none }) (v := ?_) rfl (by kernel_rfl) (by kernel_rfl) (by kernel_rfl) (fun _ _ _ h => h) (Or.inl ⟨by rfl, ?_⟩) (by assumption) ?_
          rotate_left 1
          · (intro w hSw; (try dsimp only at hSw); go_simp; all_goals (with_reducible rfl))
          try simp only [Act.put, List.setIfInBounds_toArray, List.set_cons_zero, List.set_cons_succ]
          refine wpAnyH_take (i := 1) (oi := { dst := some 177, op := Op.move (Operand.tmp 5), type := 26, pos := "law.go:117", after := #[], guard := none }) (v := ?_) rfl (by kernel_rfl) (by kernel_rfl) (by kernel_rfl) (fun _ _ _ h => h) (Or.inl ⟨by rfl, ?_⟩) (by assumption) ?_
          rotate_left 1
          · (intro w hSw; (try dsimp only at hSw); go_simp; all_goals (with_reducible rfl))
          try simp only [Act.put, List.setIfInBounds_toArray, List.set_cons_zero, List.set_cons_succ]
          refine wpAnyH_take (i := 2) (oi := { dst := some 178, op := Op.nilCheck (Operand.tmp 177), type := 0, pos := "law.go:117", after := #[{ on := 1, ground := Ground.data }], guard := none }) (v := ?_) rfl (by kernel_rfl) (by kernel_rfl) (by kernel_rfl) (fun _ _ _ h => h) (Or.inl ⟨by rfl, ?_⟩) (by assumption) ?_
          rotate_left 1
          · (intro w hSw; (try dsimp only at hSw); go_simp; all_goals (with_reducible rfl))
          try simp only [Act.put, List.setIfInBounds_toArray, List.set_cons_zero, List.set_cons_succ]
          refine wpAnyH_take (i := 3) (oi := { dst := some 179, op := Op.fieldAddr 32 (Operand.tmp 178) 5, type := 0, pos := "law.go:117", after := #[{ on := 2, ground := Ground.data }], guard := none }) (v := ?_) rfl (by kernel_rfl) (by kernel_rfl) (by kernel_rfl) (fun _ _ _ h => h) (Or.inl ⟨by rfl, ?_⟩) (by assumption) ?_
          rotate_left 1
          · (intro w hSw; (try dsimp only at hSw); go_simp; all_goals (with_reducible rfl))
          try simp only [Act.put, List.setIfInBounds_toArray, List.set_cons_zero, List.set_cons_succ]
          refine wpAnyH_take (i := 5) (oi := { dst := some 181, op := Op.fieldAddr 35 (Operand.tmp 7) 3, type := 0, pos := "law.go:117", after := #[], guard := none }) (v := ?_) rfl (by kernel_rfl) (by kernel_rfl) (by kernel_rfl) (fun _ _ _ h => h) (Or.inl ⟨by rfl, ?_⟩) (by assumption) ?_
          rotate_left 1
          · (intro w hSw; (try dsimp only at hSw); go_simp; all_goals (with_reducible rfl))
          try simp only [Act.put, List.setIfInBounds_toArray, List.set_cons_zero, List.set_cons_succ]
          refine wpAnyH_take (i := 6) (oi := { dst := some 182, op := Op.load 9 (Operand.tmp 181), type := 9, pos := "law.go:117", after := #[{ on := 5, ground := Ground.data }], guard := none }) (v := ?_) rfl (by kernel_rfl) (by kernel_rfl) (by kernel_rfl) (fun _ _ _ h => h) (Or.inl ⟨by rfl, ?_⟩) (by assumption) ?_
          rotate_left 1
          · (intro w hSw; (try dsimp only at hSw); go_simp; all_goals (with_reducible rfl))
          try simp only [Act.put, List.setIfInBounds_toArray, List.set_cons_zero, List.set_cons_succ]
          refine wpAnyH_take (i := 7) (oi := { dst := some 183, op := Op.move (Operand.tmp 8), type := 33, pos := "law.go:117", after := #[], guard := none }) (v := ?_) rfl (by kernel_rfl) (by kernel_rfl) (by kernel_rfl) (fun _ _ _ h => h) (Or.inl ⟨by rfl, ?_⟩) (by assumption) ?_
          rotate_left 1
          · (intro w hSw; (try dsimp only at hSw); go_simp; all_goals (with_reducible rfl))
          try simp only [Act.put, List.setIfInBounds_toArray, List.set_cons_zero, List.set_cons_succ]
          refine wpAnyH_take (i := 9) (oi := { dst := some 185, op := Op.fieldAddr 35 (Operand.tmp 7) 0, type := 0, pos := "law.go:117", after := #[], guard := none }) (v := ?_) rfl (by kernel_rfl) (by kernel_rfl) (by kernel_rfl) (fun _ _ _ h => h) (Or.inl ⟨by rfl, ?_⟩) (by assumption) ?_
          rotate_left 1
          · (intro w hSw; (try dsimp only at hSw); go_simp; all_goals (with_reducible rfl))
          try simp only [Act.put, List.setIfInBounds_toArray, List.set_cons_zero, List.set_cons_succ]
          refine wpAnyH_take (i := 10) (oi := { dst := some 186, op := Op.load 3 (Operand.tmp 185), type := 3, pos := "law.go:117", after := #[{ on := 9, ground := Ground.data }], guard := none }) (v := ?_) rfl (by kernel_rfl) (by kernel_rfl) (by kernel_rfl) (fun _ _ _ h => h) (Or.inl ⟨by rfl, ?_⟩) (by assumption) ?_
          rotate_left 1
          · (intro w hSw; (try dsimp only at hSw); go_simp; all_goals (with_reducible rfl))
          try simp only [Act.put, List.setIfInBounds_toArray, List.set_cons_zero, List.set_cons_succ]
          refine wpAnyH_take (i := 11) (oi := { dst := some 187, op := Op.binOp BinOp.eql 3 (Operand.tmp 186) (Operand.const (Value.int IntKind.i64 8)) 3, type := 4, pos := "law.go:117", after := #[{ on := 10, ground := Ground.data }], guard := none }) (v := ?_) rfl (by kernel_rfl) (by kernel_rfl) (by kernel_rfl) (fun _ _ _ h => h) (Or.inl ⟨by rfl, ?_⟩) (by assumption) ?_
          rotate_left 1
          · (intro w hSw; (try dsimp only at hSw); go_simp; all_goals (with_reducible rfl))
          try simp only [Act.put, List.setIfInBounds_toArray, List.set_cons_zero, List.set_cons_succ]
          refine wpAnyH_ready (rs := [4, 8]) (by kernel_rfl) (by simp) ?_
          refine AllReadyH.cons (o := { dst := some 180, op := Op.load 30 (Operand.tmp 179), type := 30, pos := "law.go:117", after := #[{ on := 3, ground := Ground.data }], guard := none }) rfl (fun K hK => ?_) (AllReadyH.cons (o := { dst := some 184, op := Op.call { callee := Callee.builtin Builtin.append, args := #[Operand.const (Value.slice none 0 0), Operand.tmp 183], argTypes := #[33, 33] }, type := 33, pos := "law.go:117", after := #[{ on := 7, ground := Ground.data }], guard := none }) rfl (fun K hK => ?_) AllReadyH.nil)
          · skip
            go_simp
            refine hK.out _ _ ?_ (fun hHeld => ?_)
            · ((try dsimp only); first | assumption | exact HSo.out _ (Below.refl _ _).drew)
            clear hK K
            try simp only [Act.put, List.setIfInBounds_toArray, List.set_cons_zero, List.set_cons_succ]
            refine wpAnyH_ready (rs := [8]) (by kernel_rfl) (by simp) ?_
            refine AllReadyH.cons (o := { dst := some 184, op := Op.call { callee := Callee.builtin Builtin.append, args := #[Operand.const (Value.slice none 0 0), Operand.tmp 183], argTypes := #[33, 33] }, type := 33, pos := "law.go:117", after := #[{ on := 7, ground := Ground.data }], guard := none }) rfl (fun K hK => ?_) AllReadyH.nil
            refine step_append_rb (B := w6.heap.size) (l := []) (m := l) (sv := .slice none 0 0) (v := .slice p8 m c8) rfl _ _ 33 33 rfl Try.underlying33 Try.underlying33 (by intro k h; cases h) hib hz0 hz1 hz2 rfl rfl (.inl ⟨rfl, rfl⟩) (HSr6.out _ (Below.refl _ _).drew) (Nat.le_refl _) (by simp; omega) ?_
            intro s7 w7 hr7 hb7
            rw [List.nil_append] at hr7
            obtain ⟨p7, c7, rfl, _, _⟩ := RB.shape hr7
            have HR7 := Lib.hid hr7
            have HB7 := Lib.hid ((Below.refl _ w6).drew.trans hb7)
            have r37 := HCl6.out _ ((Below.refl _ w6).drew.trans hb7)
            have r37o := fun o => HCl6.out _ (HB7.out.alloc HB7.out.size o)
            clear hr7 hb7
            refine hK.out _ _ ?_ (fun hHeld => ?_)
            · ((try dsimp only); first | assumption | exact HSo.out _ HB7.out)
            clear hK K
            try simp only [Act.put, List.setIfInBounds_toArray, List.set_cons_zero, List.set_cons_succ]
            refine wpAnyH_take (i := 12) (oi := { dst := some 188, op := Op.build 47 #[(0, Operand.tmp 182), (1, Operand.tmp 184), (2, Operand.tmp 187)], type := 47, pos := "law.go:117", after := #[{ on := 6, ground := Ground.data }, { on := 8, ground := Ground.data }, { on := 11, ground := Ground.data }], guard := none }) (v := ?_) rfl (by kernel_rfl) (by kernel_rfl) (by kernel_rfl) (fun _ _ _ h => h) (Or.inl ⟨by rfl, ?_⟩) (by assumption) ?_
            rotate_left 1
            · (intro w hSw; (try dsimp only at hSw); go_simp; all_goals (with_reducible rfl))
            try simp only [Act.put, List.setIfInBounds_toArray, List.set_cons_zero, List.set_cons_succ]
            refine wpAnyH_ready (rs := [13]) (by kernel_rfl) (by simp) ?_
            refine AllReadyH.cons (o := { dst := some 189, op := Op.buildSlice 30 1 #[(0, Operand.tmp 188)], type := 30, pos := "law.go:117", after := #[{ on := 12, ground := Ground.data }], guard := none }) rfl (fun K hK => ?_) AllReadyH.nil
            go_simp
            refine hK.out _ _ ?_ (fun hHeld => ?_)
            · ((try dsimp only); first | assumption | exact HSo.out _ (HB7.out.alloc HB7.out.size _) | exact HSo.out _ (HB7.out.alloc HB7.out.size _).drew)
            clear hK K
            try simp only [Act.put, List.setIfInBounds_toArray, List.set_cons_zero, List.set_cons_succ]
            clear r3 r3d r37 r37o
            refine wpAnyH_ready (rs := [14]) (by kernel_rfl) (by simp) ?_
            refine AllReadyH.cons (o := { dst := some 190, op := Op.call { callee := Callee.builtin Builtin.append, args := #[Operand.tmp 180, Operand.tmp 189], argTypes := #[30, 30] }, type := 30, pos := "law.go:117", after := #[{ on := 4, ground := Ground.data }, { on := 13, ground := Ground.data }, { on := 8, ground := Ground.chain }], guard := none }) rfl (fun K hK => ?_) AllReadyH.nil
            refine step_append_lies _ (by rfl) _ _ _ (by rfl) 0 47 jb (.agg #[.string ⟨#[]⟩, .slice none 0 0, .bool false]) 3 48 Try.underlying30 hjb hy0 hy1 hy2 rfl (by decide) (.slice q6 s.raws.length cap6) s.raws.length (M6.flatMap fun x => rawC x.1 x.2) (by rfl) (HRow6.out _ (HB7.out.alloc HB7.out.size _)) ⟨w7.heap.size, 0, none⟩ 1 1 [.string zn, .slice p7 m c7, .bool true] (by rfl) rfl (new_cells3 _ _ _ _ _) (by simp [Value.oneCell']) (by decide) (by unfold maxLen; omega) (by omega) (Nat.zero_le _) (w7.heap.size + 1) (size_alloc1 _ _) ?_
            intro g4 cap4 w8 ho8 hg8 hat8 hlt8
            have h7 := HR7.out
            rw [hl] at h7
            have h8s := hg8.size
            rw [size_alloc1] at h8s
            have hs7 := HB7.out.size
            obtain ⟨k8, f8, hoc8, htw8⟩ := HFi6.out _ w8 g4 cap4 m c7 p7 (zn, l, true) (s.wr + 1) (HB7.out.alloc HB7.out.size _) ho8 hg8 (by rcases hat8 with h | h; exact .inl h; exact .inr (by omega)) (RB.alloc (RB.base h7 (Nat.zero_le _)) _) (fun q e => by have h1 := (RB.blk h7 e).1; have h2 := (RB.blk h7 e).2; omega)
            have HT8 := Lib.hid htw8
            have HOc8 := Lib.hid hoc8
            clear h7 htw8 hoc8 ho8 hg8 hat8
            refine hK.out _ _ ?_ (fun hHeld => ?_)
            · ((try dsimp only); first | assumption | exact ⟨(HOc8.out _ _ HOc.out.2.2.2.1).1, (HOc8.out _ _ HOc.out.1).1⟩)
            clear hK K
            try simp only [Act.put, List.setIfInBounds_toArray, List.set_cons_zero, List.set_cons_succ]
            refine wpAnyH_take (i := 15) (oi := { dst := some 191, op := Op.nilCheck (Operand.tmp 176), type := 0, pos := "law.go:117", after := #[{ on := 0, ground := Ground.data }, { on := 0, ground := Ground.phase }, { on := 1, ground := Ground.phase }, { on := 2, ground := Ground.phase }, { on := 3, ground := Ground.phase }, { on := 4, ground := Ground.phase }, { on := 5, ground := Ground.phase }, { on := 6, ground := Ground.phase }, { on := 7, ground := Ground.phase }, { on := 8, ground := Ground.phase }, { on := 9, ground := Ground.phase }, { on := 10, ground := Ground.phase }, { on := 11, ground := Ground.phase }, { on := 12, ground := Ground.phase }, { on := 13, ground := Ground.phase }, { on := 14, ground := Ground.phase }], guard := none }) (v := ?_) rfl (by kernel_rfl) (by kernel_rfl) (by kernel_rfl) (fun _ _ _ h => h) (Or.inl ⟨by rfl, ?_⟩) (by assumption) ?_
            rotate_left 1
            · (intro w hSw; (try dsimp only at hSw); go_simp; all_goals (with_reducible rfl))
            try simp only [Act.put, List.setIfInBounds_toArray, List.set_cons_zero, List.set_cons_succ]
            refine wpAnyH_take (i := 16) (oi := { dst := some 192, op := Op.fieldAddr 32 (Operand.tmp 191) 5, type := 0, pos := "law.go:117", after := #[{ on := 15, ground := Ground.data }, { on := 0, ground := Ground.phase }, { on := 1, ground := Ground.phase }, { on := 2, ground := Ground.phase }, { on := 3, ground := Ground.phase }, { on := 4, ground := Ground.phase }, { on := 5, ground := Ground.phase }, { on := 6, ground := Ground.phase }, { on := 7, ground := Ground.phase }, { on := 8, ground := Ground.phase }, { on := 9, ground := Ground.phase }, { on := 10, ground := Ground.phase }, { on := 11, ground := Ground.phase }, { on := 12, ground := Ground.phase }, { on := 13, ground := Ground.phase }, { on := 14, ground := Ground.phase }], guard := none }) (v := ?_) rfl (by kernel_rfl) (by kernel_rfl) (by kernel_rfl) (fun _ _ _ h => h) (Or.inl ⟨by rfl, ?_⟩) (by assumption) ?_
            rotate_left 1
            · (intro w hSw; (try dsimp only at hSw); go_simp; all_goals (with_reducible rfl))
            try simp only [Act.put, List.setIfInBounds_toArray, List.set_cons_zero, List.set_cons_succ]
            refine wpAnyH_ready (rs := [17]) (by kernel_rfl) (by simp) ?_
            refine AllReadyH.cons (o := { dst := none, op := Op.store 30 (Operand.tmp 192) (Operand.tmp 190), type := 0, pos := "law.go:117", after := #[{ on := 16, ground := Ground.data }, { on := 14, ground := Ground.data }, { on := 14, ground := Ground.chain }, { on := 0, ground := Ground.phase }, { on := 1, ground := Ground.phase }, { on := 2, ground := Ground.phase }, { on := 3, ground := Ground.phase }, { on := 4, ground := Ground.phase }, { on := 5, ground := Ground.phase }, { on := 6, ground := Ground.phase }, { on := 7, ground := Ground.phase }, { on := 8, ground := Ground.phase }, { on := 9, ground := Ground.phase }, { on := 10, ground := Ground.phase }, { on := 11, ground := Ground.phase }, { on := 12, ground := Ground.phase }, { on := 13, ground := Ground.phase }, { on := 14, ground := Ground.phase }], guard := none }) rfl (fun K hK => ?_) AllReadyH.nil
            go_simp
            refine hK.out _ _ ?_ (fun hHeld => ?_)
            · ((try dsimp only); first | assumption | exact ⟨(HOc8.out _ _ HOc.out.2.2.2.1).2, (HOc8.out _ _ HOc.out.1).2⟩)
            clear hK K
            try simp only [Act.put, List.setIfInBounds_toArray, List.set_cons_zero, List.set_cons_succ]
            refine wpAnyH_done (by kernel_rfl) ?_ _
            refine NoPanic.normal ?_
            go_wp2
            go_meet
            exact ⟨b, r, d, _, rfl, rfl, HT8.out, okm_raw HO.out hlt2 _ hl60⟩
          · skip
            refine step_append_rb (B := w6.heap.size) (l := []) (m := l) (sv := .slice none 0 0) (v := .slice p8 m c8) rfl _ _ 33 33 rfl Try.underlying33 Try.underlying33 (by intro k h; cases h) hib hz0 hz1 hz2 rfl rfl (.inl ⟨rfl, rfl⟩) (HSr6.out _ (Below.refl _ _).drew) (Nat.le_refl _) (by simp; omega) ?_
            intro s7 w7 hr7 hb7
            rw [List.nil_append] at hr7
            obtain ⟨p7, c7, rfl, _, _⟩ := RB.shape hr7
            have HR7 := Lib.hid hr7
            have HB7 := Lib.hid ((Below.refl _ w6).drew.trans hb7)
            have r37 := HCl6.out _ ((Below.refl _ w6).drew.trans hb7)
            have r37o := fun o => HCl6.out _ (HB7.out.alloc HB7.out.size o)
            clear hr7 hb7
            refine hK.out _ _ ?_ (fun hHeld => ?_)
            · ((try dsimp only); first | assumption | exact HSo.out _ HB7.out)
            clear hK K
            try simp only [Act.put, List.setIfInBounds_toArray, List.set_cons_zero, List.set_cons_succ]
            refine wpAnyH_take (i := 12) (oi := { dst := some 188, op := Op.build 47 #[(0, Operand.tmp 182), (1, Operand.tmp 184), (2, Operand.tmp 187)], type := 47, pos := "law.go:117", after := #[{ on := 6, ground := Ground.data }, { on := 8, ground := Ground.data }, { on := 11, ground := Ground.data }], guard := none }) (v := ?_) rfl (by kernel_rfl) (by kernel_rfl) (by kernel_rfl) (fun _ _ _ h => h) (Or.inl ⟨by rfl, ?_⟩) (by assumption) ?_
            rotate_left 1
            · (intro w hSw; (try dsimp only at hSw); go_simp; all_goals (with_reducible rfl))
            try simp only [Act.put, List.setIfInBounds_toArray, List.set_cons_zero, List.set_cons_succ]
            refine wpAnyH_ready (rs := [4, 13]) (by kernel_rfl) (by simp) ?_
            refine AllReadyH.cons (o := { dst := some 180, op := Op.load 30 (Operand.tmp 179), type := 30, pos := "law.go:117", after := #[{ on := 3, ground := Ground.data }], guard := none }) rfl (fun K hK => ?_) (AllReadyH.cons (o := { dst := some 189, op := Op.buildSlice 30 1 #[(0, Operand.tmp 188)], type := 30, pos := "law.go:117", after := #[{ on := 12, ground := Ground.data }], guard := none }) rfl (fun K hK => ?_) AllReadyH.nil)
            · skip
              go_simp
              refine hK.out _ _ ?_ (fun hHeld => ?_)
              · ((try dsimp only); first | assumption | exact HSo.out _ HB7.out)
              clear hK K
              try simp only [Act.put, List.setIfInBounds_toArray, List.set_cons_zero, List.set_cons_succ]
              refine wpAnyH_ready (rs := [13]) (by kernel_rfl) (by simp) ?_
              refine AllReadyH.cons (o := { dst := some 189, op := Op.buildSlice 30 1 #[(0, Operand.tmp 188)], type := 30, pos := "law.go:117", after := #[{ on := 12, ground := Ground.data }], guard := none }) rfl (fun K hK => ?_) AllReadyH.nil
              go_simp
              refine hK.out _ _ ?_ (fun hHeld => ?_)
              · ((try dsimp only); first | assumption | exact HSo.out _ (HB7.out.alloc HB7.out.size _) | exact HSo.out _ (HB7.out.alloc HB7.out.size _).drew)
              clear hK K
              try simp only [Act.put, List.setIfInBounds_toArray, List.set_cons_zero, List.set_cons_succ]
              clear r3 r3d r37 r37o
              refine wpAnyH_ready (rs := [14]) (by kernel_rfl) (by simp) ?_
              refine AllReadyH.cons (o := { dst := some 190, op := Op.call { callee := Callee.builtin Builtin.append, args := #[Operand.tmp 180, Operand.tmp 189], argTypes := #[30, 30] }, type := 30, pos := "law.go:117", after := #[{ on := 4, ground := Ground.data }, { on := 13, ground := Ground.data }, { on := 8, ground := Ground.chain }], guard := none }) rfl (fun K hK => ?_) AllReadyH.nil
              refine step_append_lies _ (by rfl) _ _ _ (by rfl) 0 47 jb (.agg #[.string ⟨#[]⟩, .slice none 0 0, .bool false]) 3 48 Try.underlying30 hjb hy0 hy1 hy2 rfl (by decide) (.slice q6 s.raws.length cap6) s.raws.length (M6.flatMap fun x => rawC x.1 x.2) (by rfl) (HRow6.out _ (HB7.out.alloc HB7.out.size _)) ⟨w7.heap.size, 0, none⟩ 1 1 [.string zn, .slice p7 m c7, .bool true] (by rfl) rfl (new_cells3 _ _ _ _ _) (by simp [Value.oneCell']) (by decide) (by unfold maxLen; omega) (by omega) (Nat.zero_le _) (w7.heap.size + 1) (size_alloc1 _ _) ?_
              intro g4 cap4 w8 ho8 hg8 hat8 hlt8
              have h7 := HR7.out
              rw [hl] at h7
              have h8s := hg8.size
              rw [size_alloc1] at h8s
              have hs7 := HB7.out.size
              obtain ⟨k8, f8, hoc8, htw8⟩ := HFi6.out _ w8 g4 cap4 m c7 p7 (zn, l, true) (s.wr + 1) (HB7.out.alloc HB7.out.size _) ho8 hg8 (by rcases hat8 with h | h; exact .inl h; exact .inr (by omega)) (RB.alloc (RB.base h7 (Nat.zero_le _)) _) (fun q e => by have h1 := (RB.blk h7 e).1; have h2 := (RB.blk h7 e).2; omega)
              have HT8 := Lib.hid htw8
              have HOc8 := Lib.hid hoc8
              clear h7 htw8 hoc8 ho8 hg8 hat8
              refine hK.out _ _ ?_ (fun hHeld => ?_)
              · ((try dsimp only); first | assumption | exact ⟨(HOc8.out _ _ HOc.out.2.2.2.1).1, (HOc8.out _ _ HOc.out.1).1⟩)
              clear hK K
              try simp only [Act.put, List.setIfInBounds_toArray, List.set_cons_zero, List.set_cons_succ]
              refine wpAnyH_take (i := 15) (oi := { dst := some 191, op := Op.nilCheck (Operand.tmp 176), type := 0, pos := "law.go:117", after := #[{ on := 0, ground := Ground.data }, { on := 0, ground := Ground.phase }, { on := 1, ground := Ground.phase }, { on := 2, ground := Ground.phase }, { on := 3, ground := Ground.phase }, { on := 4, ground := Ground.phase }, { on := 5, ground := Ground.phase }, { on := 6, ground := Ground.phase }, { on := 7, ground := Ground.phase }, { on := 8, ground := Ground.phase }, { on := 9, ground := Ground.phase }, { on := 10, ground := Ground.phase }, { on := 11, ground := Ground.phase }, { on := 12, ground := Ground.phase }, { on := 13, ground := Ground.phase }, { on := 14, ground := Ground.phase }], guard := none }) (v := ?_) rfl (by kernel_rfl) (by kernel_rfl) (by kernel_rfl) (fun _ _ _ h => h) (Or.inl ⟨by rfl, ?_⟩) (by assumption) ?_
              rotate_left 1
              · (intro w hSw; (try dsimp only at hSw); go_simp; all_goals (with_reducible rfl))
              try simp only [Act.put, List.setIfInBounds_toArray, List.set_cons_zero, List.set_cons_succ]
              refine wpAnyH_take (i := 16) (oi := { dst := some 192, op := Op.fieldAddr 32 (Operand.tmp 191) 5, type := 0, pos := "law.go:117", after := #[{ on := 15, ground := Ground.data }, { on := 0, ground := Ground.phase }, { on := 1, ground := Ground.phase }, { on := 2, ground := Ground.phase }, { on := 3, ground := Ground.phase }, { on := 4, ground := Ground.phase }, { on := 5, ground := Ground.phase }, { on := 6, ground := Ground.phase }, { on := 7, ground := Ground.phase }, { on := 8, ground := Ground.phase }, { on := 9, ground := Ground.phase }, { on := 10, ground := Ground.phase }, { on := 11, ground := Ground.phase }, { on := 12, ground := Ground.phase }, { on := 13, ground := Ground.phase }, { on := 14, ground := Ground.phase }], guard := none }) (v := ?_) rfl (by kernel_rfl) (by kernel_rfl) (by kernel_rfl) (fun _ _ _ h => h) (Or.inl ⟨by rfl, ?_⟩) (by assumption) ?_
              rotate_left 1
              · (intro w hSw; (try dsimp only at hSw); go_simp; all_goals (with_reducible rfl))
              try simp only [Act.put, List.setIfInBounds_toArray, List.set_cons_zero, List.set_cons_succ]
              refine wpAnyH_ready (rs := [17]) (by kernel_rfl) (by simp) ?_
              refine AllReadyH.cons (o := { dst := none, op := Op.store 30 (Operand.tmp 192) (Operand.tmp 190), type := 0, pos := "law.go:117", after := #[{ on := 16, ground := Ground.data }, { on := 14, ground := Ground.data }, { on := 14, ground := Ground.chain }, { on := 0, ground := Ground.phase }, { on := 1, ground := Ground.phase }, { on := 2, ground := Ground.phase }, { on := 3, ground := Ground.phase }, { on := 4, ground := Ground.phase }, { on := 5, ground := Ground.phase }, { on := 6, ground := Ground.phase }, { on := 7, ground := Ground.phase }, { on := 8, ground := Ground.phase }, { on := 9, ground := Ground.phase }, { on := 10, ground := Ground.phase }, { on := 11, ground := Ground.phase }, { on := 12, ground := Ground.phase }, { on := 13, ground := Ground.phase }, { on := 14, ground := Ground.phase }], guard := none }) rfl (fun K hK => ?_) AllReadyH.nil
              go_simp
              refine hK.out _ _ ?_ (fun hHeld => ?_)
              · ((try dsimp only); first | assumption | exact ⟨(HOc8.out _ _ HOc.out.2.2.2.1).2, (HOc8.out _ _ HOc.out.1).2⟩)
              clear hK K
              try simp only [Act.put, List.setIfInBounds_toArray, List.set_cons_zero, List.set_cons_succ]
              refine wpAnyH_done (by kernel_rfl) ?_ _
              refine NoPanic.normal ?_
              go_wp2
              go_meet
              exact ⟨b, r, d, _, rfl, rfl, HT8.out, okm_raw HO.out hlt2 _ hl60⟩
            · skip
              go_simp
              refine hK.out _ _ ?_ (fun hHeld => ?_)
              · ((try dsimp only); first | assumption | exact HSo.out _ (HB7.out.alloc HB7.out.size _) | exact HSo.out _ (HB7.out.alloc HB7.out.size _).drew)
              clear hK K
              try simp only [Act.put, List.setIfInBounds_toArray, List.set_cons_zero, List.set_cons_succ]
              refine wpAnyH_ready (rs := [4]) (by kernel_rfl) (by simp) ?_
              refine AllReadyH.cons (o := { dst := some 180, op := Op.load 30 (Operand.tmp 179), type := 30, pos := "law.go:117", after := #[{ on := 3, ground := Ground.data }], guard := none }) rfl (fun K hK => ?_) AllReadyH.nil
              go_simp
              refine hK.out _ _ ?_ (fun hHeld => ?_)
              · ((try dsimp only); first | assumption | exact HSo.out _ (HB7.out.alloc HB7.out.size _) | exact HSo.out _ (HB7.out.alloc HB7.out.size _).drew)
              clear hK K
              try simp only [Act.put, List.setIfInBounds_toArray, List.set_cons_zero, List.set_cons_succ]
              clear r3 r3d r37 r37o
              refine wpAnyH_ready (rs := [14]) (by kernel_rfl) (by simp) ?_
              refine AllReadyH.cons (o := { dst := some 190, op := Op.call { callee := Callee.builtin Builtin.append, args := #[Operand.tmp 180, Operand.tmp 189], argTypes := #[30, 30] }, type := 30, pos := "law.go:117", after := #[{ on := 4, ground := Ground.data }, { on := 13, ground := Ground.data }, { on := 8, ground := Ground.chain }], guard := none }) rfl (fun K hK => ?_) AllReadyH.nil
              refine step_append_lies _ (by rfl) _ _ _ (by rfl) 0 47 jb (.agg #[.string ⟨#[]⟩, .slice none 0 0, .bool false]) 3 48 Try.underlying30 hjb hy0 hy1 hy2 rfl (by decide) (.slice q6 s.raws.length cap6) s.raws.length (M6.flatMap fun x => rawC x.1 x.2) (by rfl) (HRow6.out _ (HB7.out.alloc HB7.out.size _)) ⟨w7.heap.size, 0, none⟩ 1 1 [.string zn, .slice p7 m c7, .bool true] (by rfl) rfl (new_cells3 _ _ _ _ _) (by simp [Value.oneCell']) (by decide) (by unfold maxLen; omega) (by omega) (Nat.zero_le _) (w7.heap.size + 1) (size_alloc1 _ _) ?_
              intro g4 cap4 w8 ho8 hg8 hat8 hlt8
              have h7 := HR7.out
              rw [hl] at h7
              have h8s := hg8.size
              rw [size_alloc1] at h8s
              have hs7 := HB7.out.size
              obtain ⟨k8, f8, hoc8, htw8⟩ := HFi6.out _ w8 g4 cap4 m c7 p7 (zn, l, true) (s.wr + 1) (HB7.out.alloc HB7.out.size _) ho8 hg8 (by rcases hat8 with h | h; exact .inl h; exact .inr (by omega)) (RB.alloc (RB.base h7 (Nat.zero_le _)) _) (fun q e => by have h1 := (RB.blk h7 e).1; have h2 := (RB.blk h7 e).2; omega)
              have HT8 := Lib.hid htw8
              have HOc8 := Lib.hid hoc8
              clear h7 htw8 hoc8 ho8 hg8 hat8
              refine hK.out _ _ ?_ (fun hHeld => ?_)
              · ((try dsimp only); first | assumption | exact ⟨(HOc8.out _ _ HOc.out.2.2.2.1).1, (HOc8.out _ _ HOc.out.1).1⟩)
              clear hK K
              try simp only [Act.put, List.setIfInBounds_toArray, List.set_cons_zero, List.set_cons_succ]
              refine wpAnyH_take (i := 15) (oi := { dst := some 191, op := Op.nilCheck (Operand.tmp 176), type := 0, pos := "law.go:117", after := #[{ on := 0, ground := Ground.data }, { on := 0, ground := Ground.phase }, { on := 1, ground := Ground.phase }, { on := 2, ground := Ground.phase }, { on := 3, ground := Ground.phase }, { on := 4, ground := Ground.phase }, { on := 5, ground := Ground.phase }, { on := 6, ground := Ground.phase }, { on := 7, ground := Ground.phase }, { on := 8, ground := Ground.phase }, { on := 9, ground := Ground.phase }, { on := 10, ground := Ground.phase }, { on := 11, ground := Ground.phase }, { on := 12, ground := Ground.phase }, { on := 13, ground := Ground.phase }, { on := 14, ground := Ground.phase }], guard := none }) (v := ?_) rfl (by kernel_rfl) (by kernel_rfl) (by kernel_rfl) (fun _ _ _ h => h) (Or.inl ⟨by rfl, ?_⟩) (by assumption) ?_
              rotate_left 1
              · (intro w hSw; (try dsimp only at hSw); go_simp; all_goals (with_reducible rfl))
              try simp only [Act.put, List.setIfInBounds_toArray, List.set_cons_zero, List.set_cons_succ]
              refine wpAnyH_take (i := 16) (oi := { dst := some 192, op := Op.fieldAddr 32 (Operand.tmp 191) 5, type := 0, pos := "law.go:117", after := #[{ on := 15, ground := Ground.data }, { on := 0, ground := Ground.phase }, { on := 1, ground := Ground.phase }, { on := 2, ground := Ground.phase }, { on := 3, ground := Ground.phase }, { on := 4, ground := Ground.phase }, { on := 5, ground := Ground.phase }, { on := 6, ground := Ground.phase }, { on := 7, ground := Ground.phase }, { on := 8, ground := Ground.phase }, { on := 9, ground := Ground.phase }, { on := 10, ground := Ground.phase }, { on := 11, ground := Ground.phase }, { on := 12, ground := Ground.phase }, { on := 13, ground := Ground.phase }, { on := 14, ground := Ground.phase }], guard := none }) (v := ?_) rfl (by kernel_rfl) (by kernel_rfl) (by kernel_rfl) (fun _ _ _ h => h) (Or.inl ⟨by rfl, ?_⟩) (by assumption) ?_
              rotate_left 1
              · (intro w hSw; (try dsimp only at hSw); go_simp; all_goals (with_reducible rfl))
              try simp only [Act.put, List.setIfInBounds_toArray, List.set_cons_zero, List.set_cons_succ]
              refine wpAnyH_ready (rs := [17]) (by kernel_rfl) (by simp) ?_
              refine AllReadyH.cons (o := { dst := none, op := Op.store 30 (Operand.tmp 192) (Operand.tmp 190), type := 0, pos := "law.go:117", after := #[{ on := 16, ground := Ground.data }, { on := 14, ground := Ground.data }, { on := 14, ground := Ground.chain }, { on := 0, ground := Ground.phase }, { on := 1, ground := Ground.phase }, { on := 2, ground := Ground.phase }, { on := 3, ground := Ground.phase }, { on := 4, ground := Ground.phase }, { on := 5, ground := Ground.phase }, { on := 6, ground := Ground.phase }, { on := 7, ground := Ground.phase }, { on := 8, ground := Ground.phase }, { on := 9, ground := Ground.phase }, { on := 10, ground := Ground.phase }, { on := 11, ground := Ground.phase }, { on := 12, ground := Ground.phase }, { on := 13, ground := Ground.phase }, { on := 14, ground := Ground.phase }], guard := none }) rfl (fun K hK => ?_) AllReadyH.nil
              go_simp
              refine hK.out _ _ ?_ (fun hHeld => ?_)
              · ((try dsimp only); first | assumption | exact ⟨(HOc8.out _ _ HOc.out.2.2.2.1).2, (HOc8.out _ _ HOc.out.1).2⟩)
              clear hK K
              try simp only [Act.put, List.setIfInBounds_toArray, List.set_cons_zero, List.set_cons_succ]
              refine wpAnyH_done (by kernel_rfl) ?_ _
              refine NoPanic.normal ?_
              go_wp2
              go_meet
              exact ⟨b, r, d, _, rfl, rfl, HT8.out, okm_raw HO.out hlt2 _ hl60⟩
        · as_aux_lemma =>
          have HA1 := Lib.hid (HT.out.synced HO.out)
          go_upto_region 48 with (go_at_call 22; refine HA1.out.mono ?_; rintro e w6 ⟨rfl, h6⟩; have HT6 := Lib.hid h6; clear h6)
          obtain ⟨q6, cap6, k5, f6, k6⟩ := HT6.out.raws
          have HT7 := Lib.hid (HT6.out.dsync s.wr)
          go_wp2
          go_meet
          exact ⟨b, r, d, _, rfl, rfl, HT7.out, okm_sync HO.out hlt2⟩
        · as_aux_lemma =>
          have hsy := HO.out.syn
          have hfin : ∃ N : Nat, N ≤ s.raws.length ∧ ((zK < s.syn ∧ N = s.syn) ∨ (¬ zK < s.syn ∧ (s.raws.length : Int) < zK ∧ N = s.raws.length) ∨ (¬ zK < s.syn ∧ ¬ (s.raws.length : Int) < zK ∧ zK = N)) := by
            by_cases c1 : zK < s.syn
            · exact ⟨s.syn, hsy, .inl ⟨c1, rfl⟩⟩
            · by_cases c2 : (s.raws.length : Int) < zK
              · exact ⟨s.raws.length, Nat.le_refl _, .inr (.inl ⟨c1, c2, rfl⟩)⟩
              · exact ⟨zK.toNat, by omega, .inr (.inr ⟨c1, c2, by omega⟩)⟩
          obtain ⟨N, hNl, hway⟩ := hfin
          have HWay := Lib.hid hway
          have HOk := Lib.hid (okm_cut HO.out hlt2 N hNl)
          have HA1 := Lib.hid (HT.out.cut HO.out zK hk1 N hway)
          clear hway hsy
          have HOp1 : Hid (∀ V bn k v, oc[k]? = some v → Tri1 W V b bn r d s { s with sent := [], strm := [], raws := s.raws.take N, syn := N } oB oc p8 m c8 l → V.cell? ⟨oB, k, none⟩ = some v) := Lib.hid (fun V bn k v hv ⟨col, h1, h2, h3, h4, h5, h6⟩ => by unfold World.cell?; rw [h6.ob]; exact hv)
          have HOp2 : Hid (∀ V bn r2 s2 k v, oc[k]? = some v → Tri W V b bn r r2 d s s2 oB oc p8 m c8 l → V.cell? ⟨oB, k, none⟩ = some v) := Lib.hid (fun V bn r2 s2 k v hv ⟨col, h1, h2, h3, h4, h5, h6, h7⟩ => by unfold World.cell?; rw [h7.ob]; exact hv)
          go_wp2_with (first | (go_at_call 23; refine HA1.out.mono ?_; rintro e w6 ⟨bn, rfl, h6⟩; have HT6 := Lib.hid h6; have q1 := HOp1.out _ _ _ _ HOc.out.2.1 h6; have HA2 := Lib.hid (h6.cut HO.out zK hk1 HWay.out); clear h6) | (go_at_call 24; refine HA2.out.mono ?_; rintro e w7 ⟨r7, rfl, h7⟩; have HT7 := Lib.hid h7; have q3 := HOp2.out _ _ _ _ _ _ HOc.out.2.2.2.1 h7; have HA3 := Lib.hid (h7.same1 HOk.out.1 zn s1); clear h7) | (go_at_call 25; refine HA4.out.mono ?_; rintro e w9 ⟨rfl, h9⟩; have HT9 := Lib.hid h9; clear h9) | (go_at_call 25; refine HA3.out.mono ?_; rintro e w8 ⟨rfl, h8⟩; have HT8 := Lib.hid h8; have q4 := HOp2.out _ _ _ _ _ _ HOc.out.2.2.2.1 h8; have HA4 := Lib.hid (h8.same2 HO.out zn s1); clear h8))
          go_meet
          exact ⟨bn, r7, d + 1, _, rfl, rfl, HT9.out, ⟨HOk.out.touch zn, okm_files HO.out hlt2 N zn⟩⟩
      case rest =>
        as_aux_lemma =>
          obtain ⟨b2, r2, d2, s9, rfl, rfl, h9, ho9⟩ := hcut
          have HT9 := Lib.hid h9
          have HO9 := Lib.hid ho9
          clear h9 ho9 HT HO
          go_wp2
          go_loopw [11] (fun kv wy => ∃ (k : Nat) (l2 : List UInt8), kv = .int .i64 k ∧ k ≤ m ∧ l2.length = m ∧ Two W wy b2 r2 d2 s9 s9 oB oc p8 m c8 l2) (fun kv _ => m - (intOf kv).toNat)
          case atStart => exact ⟨0, l, rfl, Nat.zero_le _, hl, HT9.out⟩
          case round =>
            obtain ⟨k, l2, rfl, hkm, hl2, htw⟩ := hrel
            have HTw := Lib.hid htw
            clear htw
            by_cases hlt3 : k < m
            · obtain ⟨g8, x8, rfl, hx8, _, hm8, hc8b, hcell, hfr⟩ := HTw.out.byte hlt3
              have hk0 : (0 : Int) ≤ (k : Int) := by omega
              have hk2 : (k : Int) < (m : Int) := by omega
              have hz7 : 0 ≤ bits BinOp.xor IntKind.u8 (x8.toNat : Int) 7 ∧ bits BinOp.xor IntKind.u8 (x8.toNat : Int) 7 ≤ 255 := by
                have h7 := wf_bits .xor .u8 (x8.toNat : Int) 7
                generalize bits BinOp.xor IntKind.u8 (x8.toNat : Int) 7 = y7 at h7
                simpa [Lit.wf, IntKind.wrap, IntKind.bits, IntKind.signed, IntKind.min, IntKind.max] using h7
              obtain ⟨l3, hl3, ht3⟩ := HTw.out.store hx8 hz7
              have HT3 := Lib.hid ht3
              clear ht3 hz7
              go_wp2
              go_roundw
              case rel => exact ⟨k + 1, l3, by go_num, hlt3, by omega, HT3.out⟩
              case measure => simp [intOf]; omega
            · obtain rfl : k = m := by omega
              have o3 := HTw.out.op HOc.out.2.2.2.1
              have HSm := Lib.hid (HTw.out.same HO9.out.1 zn s1)
              go_wp2_with (go_at_call 25; refine HSm.out.mono ?_; rintro e w10 ⟨rfl, h10⟩; have HT10 := Lib.hid h10; clear h10)
              have hfin := HT10.out.all (HO9.out.touch zn)
              go_roundw
              case rel => exact ⟨j + 1, by go_num, hlt, hlt2, hfin.1, hfin.2⟩
              case measure => simp [intOf]; omega
    · clear hj40
      have hno : ¬ (j : Int) < (n : Int) ∨ ((j : Int) < (n : Int) ∧ ¬ (j : Int) < 40) := by omega
      rcases hno with h1 | ⟨h1, h2⟩
      · go_wp2
        go_ret
        exact ⟨rfl, HBw.out⟩
      · go_wp2
        go_ret
        exact ⟨rfl, HBw.out⟩
end Go.Proofs.Ytaaiicfclaeapaa
