/- SourceCalls: the walk. -/
import Derived.Test.YtpdkjifalgeodaaScb
namespace Go.Proofs.Ytpdkjifalgeodaa
open Go.RowKit Go.Extern.Stop Go.Stop Go.Extern Go.Lib Go.Tx
theorem noPolls_two (d : DefL) (y z : Bool) : noPolls (noPolls d y) z = { d with polls := (noPolls (noPolls d y) z).polls } := by
  unfold noPolls
  cases y <;> cases z <;> rfl
theorem polls_told (d : DefL) (y en : Bool) : (noPolls (noPolls d (d.hears && y)) ((noPolls d (d.hears && y)).hears && en)).polls = if (d.hears && (y || en)) = true then 0 else d.polls := by
  rw [noPolls_hears]
  unfold noPolls
  cases d.hears <;> cases y <;> cases en <;> rfl
theorem nilNn (w : World) : (binOp .neq 35 .nilIface .nilIface).run Try.prog w = .ok (.bool false) w := by kernel_rfl
theorem kn_out {d : DefL} {db : Int} (h : db < 0 ∨ 4 < db) : kn d db = false := by
  unfold kn
  rw [if_neg (by omega), if_neg (by omega), if_neg (by omega), if_neg (by omega), if_neg (by omega)]
set_option maxHeartbeats 4000000 in
set_option maxRecDepth 100000 in
theorem sourceCalls_walk (d : DefL) (db : Int) (bp : Option Addr) (bn bc : Nat) (xs : List Int) (en : Bool) (ns as_ : List (List UInt8)) (ds : List (ByteArray × Int)) (w : World) (hd : DefIn w d ns as_ ds) (hx : BytS w bp bn bc xs) :
    Calls Try.prog 3 #[defV d, .int .i64 db, .slice bp bn bc, .bool en] w fun e w' => e = .returned (.bool true) ∧ Below w.heap.size w w' := by
  have HSx := Lib.hid begun12_any
  have sz := sz_def d
  have HCut : Hid (∀ W, Below w.heap.size w W → Calls Try.prog 8 #[defV d] W fun e w' => ∃ d2, e = .returned (defV d2) ∧ d2.label = cutB 20 d.label ∧ (∀ W' : World, w'.heap.size ≤ W'.heap.size → (∀ k, k < w'.heap.size → k < w.heap.size ∨ W.heap.size ≤ k → W'.heap[k]? = w'.heap[k]?) → DefCut W' d2 (cutTs ns) (cutTs as_) (ds.take 4)) ∧ Below W.heap.size W w') := Lib.hid (fun W hW => cut12_of d ns as_ ds w W hd hW)
  have h1c : Hid ((defC d).size = 18) := Lib.hid rfl
  unfold defV at HCut ⊢
  obtain ⟨cs, hcs⟩ : ∃ cs, defC d = cs := ⟨_, rfl⟩
  rw [hcs] at sz h1c HCut ⊢
  have HX := Lib.hid hx
  clear hcs hd hx
  go_enter Try.func3, Try.ntmps3
  go_upto_region 1 with (fail)
  obtain ⟨W0, hW0⟩ : ∃ W, w.alloc (.cells cs 28) = W := ⟨_, rfl⟩
  have HA0 : Hid (W0.heap[w.heap.size]? = some (.cells cs 28 (0, 0))) := Lib.hid (hW0 ▸ heap_alloc_new w _)
  have HB0 : Hid (Below w.heap.size w W0) := Lib.hid (hW0 ▸ al_bel w _)
  have HZ0 : Hid (W0.heap.size = w.heap.size + 1) := Lib.hid (hW0 ▸ al_size w _)
  rw [hW0]
  clear hW0
  go_upto_region 5 with (first
    | (go_at_call 7; refine (HSx.out _).mono ?_; rintro e w1 ⟨rfl, hb⟩; have HB1 := Lib.hid hb; have HA1 := Lib.hid ((hb.block _ (lt_of HA0.out)).trans HA0.out); have HBw1 := Lib.hid (keepE HB0.out hb); clear hb)
    | (with_reducible refine wpList_load_row rfl 28 _ rfl w.heap.size rfl 28 cs (0, 0) _ HA1.out Try.underlying28 rfl sz ?_)
    | (go_at_call 8; refine (HCut.out _ HBw1.out).mono ?_; rintro e w2 ⟨d2, rfl, hlb, hdc, hb⟩; have HDC := Lib.hid hdc; have HB2 := Lib.hid hb; have HA2 := Lib.hid ((hb.block _ (lt_of HA1.out)).trans HA1.out); have sz2 := sz_def d2; have H18 : Hid (cs.size = (defC d2).size) := Lib.hid (h1c.out.trans rfl); have H1c : Hid ((defC d2).all (·.oneCell') = true) := Lib.hid (defC_one d2); clear hlb hdc hb)
    | (with_reducible show wpList _ _ _ (⟨none, _, _, _, _, _⟩ :: _) _ _; refine wpList_store_row rfl 28 _ _ rfl w.heap.size (defC d2) rfl rfl 28 _ HA2.out sz2 H18.out H1c.out ?_))
  obtain ⟨W2, hW2⟩ : ∃ W, w2.setRow w.heap.size (defC d2) = W := ⟨_, rfl⟩
  have hz2 : w.heap.size + 1 ≤ w2.heap.size := by have := HZ0.out; have := HB1.out.size; have := HB2.out.size; omega
  have hA : W2.heap[w.heap.size]? = some (.cells (defC d2) 28 (0, 0)) := by rw [← hW2]; exact setRow_heap _ _ _ _ _ _ HA2.out
  have hBw : Below w.heap.size w W2 := by
    have h := keepE HBw1.out HB2.out
    rw [← hW2]
    exact ⟨h.os, h.tape, h.output, by rw [setRow_size]; exact h.size, fun k hk => (setRow_other _ _ _ _ (by omega)).trans (h.block k hk)⟩
  have hCut : DefCut W2 d2 (cutTs ns) (cutTs as_) (ds.take 4) := by
    rw [← hW2]
    refine HDC.out _ (by rw [setRow_size]; exact Nat.le_refl _) (fun k _ hk => setRow_other _ _ _ _ ?_)
    have := HZ0.out
    have := HB1.out.size
    omega
  have hx2 := HX.out.below hBw.block
  have HA := Lib.hid hA
  have HBw := Lib.hid hBw
  have HC := Lib.hid hCut
  have HX2 := Lib.hid hx2
  rw [hW2]
  clear hW2 hz2 hA hBw hCut hx2 HA0 HB0 HZ0 HA1 HBw1 HB1 HB2 HDC HCut
  generalize cutTs ns = ns2 at *
  generalize cutTs as_ = as2 at *
  generalize ds.take 4 = ds2 at *
  try simp only [Act.put]
  go_upto_if 30 with (fail)
  go_cut [2] from 30 to 32 (fun v wx => v = .slice bp (if 20 < bn then 20 else bn) bc ∧ wx = W2)
  case first =>
    by_cases h20 : 20 < bn
    · have hbc := HX2.out.2.1
      have hmx := HX2.out.2.2.1
      unfold maxLen at hmx
      have h20i : (20 : Int) < (bn : Int) := by omega
      have h20b : decide ((20 : Int) < (bn : Int)) = true := by simp; omega
      obtain ⟨ad, rfl, _⟩ := HX2.out.2.2.2 (by omega)
      go_wp2
      go_meet
      exact ⟨by rw [if_pos h20], rfl⟩
    · have h20i : ¬ (20 : Int) < (bn : Int) := by omega
      have h20b : decide ((20 : Int) < (bn : Int)) = false := by simp; omega
      go_wp2
      go_meet
      exact ⟨by rw [if_neg h20], rfl⟩
  case rest =>
  obtain ⟨rfl, hw⟩ := hcut
  replace hw := hw.symm
  subst hw
  have HX3 := Lib.hid (bytS_take HX2.out)
  have hm20 : (if 20 < bn then 20 else bn) ≤ 20 := by split <;> omega
  generalize (if 20 < bn then 20 else bn) = m at *
  generalize xs.take 20 = ys at *
  clear HX HX2
  have HMk : Hid (∀ W, Calls Try.prog 10 #[.agg (defC d2)] W fun e w' => e = .returned (srcV d2) ∧ w' = W.alloc (.cells (defC d2) 28)) := Lib.hid (make_any d2)
  by_cases hbad : takes d2 db = false ∨ d2.beg = 1 ∨ d2.beg = 2
  · have HBg : Hid (∀ W, Calls Try.prog 9 #[srcV d2, .agg #[.int .i64 db, .string ⟨#[]⟩, .string ⟨#[]⟩, .int .i64 0]] W fun e w' => ∃ t x, e = .returned (.tuple #[.nilIface, .iface t x]) ∧ ErrS w' [d2.label] 2 (.iface t x) ∧ Below W.heap.size W w') := Lib.hid (fun W => (begin_err d2 db _ _ _ W hbad).mono (fun e w' ⟨er, he, her, hb⟩ => by
      obtain ⟨t, x, rfl⟩ := her.iface
      exact ⟨t, x, he, her, hb⟩))
    go_upto_region 8 with (first
      | (with_reducible refine wpList_load_row rfl 28 _ rfl w.heap.size rfl 28 (defC d2) (0, 0) _ HA.out Try.underlying28 rfl sz2 ?_)
      | (go_at_call 10; refine (HMk.out _).mono ?_; rintro e wm ⟨rfl, hwm⟩; have HBm : Hid (Below W2.heap.size W2 wm) := Lib.hid (by rw [hwm]; exact al_bel _ _); clear hwm)
      | (go_at_call 9; refine (HBg.out _).mono ?_; rintro e w5 ⟨t1, x1, rfl, her1, hb5⟩; have HE1 := Lib.hid her1; have HB5 : Hid (Below W2.heap.size W2 w5) := Lib.hid (keepE HBm.out hb5); clear her1 hb5))
    have hA5 := (HB5.out.block _ (lt_of HA.out)).trans HA.out
    have kw : w5.cell? ⟨w.heap.size, 1, none⟩ = some (.bool d2.wild) := cellJ hA5 (defC_at rfl)
    have q0 : w5.cell? ⟨w.heap.size, 2, none⟩ = some (.bool d2.k0) := cellJ hA5 (defC_at rfl)
    have q1 : w5.cell? ⟨w.heap.size, 3, none⟩ = some (.bool d2.k1) := cellJ hA5 (defC_at rfl)
    have q2 : w5.cell? ⟨w.heap.size, 4, none⟩ = some (.bool d2.k2) := cellJ hA5 (defC_at rfl)
    have q3 : w5.cell? ⟨w.heap.size, 5, none⟩ = some (.bool d2.k3) := cellJ hA5 (defC_at rfl)
    have q4 : w5.cell? ⟨w.heap.size, 6, none⟩ = some (.bool d2.k4) := cellJ hA5 (defC_at rfl)
    have kb : w5.cell? ⟨w.heap.size, 7, none⟩ = some (.int .i64 d2.beg) := cellJ hA5 (defC_at rfl)
    have k0 : w5.cell? ⟨w.heap.size, 0, none⟩ = some (.string d2.label) := cellJ hA5 (defC_at rfl)
    have HA5 := Lib.hid hA5
    clear hA5
    go_cut [12] from 41 to 56 (fun v wx => v = .bool (takes d2 db) ∧ wx = w5)
    case first =>
      have hwd : d2.wild = true ∨ d2.wild = false := by cases d2.wild <;> simp
      rcases hwd with hwd | hwd
      · rw [hwd] at kw
        go_wp2
        go_meet
        exact ⟨by simp [takes, hwd], rfl⟩
      · rw [hwd] at kw
        have hdd : db < 0 ∨ 4 < db ∨ db = 0 ∨ db = 1 ∨ db = 2 ∨ db = 3 ∨ db = 4 := by omega
        rcases hdd with h | h | rfl | rfl | rfl | rfl | rfl
        · have h1 : ¬ 0 ≤ db := by omega
          go_wp2
          go_meet
          exact ⟨by rw [takes, hwd, kn_out (by omega)]; rfl, rfl⟩
        · have h1 : 0 ≤ db := by omega
          have h2 : ¬ db < 5 := by omega
          go_wp2
          go_meet
          exact ⟨by rw [takes, hwd, kn_out (by omega)]; rfl, rfl⟩
        all_goals
          go_wp2
          go_meet
          exact ⟨by simp [takes, hwd, kn], rfl⟩
    case rest =>
    obtain ⟨rfl, hw⟩ := hcut
    replace hw := hw.symm
    subst hw
    have HCo : Hid (∀ W, Below w5.heap.size w5 W → Calls Try.prog 11 #[.iface t1 x1] W fun e w' => e = .returned (.int .i64 2) ∧ Below w5.heap.size w5 w') := Lib.hid (fun W hW => (code0_any W _ _ _ (HE1.out.below hW) (by simp)).mono (fun e w' ⟨he, hb⟩ => ⟨by rw [he, codeV_two], keepE hW hb⟩))
    have HSo : Hid (∀ W, Below w5.heap.size w5 W → Calls Try.prog 12 #[.iface t1 x1] W fun e w' => e = .returned (.string d2.label) ∧ W = w') := Lib.hid (fun W hW => src0_any W _ _ _ _ (HE1.out.below hW))
    have HBx := Lib.hid (Below.refl w5.heap.size w5)
    have e1 := opN
    -- REFUSED
    clear kw q0 q1 q2 q3 q4
    obtain ⟨T, hT⟩ : ∃ T, takes d2 db = T := ⟨_, rfl⟩
    rw [hT] at hbad ⊢
    clear hT
    go_upto_region 9 with (fail)
    go_cut [68] from 57 to 67 (fun v wx => v = .bool true ∧ wx = w5)
    case first =>
      rcases hbad with rfl | hbad | hbad
      · go_wp2
        go_meet
        exact ⟨rfl, rfl⟩
      all_goals
        rw [hbad] at kb
        cases T
        all_goals
          go_wp2
          go_meet
          exact ⟨rfl, rfl⟩
    case rest =>
    obtain ⟨rfl, hw⟩ := hcut
    replace hw := hw.symm
    subst hw
    have HS0 : Hid (∀ W, Below w5.heap.size w5 W → W.cell? ⟨w.heap.size, 0, none⟩ = some (.string d2.label)) := Lib.hid (fun W hW => cellJ ((hW.block _ (lt_of HA5.out)).trans HA5.out) (defC_at rfl))
    clear kb k0
    go_upto_region 10 with (fail)
    refine wp_region_held_drew (S := fun W => W.cell? ⟨w.heap.size, 0, none⟩ = some (.string d2.label)) (by kernel_rfl) (HS0.out _ HBx.out.drew) (fun hHeld => ?_)
    try simp only [Act.put, List.setIfInBounds_toArray, List.set_cons_zero, List.set_cons_succ]
    refine wpAnyH_take (i := 0) (oi := { dst := some 69, op := Op.move (Operand.tmp 9), type := 4, pos := "law.go:169", after := #[], guard := none }) (v := ?_) rfl (by kernel_rfl) (by kernel_rfl) (by kernel_rfl) (fun _ _ _ h => h) (Or.inl ⟨by rfl, ?_⟩) (by assumption) ?_
    rotate_left 1
    · (intro w hSw; (try dsimp only at hSw); go_simp; all_goals (first | with_reducible rfl | (simp; done)))
    try simp only [Act.put, List.setIfInBounds_toArray, List.set_cons_zero, List.set_cons_succ]
    refine wpAnyH_take (i := 1) (oi := { dst := some 70, op := Op.move (Operand.tmp 69), type := 4, pos := "law.go:169", after := #[{ on := 0, ground := Ground.data }], guard := none }) (v := ?_) rfl (by kernel_rfl) (by kernel_rfl) (by kernel_rfl) (fun _ _ _ h => h) (Or.inl ⟨by rfl, ?_⟩) (by assumption) ?_
    rotate_left 1
    · (intro w hSw; (try dsimp only at hSw); go_simp; all_goals (first | with_reducible rfl | (simp; done)))
    try simp only [Act.put, List.setIfInBounds_toArray, List.set_cons_zero, List.set_cons_succ]
    refine wpAnyH_take (i := 2) (oi := { dst := some 71, op := Op.move (Operand.tmp 10), type := 33, pos := "law.go:169", after := #[{ on := 1, ground := Ground.guard }], guard := some (1, true) }) (v := ?_) rfl (by kernel_rfl) (by kernel_rfl) (by kernel_rfl) (fun _ _ _ h => h) (Or.inl ⟨by rfl, ?_⟩) (by assumption) ?_
    rotate_left 1
    · (intro w hSw; (try dsimp only at hSw); go_simp; all_goals (first | with_reducible rfl | (simp; done)))
    try simp only [Act.put, List.setIfInBounds_toArray, List.set_cons_zero, List.set_cons_succ]
    refine wpAnyH_take (i := 3) (oi := { dst := some 72, op := Op.binOp BinOp.eql 33 (Operand.tmp 71) (Operand.const Value.nilIface) 33, type := 4, pos := "law.go:169", after := #[{ on := 2, ground := Ground.data }, { on := 1, ground := Ground.guard }], guard := some (1, true) }) (v := ?_) rfl (by kernel_rfl) (by kernel_rfl) (by kernel_rfl) (fun _ _ _ h => h) (Or.inl ⟨by rfl, ?_⟩) (by assumption) ?_
    rotate_left 1
    · (intro w hSw; (try dsimp only at hSw); go_simp; all_goals (first | with_reducible rfl | (simp; done)))
    try simp only [Act.put, List.setIfInBounds_toArray, List.set_cons_zero, List.set_cons_succ]
    refine wpAnyH_take (i := 4) (oi := { dst := some 73, op := Op.pick (Operand.tmp 70) (Operand.tmp 72) (Operand.const (Value.bool false)), type := 4, pos := "law.go:169", after := #[{ on := 1, ground := Ground.data }, { on := 3, ground := Ground.data }], guard := none }) (v := ?_) rfl (by kernel_rfl) (by kernel_rfl) (by kernel_rfl) (fun _ _ _ h => h) (Or.inl ⟨by rfl, ?_⟩) (by assumption) ?_
    rotate_left 1
    · (intro w hSw; (try dsimp only at hSw); go_simp; all_goals (first | with_reducible rfl | (simp; done)))
    try simp only [Act.put, List.setIfInBounds_toArray, List.set_cons_zero, List.set_cons_succ]
    refine wpAnyH_take (i := 5) (oi := { dst := some 74, op := Op.move (Operand.tmp 73), type := 4, pos := "law.go:169", after := #[{ on := 4, ground := Ground.data }, { on := 1, ground := Ground.chain }], guard := none }) (v := ?_) rfl (by kernel_rfl) (by kernel_rfl) (by kernel_rfl) (fun _ _ _ h => h) (Or.inl ⟨by rfl, ?_⟩) (by assumption) ?_
    rotate_left 1
    · (intro w hSw; (try dsimp only at hSw); go_simp; all_goals (first | with_reducible rfl | (simp; done)))
    try simp only [Act.put, List.setIfInBounds_toArray, List.set_cons_zero, List.set_cons_succ]
    refine wpAnyH_take (i := 6) (oi := { dst := some 75, op := Op.move (Operand.tmp 11), type := 35, pos := "law.go:169", after := #[{ on := 5, ground := Ground.guard }], guard := some (5, true) }) (v := ?_) rfl (by kernel_rfl) (by kernel_rfl) (by kernel_rfl) (fun _ _ _ h => h) (Or.inl ⟨by rfl, ?_⟩) (by assumption) ?_
    rotate_left 1
    · (intro w hSw; (try dsimp only at hSw); go_simp; all_goals (first | with_reducible rfl | (simp; done)))
    try simp only [Act.put, List.setIfInBounds_toArray, List.set_cons_zero, List.set_cons_succ]
    refine wpAnyH_ready (rs := [7]) (by kernel_rfl) (by simp) ?_
    refine AllReadyH.cons (o := { dst := some 76, op := Op.call { callee := Callee.value (Operand.func 11), args := #[Operand.tmp 75], argTypes := #[35] }, type := 43, pos := "law.go:169", after := #[{ on := 6, ground := Ground.data }, { on := 5, ground := Ground.chain }, { on := 5, ground := Ground.guard }], guard := some (5, true) }) rfl (fun K hK => ?_) AllReadyH.nil
    go_simp
    go_at_call 11
    refine (HCo.out _ (by first | exact HBx.out | exact HBx.out.drew)).mono ?_
    rintro e w7 ⟨rfl, hb⟩
    have HBx := Lib.hid hb
    clear hb
    try go_wp2_with fail
    refine hK.out _ _ ?_ (fun hHeld => ?_)
    · ((try dsimp only); exact HS0.out _ HBx.out)
    clear hK K
    try simp only [Act.put, List.setIfInBounds_toArray, List.set_cons_zero, List.set_cons_succ]
    refine wpAnyH_take (i := 8) (oi := { dst := some 77, op := Op.binOp BinOp.eql 43 (Operand.tmp 76) (Operand.const (Value.int IntKind.i64 2)) 43, type := 4, pos := "law.go:169", after := #[{ on := 7, ground := Ground.data }, { on := 5, ground := Ground.guard }], guard := some (5, true) }) (v := ?_) rfl (by kernel_rfl) (by kernel_rfl) (by kernel_rfl) (fun _ _ _ h => h) (Or.inl ⟨by rfl, ?_⟩) (by assumption) ?_
    rotate_left 1
    · (intro w hSw; (try dsimp only at hSw); go_simp; all_goals (first | with_reducible rfl | (simp; done)))
    try simp only [Act.put, List.setIfInBounds_toArray, List.set_cons_zero, List.set_cons_succ]
    refine wpAnyH_take (i := 9) (oi := { dst := some 78, op := Op.pick (Operand.tmp 74) (Operand.tmp 77) (Operand.const (Value.bool false)), type := 4, pos := "law.go:169", after := #[{ on := 5, ground := Ground.data }, { on := 8, ground := Ground.data }], guard := none }) (v := ?_) rfl (by kernel_rfl) (by kernel_rfl) (by kernel_rfl) (fun _ _ _ h => h) (Or.inl ⟨by rfl, ?_⟩) (by assumption) ?_
    rotate_left 1
    · (intro w hSw; (try dsimp only at hSw); go_simp; all_goals (first | with_reducible rfl | (simp; done)))
    try simp only [Act.put, List.setIfInBounds_toArray, List.set_cons_zero, List.set_cons_succ]
    refine wpAnyH_take (i := 10) (oi := { dst := some 79, op := Op.move (Operand.tmp 78), type := 4, pos := "law.go:169", after := #[{ on := 9, ground := Ground.data }, { on := 7, ground := Ground.chain }], guard := none }) (v := ?_) rfl (by kernel_rfl) (by kernel_rfl) (by kernel_rfl) (fun _ _ _ h => h) (Or.inl ⟨by rfl, ?_⟩) (by assumption) ?_
    rotate_left 1
    · (intro w hSw; (try dsimp only at hSw); go_simp; all_goals (first | with_reducible rfl | (simp; done)))
    try simp only [Act.put, List.setIfInBounds_toArray, List.set_cons_zero, List.set_cons_succ]
    refine wpAnyH_take (i := 11) (oi := { dst := some 80, op := Op.move (Operand.tmp 11), type := 35, pos := "law.go:169", after := #[{ on := 10, ground := Ground.guard }], guard := some (10, true) }) (v := ?_) rfl (by kernel_rfl) (by kernel_rfl) (by kernel_rfl) (fun _ _ _ h => h) (Or.inl ⟨by rfl, ?_⟩) (by assumption) ?_
    rotate_left 1
    · (intro w hSw; (try dsimp only at hSw); go_simp; all_goals (first | with_reducible rfl | (simp; done)))
    try simp only [Act.put, List.setIfInBounds_toArray, List.set_cons_zero, List.set_cons_succ]
    refine wpAnyH_take (i := 13) (oi := { dst := some 82, op := Op.fieldAddr 28 (Operand.tmp 4) 0, type := 0, pos := "law.go:169", after := #[{ on := 10, ground := Ground.guard }], guard := some (10, true) }) (v := ?_) rfl (by kernel_rfl) (by kernel_rfl) (by kernel_rfl) (fun _ _ _ h => h) (Or.inl ⟨by rfl, ?_⟩) (by assumption) ?_
    rotate_left 1
    · (intro w hSw; (try dsimp only at hSw); go_simp; all_goals (first | with_reducible rfl | (simp; done)))
    try simp only [Act.put, List.setIfInBounds_toArray, List.set_cons_zero, List.set_cons_succ]
    refine wpAnyH_take (i := 14) (oi := { dst := some 83, op := Op.load 9 (Operand.tmp 82), type := 9, pos := "law.go:169", after := #[{ on := 13, ground := Ground.data }, { on := 10, ground := Ground.guard }], guard := some (10, true) }) (v := ?_) rfl (by kernel_rfl) (by kernel_rfl) (by kernel_rfl) (fun _ _ _ h => h) (Or.inl ⟨by rfl, ?_⟩) (by assumption) ?_
    rotate_left 1
    · (intro w hSw; (try dsimp only at hSw); go_simp; all_goals (first | with_reducible rfl | (simp; done)))
    try simp only [Act.put, List.setIfInBounds_toArray, List.set_cons_zero, List.set_cons_succ]
    refine wpAnyH_ready (rs := [12]) (by kernel_rfl) (by simp) ?_
    refine AllReadyH.cons (o := { dst := some 81, op := Op.call { callee := Callee.value (Operand.func 12), args := #[Operand.tmp 80], argTypes := #[35] }, type := 9, pos := "law.go:169", after := #[{ on := 11, ground := Ground.data }, { on := 10, ground := Ground.chain }, { on := 10, ground := Ground.guard }], guard := some (10, true) }) rfl (fun K hK => ?_) AllReadyH.nil
    go_simp
    go_at_call 12
    refine (HSo.out _ HBx.out).mono ?_
    rintro e w8 ⟨rfl, rfl⟩
    try go_wp2_with fail
    refine hK.out _ _ ?_ (fun hHeld => ?_)
    · ((try dsimp only); exact HS0.out _ HBx.out)
    clear hK K
    try simp only [Act.put, List.setIfInBounds_toArray, List.set_cons_zero, List.set_cons_succ]
    refine wpAnyH_take (i := 15) (oi := { dst := some 84, op := Op.binOp BinOp.eql 9 (Operand.tmp 81) (Operand.tmp 83) 9, type := 4, pos := "law.go:169", after := #[{ on := 12, ground := Ground.data }, { on := 14, ground := Ground.data }, { on := 10, ground := Ground.guard }], guard := some (10, true) }) (v := ?_) rfl (by kernel_rfl) (by kernel_rfl) (by kernel_rfl) (fun _ _ _ h => h) (Or.inl ⟨by rfl, ?_⟩) (by assumption) ?_
    rotate_left 1
    · (intro w hSw; (try dsimp only at hSw); go_simp; all_goals (first | with_reducible rfl | (simp; done)))
    try simp only [Act.put, List.setIfInBounds_toArray, List.set_cons_zero, List.set_cons_succ]
    refine wpAnyH_take (i := 16) (oi := { dst := some 85, op := Op.pick (Operand.tmp 79) (Operand.tmp 84) (Operand.const (Value.bool false)), type := 4, pos := "law.go:169", after := #[{ on := 10, ground := Ground.data }, { on := 15, ground := Ground.data }], guard := none }) (v := ?_) rfl (by kernel_rfl) (by kernel_rfl) (by kernel_rfl) (fun _ _ _ h => h) (Or.inl ⟨by rfl, ?_⟩) (by assumption) ?_
    rotate_left 1
    · (intro w hSw; (try dsimp only at hSw); go_simp; all_goals (first | with_reducible rfl | (simp; done)))
    try simp only [Act.put, List.setIfInBounds_toArray, List.set_cons_zero, List.set_cons_succ]
    refine wpAnyH_take (i := 17) (oi := { dst := some 8, op := Op.assign (Operand.tmp 85), type := 4, pos := "law.go:169", after := #[{ on := 16, ground := Ground.data }, { on := 12, ground := Ground.chain }, { on := 0, ground := Ground.phase }, { on := 1, ground := Ground.phase }, { on := 2, ground := Ground.phase }, { on := 3, ground := Ground.phase }, { on := 4, ground := Ground.phase }, { on := 5, ground := Ground.phase }, { on := 6, ground := Ground.phase }, { on := 7, ground := Ground.phase }, { on := 8, ground := Ground.phase }, { on := 9, ground := Ground.phase }, { on := 10, ground := Ground.phase }, { on := 11, ground := Ground.phase }, { on := 12, ground := Ground.phase }, { on := 13, ground := Ground.phase }, { on := 14, ground := Ground.phase }, { on := 15, ground := Ground.phase }, { on := 16, ground := Ground.phase }], guard := none }) (v := ?_) rfl (by kernel_rfl) (by kernel_rfl) (by kernel_rfl) (fun _ _ _ h => h) (Or.inl ⟨by rfl, ?_⟩) (by assumption) ?_
    rotate_left 1
    · (intro w hSw; (try dsimp only at hSw); go_simp; all_goals (first | with_reducible rfl | (simp; done)))
    try simp only [Act.put, List.setIfInBounds_toArray, List.set_cons_zero, List.set_cons_succ]
    refine wpAnyH_done (by kernel_rfl) ?_ _
    go_wp2
    go_ret
    exact ⟨rfl, keepE HBw.out (keepE HB5.out HBx.out)⟩
  · have hk : takes d2 db = true := by
      cases h : takes d2 db
      · exact absurd (.inl h) hbad
      · rfl
    have hb1 : ¬ d2.beg = 1 := fun h => hbad (.inr (.inl h))
    have hb2 : ¬ d2.beg = 2 := fun h => hbad (.inr (.inr h))
    clear hbad
    have HBg : Hid (∀ W, Calls Try.prog 9 #[srcV d2, .agg #[.int .i64 db, .string ⟨#[]⟩, .string ⟨#[]⟩, .int .i64 0]] W fun e w' => ∃ b tv, e = .returned (.tuple #[.iface tv (.pointer (some ⟨b, 0, none⟩)), .nilIface]) ∧ OpAt w' d2 0 0 b (.iface tv (.pointer (some ⟨b, 0, none⟩))) ∧ W.heap.size ≤ b ∧ Below W.heap.size W w') := Lib.hid (fun W => (begin_ok d2 db _ _ _ W hk hb1 hb2).mono (fun e w' ⟨b, ov, he, ho, hbl, hb⟩ => by
      obtain ⟨tv, rfl⟩ := ho.iface
      exact ⟨b, tv, he, ho, hbl, hb⟩))
    go_upto_region 8 with (first
      | (with_reducible refine wpList_load_row rfl 28 _ rfl w.heap.size rfl 28 (defC d2) (0, 0) _ HA.out Try.underlying28 rfl sz2 ?_)
      | (go_at_call 10; refine (HMk.out _).mono ?_; rintro e wm ⟨rfl, hwm⟩; have HBm : Hid (Below W2.heap.size W2 wm) := Lib.hid (by rw [hwm]; exact al_bel _ _); clear hwm)
      | (go_at_call 9; refine (HBg.out _).mono ?_; rintro e w5 ⟨b, tv, rfl, ho5, hbl, hb5⟩; have HO5 := Lib.hid ho5; have HBL : Hid (W2.heap.size ≤ b) := Lib.hid (Nat.le_trans HBm.out.size hbl); have HB5 : Hid (Below W2.heap.size W2 w5) := Lib.hid (keepE HBm.out hb5); clear ho5 hbl hb5))
    have hA5 := (HB5.out.block _ (lt_of HA.out)).trans HA.out
    have kw : w5.cell? ⟨w.heap.size, 1, none⟩ = some (.bool d2.wild) := cellJ hA5 (defC_at rfl)
    have q0 : w5.cell? ⟨w.heap.size, 2, none⟩ = some (.bool d2.k0) := cellJ hA5 (defC_at rfl)
    have q1 : w5.cell? ⟨w.heap.size, 3, none⟩ = some (.bool d2.k1) := cellJ hA5 (defC_at rfl)
    have q2 : w5.cell? ⟨w.heap.size, 4, none⟩ = some (.bool d2.k2) := cellJ hA5 (defC_at rfl)
    have q3 : w5.cell? ⟨w.heap.size, 5, none⟩ = some (.bool d2.k3) := cellJ hA5 (defC_at rfl)
    have q4 : w5.cell? ⟨w.heap.size, 6, none⟩ = some (.bool d2.k4) := cellJ hA5 (defC_at rfl)
    have kb : w5.cell? ⟨w.heap.size, 7, none⟩ = some (.int .i64 d2.beg) := cellJ hA5 (defC_at rfl)
    have k0 : w5.cell? ⟨w.heap.size, 0, none⟩ = some (.string d2.label) := cellJ hA5 (defC_at rfl)
    have HA5 := Lib.hid hA5
    clear hA5
    go_cut [12] from 41 to 56 (fun v wx => v = .bool (takes d2 db) ∧ wx = w5)
    case first =>
      have hwd : d2.wild = true ∨ d2.wild = false := by cases d2.wild <;> simp
      rcases hwd with hwd | hwd
      · rw [hwd] at kw
        go_wp2
        go_meet
        exact ⟨by simp [takes, hwd], rfl⟩
      · rw [hwd] at kw
        have hdd : db < 0 ∨ 4 < db ∨ db = 0 ∨ db = 1 ∨ db = 2 ∨ db = 3 ∨ db = 4 := by omega
        rcases hdd with h | h | rfl | rfl | rfl | rfl | rfl
        · have h1 : ¬ 0 ≤ db := by omega
          go_wp2
          go_meet
          exact ⟨by rw [takes, hwd, kn_out (by omega)]; rfl, rfl⟩
        · have h1 : 0 ≤ db := by omega
          have h2 : ¬ db < 5 := by omega
          go_wp2
          go_meet
          exact ⟨by rw [takes, hwd, kn_out (by omega)]; rfl, rfl⟩
        all_goals
          go_wp2
          go_meet
          exact ⟨by simp [takes, hwd, kn], rfl⟩
    case rest =>
    obtain ⟨rfl, hw⟩ := hcut
    replace hw := hw.symm
    subst hw
    clear kw q0 q1 q2 q3 q4
    rw [hk]
    go_upto_region 9 with (fail)
    go_cut [68] from 57 to 67 (fun v wx => v = .bool false ∧ wx = w5)
    case first =>
      have hbb : d2.beg ≤ 0 ∨ 3 ≤ d2.beg := by omega
      rcases hbb with hbb | hbb
      · have h1 : ¬ 0 < d2.beg := by omega
        go_wp2
        go_meet
        exact ⟨rfl, rfl⟩
      · have h1 : 0 < d2.beg := by omega
        have h3 : ¬ d2.beg < 3 := by omega
        go_wp2
        go_meet
        exact ⟨rfl, rfl⟩
    case rest =>
    obtain ⟨rfl, hw⟩ := hcut
    replace hw := hw.symm
    subst hw
    have e1 := nilNn
    have e2 := opE
    clear kb k0
    have hd3 : ∃ d3, d3 = noPolls d2 (d2.hears && decide (0 < m)) := ⟨_, rfl⟩
    obtain ⟨d3, hd3⟩ := hd3
    have hd4 : ∃ d4, d4 = noPolls d3 (d3.hears && en) := ⟨_, rfl⟩
    obtain ⟨d4, hd4⟩ := hd4
    have HD3 := Lib.hid hd3
    have HD4 := Lib.hid hd4
    have HMc : Hid (m ≤ 1000000) := Lib.hid (by omega)
    clear hd3 hd4
    have HHe : Hid (Calls Try.prog 13 #[.iface tv (.pointer (some ⟨b, 0, none⟩)), .string ⟨#[120]⟩, .slice bp m bc] w5.drew fun e w' => e = .returned (.bool d2.hears) ∧ (∃ h', 0 ≤ h' ∧ h' ≤ 1 ∧ OpAt w' d3 0 h' b (.iface tv (.pointer (some ⟨b, 0, none⟩)))) ∧ Below W2.heap.size W2 w') := Lib.hid (by
      rw [HD3.out]
      refine (hear_any d2 0 0 b _ _ bp m bc ys w5.drew HO5.out (by omega) (by omega) ((HX3.out.below HB5.out.block).below (fun _ _ => rfl)) HMc.out).mono ?_
      rintro e w' ⟨he, ⟨h', g0, g1, ho⟩, hb⟩
      exact ⟨he, ⟨h', g0, by omega, ho⟩, but_keep HBL.out HB5.out.drew hb⟩)
    have HBt : Hid (∀ w6 h6, OpAt w6 d3 0 h6 b (.iface tv (.pointer (some ⟨b, 0, none⟩))) → 0 ≤ h6 → h6 ≤ 1 → Below W2.heap.size W2 w6 → Calls Try.prog 14 #[.iface tv (.pointer (some ⟨b, 0, none⟩)), .int .i64 1, .slice bp m bc, .bool en] w6 fun e w' => e = .returned (.bool d2.hears) ∧ (∃ h', OpAt w' d4 0 h' b (.iface tv (.pointer (some ⟨b, 0, none⟩)))) ∧ Below W2.heap.size W2 w') := Lib.hid (fun w6 h6 ho g0 g1 hb => by
      rw [HD4.out]
      refine (bytes_any d3 0 h6 b _ 1 bp m bc ys en w6 ho g0 (by omega) (HX3.out.below hb.block) HMc.out).mono ?_
      rintro e w' ⟨he, ⟨h', _, _, ho'⟩, hb'⟩
      exact ⟨by rw [he, HD3.out, noPolls_hears], ⟨h', ho'⟩, but_keep HBL.out hb hb'⟩)
    have HS0 : Hid (∀ W, Below W2.heap.size W2 W → W.cell? ⟨w.heap.size, 17, none⟩ = some (.bool d2.hears)) := Lib.hid (fun W hW => cellJ ((hW.block _ (lt_of HA.out)).trans HA.out) (defC_at rfl))
    go_upto_region 13 with (fail)
    refine wp_region_held_drew (S := fun W => W.cell? ⟨w.heap.size, 17, none⟩ = some (.bool d2.hears)) (by kernel_rfl) (HS0.out _ HB5.out.drew) (fun hHeld => ?_)
    try simp only [Act.put, List.setIfInBounds_toArray, List.set_cons_zero, List.set_cons_succ]
    refine wpAnyH_take (i := 0) (oi := { dst := some 92, op := Op.move (Operand.tmp 10), type := 33, pos := "law.go:174", after := #[], guard := none }) (v := ?_) rfl (by kernel_rfl) (by kernel_rfl) (by kernel_rfl) (fun _ _ _ h => h) (Or.inl ⟨by rfl, ?_⟩) (by assumption) ?_
    rotate_left 1
    · (intro w hSw; (try dsimp only at hSw); go_simp; all_goals (first | with_reducible rfl | (simp; done)))
    try simp only [Act.put, List.setIfInBounds_toArray, List.set_cons_zero, List.set_cons_succ]
    refine wpAnyH_take (i := 1) (oi := { dst := some 93, op := Op.move (Operand.tmp 2), type := 29, pos := "law.go:174", after := #[], guard := none }) (v := ?_) rfl (by kernel_rfl) (by kernel_rfl) (by kernel_rfl) (fun _ _ _ h => h) (Or.inl ⟨by rfl, ?_⟩) (by assumption) ?_
    rotate_left 1
    · (intro w hSw; (try dsimp only at hSw); go_simp; all_goals (first | with_reducible rfl | (simp; done)))
    try simp only [Act.put, List.setIfInBounds_toArray, List.set_cons_zero, List.set_cons_succ]
    refine wpAnyH_take (i := 3) (oi := { dst := some 95, op := Op.fieldAddr 28 (Operand.tmp 4) 10, type := 0, pos := "law.go:174", after := #[], guard := none }) (v := ?_) rfl (by kernel_rfl) (by kernel_rfl) (by kernel_rfl) (fun _ _ _ h => h) (Or.inl ⟨by rfl, ?_⟩) (by assumption) ?_
    rotate_left 1
    · (intro w hSw; (try dsimp only at hSw); go_simp; all_goals (first | with_reducible rfl | (simp; done)))
    try simp only [Act.put, List.setIfInBounds_toArray, List.set_cons_zero, List.set_cons_succ]
    refine wpAnyH_take (i := 4) (oi := { dst := some 96, op := Op.load 4 (Operand.tmp 95), type := 4, pos := "law.go:174", after := #[{ on := 3, ground := Ground.data }], guard := none }) (v := ?_) rfl (by kernel_rfl) (by kernel_rfl) (by kernel_rfl) (fun _ _ _ h => h) (Or.inl ⟨by rfl, ?_⟩) (by assumption) ?_
    rotate_left 1
    · (intro w hSw; (try dsimp only at hSw); go_simp; all_goals (first | with_reducible rfl | (simp; done)))
    try simp only [Act.put, List.setIfInBounds_toArray, List.set_cons_zero, List.set_cons_succ]
    refine wpAnyH_ready (rs := [2]) (by kernel_rfl) (by simp) ?_
    refine AllReadyH.cons (o := { dst := some 94, op := Op.call { callee := Callee.value (Operand.func 13), args := #[Operand.tmp 92, Operand.const (Value.string { data := #[120] }), Operand.tmp 93], argTypes := #[33, 9, 29] }, type := 4, pos := "law.go:174", after := #[{ on := 0, ground := Ground.data }, { on := 1, ground := Ground.data }], guard := none }) rfl (fun K hK => ?_) AllReadyH.nil
    go_simp
    go_at_call 13
    refine HHe.out.mono ?_
    rintro e w6 ⟨rfl, ⟨h6, hh0, hh1, ho6⟩, hb6⟩
    have HO6 := Lib.hid ho6
    have HBx : Hid (Below W2.heap.size W2 w6) := Lib.hid hb6
    clear ho6 hb6
    try go_wp2_with fail
    refine hK.out _ _ ?_ (fun hHeld => ?_)
    · ((try dsimp only); exact HS0.out _ HBx.out)
    clear hK K
    try simp only [Act.put, List.setIfInBounds_toArray, List.set_cons_zero, List.set_cons_succ]
    refine wpAnyH_take (i := 5) (oi := { dst := some 97, op := Op.binOp BinOp.neq 4 (Operand.tmp 94) (Operand.tmp 96) 4, type := 4, pos := "law.go:174", after := #[{ on := 2, ground := Ground.data }, { on := 4, ground := Ground.data }], guard := none }) (v := .bool false) rfl (by kernel_rfl) (by kernel_rfl) (by kernel_rfl) (fun _ _ _ h => h) (Or.inl ⟨by rfl, ?_⟩) (by assumption) ?_
    · (intro w hSw; (try dsimp only at hSw); go_simp; all_goals (first | with_reducible rfl | (simp; done)))
    try simp only [Act.put, List.setIfInBounds_toArray, List.set_cons_zero, List.set_cons_succ]
    refine wpAnyH_take (i := 6) (oi := { dst := some 98, op := Op.move (Operand.tmp 97), type := 4, pos := "law.go:174", after := #[{ on := 5, ground := Ground.data }, { on := 2, ground := Ground.chain }], guard := none }) (v := .bool false) rfl (by kernel_rfl) (by kernel_rfl) (by kernel_rfl) (fun _ _ _ h => h) (Or.inl ⟨by rfl, ?_⟩) (by assumption) ?_
    · (intro w hSw; (try dsimp only at hSw); go_simp; all_goals (first | with_reducible rfl | (simp; done)))
    try simp only [Act.put, List.setIfInBounds_toArray, List.set_cons_zero, List.set_cons_succ]
    refine wpAnyH_take (i := 7) (oi := { dst := some 99, op := Op.move (Operand.tmp 10), type := 33, pos := "law.go:174", after := #[{ on := 6, ground := Ground.guard }], guard := some (6, false) }) (v := ?_) rfl (by kernel_rfl) (by kernel_rfl) (by kernel_rfl) (fun _ _ _ h => h) (Or.inl ⟨by rfl, ?_⟩) (by assumption) ?_
    rotate_left 1
    · (intro w hSw; (try dsimp only at hSw); go_simp; all_goals (first | with_reducible rfl | (simp; done)))
    try simp only [Act.put, List.setIfInBounds_toArray, List.set_cons_zero, List.set_cons_succ]
    refine wpAnyH_take (i := 8) (oi := { dst := some 100, op := Op.move (Operand.tmp 2), type := 29, pos := "law.go:174", after := #[{ on := 6, ground := Ground.guard }], guard := some (6, false) }) (v := ?_) rfl (by kernel_rfl) (by kernel_rfl) (by kernel_rfl) (fun _ _ _ h => h) (Or.inl ⟨by rfl, ?_⟩) (by assumption) ?_
    rotate_left 1
    · (intro w hSw; (try dsimp only at hSw); go_simp; all_goals (first | with_reducible rfl | (simp; done)))
    try simp only [Act.put, List.setIfInBounds_toArray, List.set_cons_zero, List.set_cons_succ]
    refine wpAnyH_take (i := 9) (oi := { dst := some 101, op := Op.move (Operand.tmp 3), type := 4, pos := "law.go:174", after := #[{ on := 6, ground := Ground.guard }], guard := some (6, false) }) (v := ?_) rfl (by kernel_rfl) (by kernel_rfl) (by kernel_rfl) (fun _ _ _ h => h) (Or.inl ⟨by rfl, ?_⟩) (by assumption) ?_
    rotate_left 1
    · (intro w hSw; (try dsimp only at hSw); go_simp; all_goals (first | with_reducible rfl | (simp; done)))
    try simp only [Act.put, List.setIfInBounds_toArray, List.set_cons_zero, List.set_cons_succ]
    refine wpAnyH_take (i := 11) (oi := { dst := some 103, op := Op.fieldAddr 28 (Operand.tmp 4) 10, type := 0, pos := "law.go:174", after := #[{ on := 6, ground := Ground.guard }], guard := some (6, false) }) (v := ?_) rfl (by kernel_rfl) (by kernel_rfl) (by kernel_rfl) (fun _ _ _ h => h) (Or.inl ⟨by rfl, ?_⟩) (by assumption) ?_
    rotate_left 1
    · (intro w hSw; (try dsimp only at hSw); go_simp; all_goals (first | with_reducible rfl | (simp; done)))
    try simp only [Act.put, List.setIfInBounds_toArray, List.set_cons_zero, List.set_cons_succ]
    refine wpAnyH_take (i := 12) (oi := { dst := some 104, op := Op.load 4 (Operand.tmp 103), type := 4, pos := "law.go:174", after := #[{ on := 11, ground := Ground.data }, { on := 6, ground := Ground.guard }], guard := some (6, false) }) (v := ?_) rfl (by kernel_rfl) (by kernel_rfl) (by kernel_rfl) (fun _ _ _ h => h) (Or.inl ⟨by rfl, ?_⟩) (by assumption) ?_
    rotate_left 1
    · (intro w hSw; (try dsimp only at hSw); go_simp; all_goals (first | with_reducible rfl | (simp; done)))
    try simp only [Act.put, List.setIfInBounds_toArray, List.set_cons_zero, List.set_cons_succ]
    refine wpAnyH_ready (rs := [10]) (by kernel_rfl) (by simp) ?_
    refine AllReadyH.cons (o := { dst := some 102, op := Op.call { callee := Callee.value (Operand.func 14), args := #[Operand.tmp 99, Operand.const (Value.int IntKind.i64 1), Operand.tmp 100, Operand.tmp 101], argTypes := #[33, 3, 29, 4] }, type := 4, pos := "law.go:174", after := #[{ on := 7, ground := Ground.data }, { on := 8, ground := Ground.data }, { on := 9, ground := Ground.data }, { on := 6, ground := Ground.chain }, { on := 6, ground := Ground.guard }], guard := some (6, false) }) rfl (fun K hK => ?_) AllReadyH.nil
    go_simp
    go_at_call 14
    refine (HBt.out _ _ HO6.out hh0 hh1 HBx.out).mono ?_
    rintro e w7 ⟨rfl, ⟨h7, ho7⟩, hb7⟩
    have HO7 := Lib.hid ho7
    have HBz : Hid (Below W2.heap.size W2 w7) := Lib.hid hb7
    clear ho7 hb7
    try go_wp2_with fail
    refine hK.out _ _ ?_ (fun hHeld => ?_)
    · ((try dsimp only); exact HS0.out _ HBz.out)
    clear hK K
    try simp only [Act.put, List.setIfInBounds_toArray, List.set_cons_zero, List.set_cons_succ]
    refine wpAnyH_take (i := 13) (oi := { dst := some 105, op := Op.binOp BinOp.neq 4 (Operand.tmp 102) (Operand.tmp 104) 4, type := 4, pos := "law.go:174", after := #[{ on := 10, ground := Ground.data }, { on := 12, ground := Ground.data }, { on := 6, ground := Ground.guard }], guard := some (6, false) }) (v := .bool false) rfl (by kernel_rfl) (by kernel_rfl) (by kernel_rfl) (fun _ _ _ h => h) (Or.inl ⟨by rfl, ?_⟩) (by assumption) ?_
    · (intro w hSw; (try dsimp only at hSw); go_simp; all_goals (first | with_reducible rfl | (simp; done)))
    try simp only [Act.put, List.setIfInBounds_toArray, List.set_cons_zero, List.set_cons_succ]
    refine wpAnyH_take (i := 14) (oi := { dst := some 106, op := Op.pick (Operand.tmp 98) (Operand.const (Value.bool true)) (Operand.tmp 105), type := 4, pos := "law.go:174", after := #[{ on := 6, ground := Ground.data }, { on := 13, ground := Ground.data }], guard := none }) (v := .bool false) rfl (by kernel_rfl) (by kernel_rfl) (by kernel_rfl) (fun _ _ _ h => h) (Or.inl ⟨by rfl, ?_⟩) (by assumption) ?_
    · (intro w hSw; (try dsimp only at hSw); go_simp; all_goals (first | with_reducible rfl | (simp; done)))
    try simp only [Act.put, List.setIfInBounds_toArray, List.set_cons_zero, List.set_cons_succ]
    refine wpAnyH_done (by kernel_rfl) ?_ _
    have hA7 := (HBz.out.block _ (lt_of HA.out)).trans HA.out
    have k8 : w7.cell? ⟨w.heap.size, 8, none⟩ = some (.int .i64 d2.polls) := cellJ hA7 (defC_at rfl)
    have k17 : w7.cell? ⟨w.heap.size, 17, none⟩ = some (.bool d2.hears) := cellJ hA7 (defC_at rfl)
    have HA7 := Lib.hid hA7
    clear hA7
    obtain ⟨q, hq⟩ : ∃ q, (d2.hears && (decide (0 < m) || en)) = q := ⟨_, rfl⟩
    obtain ⟨P, hP⟩ : ∃ P, d4.polls = P := ⟨_, rfl⟩
    have hPq : P = if q = true then 0 else d2.polls := by
      rw [← hP, HD4.out, HD3.out, ← hq]
      exact polls_told d2 _ _
    have hP0 : 0 ≤ P := by rw [hPq]; split <;> have := HC.out.p0 <;> omega
    have hP4 : P ≤ 4 := by rw [hPq]; split <;> have := HC.out.p4 <;> omega
    have HQ := Lib.hid hq
    have HP := Lib.hid hP
    have HPq := Lib.hid hPq
    clear hq hP hPq
    go_upto_region 16 with (fail)
    clear HHe HBt HS0
    generalize d2.hears = hr at *
    go_cut [118] from 109 to 117 (fun v wx => v = .bool q ∧ wx = w7)
    case first =>
      cases hr
      · go_wp2
        go_meet
        exact ⟨by rw [← HQ.out]; rfl, rfl⟩
      · rcases Nat.eq_zero_or_pos m with rfl | hm1
        · go_wp2
          go_meet
          exact ⟨by rw [← HQ.out]; simp, rfl⟩
        · have hm0 : (0 : Int) < (m : Int) := by omega
          go_wp2
          go_meet
          exact ⟨by rw [← HQ.out]; simp; omega, rfl⟩
    case rest =>
    obtain ⟨rfl, hw⟩ := hcut
    replace hw := hw.symm
    subst hw
    go_upto_if 118 with (fail)
    go_cut [13] from 118 to 118 (fun v wx => v = .int .i64 P ∧ wx = w7)
    case first =>
      cases q
      · go_wp2
        go_meet
        exact ⟨by rw [HPq.out]; simp, rfl⟩
      · go_wp2
        go_meet
        exact ⟨by rw [HPq.out]; simp, rfl⟩
    case rest =>
    obtain ⟨rfl, hw⟩ := hcut
    replace hw := hw.symm
    subst hw
    clear k8 k17
    have HPw : Hid (∀ (k : Nat) (wr : World) h', OpAt wr d4 k h' b (.iface tv (.pointer (some ⟨b, 0, none⟩))) → (k : Int) < P → Below W2.heap.size W2 wr → Calls Try.prog 15 #[.string d2.label, .iface tv (.pointer (some ⟨b, 0, none⟩))] wr fun e w' => e = .returned (.tuple #[zAns, .slice none 0 0, .nilIface, .bool false]) ∧ OpAt w' d4 (k + 1 : Nat) h' b (.iface tv (.pointer (some ⟨b, 0, none⟩))) ∧ Below W2.heap.size W2 w') := Lib.hid (fun k wr h' ho hk hb =>
      (spoll_wait d2.label d4 k h' b _ wr ho (by omega) (by omega) (by rw [HP.out]; omega)).mono (fun e w' ⟨he, ho', hb'⟩ => ⟨he, ho', but_keep HBL.out hb hb'⟩))
    have HK0 : Hid (∀ W, Below W2.heap.size W2 W → W.cell? ⟨w.heap.size, 0, none⟩ = some (.string d2.label)) := Lib.hid (fun W hW => cellJ ((hW.block _ (lt_of HA.out)).trans HA.out) (defC_at rfl))
    go_upto_region 19 with (fail)
    go_loopw [14] (fun iv wr => ∃ k : Nat, (k : Int) ≤ P ∧ iv = .int .i64 k ∧ (∃ h', OpAt wr d4 k h' b (.iface tv (.pointer (some ⟨b, 0, none⟩)))) ∧ Below W2.heap.size W2 wr) (fun iv _ => 5 - (intOf iv).toNat)
    case atStart => exact ⟨0, hP0, rfl, ⟨_, HO7.out⟩, HBz.out⟩
    case round =>
      obtain ⟨k, hk4, rfl, ⟨h', ho⟩, hbel⟩ := hrel
      have k0 := HK0.out _ hbel
      by_cases hlt : (k : Int) < P
      · have HPk := Lib.hid (HPw.out k wr h' ho hlt hbel)
        go_upto_region 22 with (go_at_call 15; refine HPk.out.mono ?_; rintro e w8 ⟨rfl, ho8, hb8⟩; have HO8 := Lib.hid ho8; have HB8 := Lib.hid hb8; clear ho8 hb8)
        obtain ⟨W8, hW8⟩ : ∃ W, w8.alloc (.cells #[.slice none 0 0, .slice none 0 0, .int .i64 0, .int .i64 0] 25) = W := ⟨_, rfl⟩
        have hr8 : W8.heap[w8.heap.size]? = some (.cells #[.slice none 0 0, .slice none 0 0, .int .i64 0, .int .i64 0] 25 (0, 0)) := by rw [← hW8]; exact heap_alloc_new w8 _
        have HB9 : Hid (Below W2.heap.size W2 W8) := Lib.hid (by rw [← hW8]; exact keepE HB8.out (al_bel w8 _))
        have HO9 : Hid (OpAt W8 d4 (k + 1 : Nat) h' b (.iface tv (.pointer (some ⟨b, 0, none⟩)))) := Lib.hid (by rw [← hW8]; exact HO8.out.same ((al_bel w8 _).block b HO8.out.lt))
        have HEq : Hid (∀ W, Calls Try.prog 16 #[zAns, zAns] W fun e w' => e = .returned (.bool true) ∧ Below W.heap.size W w') := Lib.hid (fun W => eqans_any _ _ _ _ [] [] 0 0 0 0 0 0 W (World.ownsRow_nil _ _ _ _) (World.ownsRow_nil _ _ _ _) (World.ownsRow_nil _ _ _ _) (World.ownsRow_nil _ _ _ _))
        have r0 := cellJ hr8 (j := 0) rfl
        have r1 := cellJ hr8 (j := 1) rfl
        have r2 := cellJ hr8 (j := 2) rfl
        have r3 := cellJ hr8 (j := 3) rfl
        rw [hW8]
        clear hW8 hr8
        go_wp2_with (go_at_call 16; refine (HEq.out _).mono ?_; rintro e w10 ⟨rfl, hb10⟩; have HB10 := Lib.hid hb10; clear hb10)
        go_roundw
        case rel => exact ⟨k + 1, by omega, by go_num, ⟨h', HO9.out.same (HB10.out.block b HO9.out.lt)⟩, keepE HB9.out HB10.out⟩
        case measure => simp [intOf]; omega
      · obtain rfl : P = (k : Int) := by omega
        have hd42 : d4 = { d2 with polls := (k : Int) } := by rw [← HP.out, HD4.out, HD3.out]; exact noPolls_two d2 _ _
        have HBr := Lib.hid hbel
        have HOr := Lib.hid ho
        have HEnd : Hid (∀ W, Below W2.heap.size W2 W → W.cell? ⟨w.heap.size, 0, none⟩ = some (.string d2.label) ∧ W.cell? ⟨w.heap.size, 9, none⟩ = some (.bool d2.boom)) := Lib.hid (fun W hW => ⟨HK0.out W hW, cellJ ((hW.block _ (lt_of HA.out)).trans HA.out) (defC_at rfl)⟩)
        by_cases hbm : d2.boom = true
        · have HPb : Hid (Calls Try.prog 15 #[.string d2.label, .iface tv (.pointer (some ⟨b, 0, none⟩))] wr fun e w' => ∃ t x, e = .returned (.tuple #[zAns, .slice none 0 0, .iface t x, .bool true]) ∧ ErrS w' [d2.label] 2 (.iface t x) ∧ Below W2.heap.size W2 w') := Lib.hid (
            (spoll_boom d2.label d4 k h' b _ wr ho (by omega) (by omega) (by rw [HP.out]; omega) (by rw [hd42]; exact hbm)).mono (fun e w' ⟨er, he, her, hb⟩ => by
              obtain ⟨t, x, rfl⟩ := her.iface
              exact ⟨t, x, he, her, but_keep HBL.out hbel hb⟩))
          rw [hbm] at HEnd
          have HBm1 := Lib.hid hbm
          clear hd42 hbel ho hbm
          go_upto_region 25 with (go_at_call 15; refine HPb.out.mono ?_; rintro e w9 ⟨t9, x9, rfl, her9, hb9⟩; have HE9 := Lib.hid her9; have HB9 := Lib.hid hb9; clear her9 hb9)
          obtain ⟨W9, hW9⟩ : ∃ W, w9.alloc (.cells #[.slice none 0 0, .slice none 0 0, .int .i64 0, .int .i64 0] 25) = W := ⟨_, rfl⟩
          have HB10 : Hid (Below W2.heap.size W2 W9) := Lib.hid (by rw [← hW9]; exact keepE HB9.out (al_bel w9 _))
          have HE10 : Hid (ErrS W9 [d2.label] 2 (.iface t9 x9)) := Lib.hid (by rw [← hW9]; exact HE9.out.alloc _)
          have k9 := (HEnd.out W9 HB10.out).2
          rw [hW9]
          clear hW9
          have HCo : Hid (∀ W, Below W9.heap.size W9 W → Calls Try.prog 11 #[.iface t9 x9] W fun e w' => e = .returned (.int .i64 2) ∧ Below W9.heap.size W9 w') := Lib.hid (fun W hW => (code0_any W _ _ _ (HE10.out.below hW) (by simp)).mono (fun e w' ⟨he, hb⟩ => ⟨by rw [he, codeV_two], keepE hW hb⟩))
          have HSo : Hid (∀ W, Below W9.heap.size W9 W → Calls Try.prog 12 #[.iface t9 x9] W fun e w' => e = .returned (.string d2.label) ∧ W = w') := Lib.hid (fun W hW => src0_any W _ _ _ _ (HE10.out.below hW))
          have HBx := Lib.hid (Below.refl W9.heap.size W9)
          have HS0 : Hid (∀ W, Below W9.heap.size W9 W → W.cell? ⟨w.heap.size, 0, none⟩ = some (.string d2.label)) := Lib.hid (fun W hW => (HEnd.out W (keepE HB10.out hW)).1)
          go_upto_region 28 with (fail)
          refine wp_region_held_drew (S := fun W => W.cell? ⟨w.heap.size, 0, none⟩ = some (.string d2.label)) (by kernel_rfl) (HS0.out _ HBx.out.drew) (fun hHeld => ?_)
          try simp only [Act.put, List.setIfInBounds_toArray, List.set_cons_zero, List.set_cons_succ]
          refine wpAnyH_take (i := 0) (oi := { dst := some 162, op := Op.move (Operand.tmp 9), type := 4, pos := "law.go:192", after := #[], guard := none }) (v := ?_) rfl (by kernel_rfl) (by kernel_rfl) (by kernel_rfl) (fun _ _ _ h => h) (Or.inl ⟨by rfl, ?_⟩) (by assumption) ?_
          rotate_left 1
          · (intro w hSw; (try dsimp only at hSw); go_simp; all_goals (first | with_reducible rfl | (simp; done)))
          try simp only [Act.put, List.setIfInBounds_toArray, List.set_cons_zero, List.set_cons_succ]
          refine wpAnyH_take (i := 1) (oi := { dst := some 163, op := Op.move (Operand.tmp 162), type := 4, pos := "law.go:192", after := #[{ on := 0, ground := Ground.data }], guard := none }) (v := ?_) rfl (by kernel_rfl) (by kernel_rfl) (by kernel_rfl) (fun _ _ _ h => h) (Or.inl ⟨by rfl, ?_⟩) (by assumption) ?_
          rotate_left 1
          · (intro w hSw; (try dsimp only at hSw); go_simp; all_goals (first | with_reducible rfl | (simp; done)))
          try simp only [Act.put, List.setIfInBounds_toArray, List.set_cons_zero, List.set_cons_succ]
          refine wpAnyH_take (i := 2) (oi := { dst := some 164, op := Op.move (Operand.tmp 21), type := 35, pos := "law.go:192", after := #[{ on := 1, ground := Ground.guard }], guard := some (1, true) }) (v := ?_) rfl (by kernel_rfl) (by kernel_rfl) (by kernel_rfl) (fun _ _ _ h => h) (Or.inl ⟨by rfl, ?_⟩) (by assumption) ?_
          rotate_left 1
          · (intro w hSw; (try dsimp only at hSw); go_simp; all_goals (first | with_reducible rfl | (simp; done)))
          try simp only [Act.put, List.setIfInBounds_toArray, List.set_cons_zero, List.set_cons_succ]
          refine wpAnyH_ready (rs := [3]) (by kernel_rfl) (by simp) ?_
          refine AllReadyH.cons (o := { dst := some 165, op := Op.call { callee := Callee.value (Operand.func 11), args := #[Operand.tmp 164], argTypes := #[35] }, type := 43, pos := "law.go:192", after := #[{ on := 2, ground := Ground.data }, { on := 1, ground := Ground.chain }, { on := 1, ground := Ground.guard }], guard := some (1, true) }) rfl (fun K hK => ?_) AllReadyH.nil
          go_simp
          go_at_call 11
          refine (HCo.out _ HBx.out.drew).mono ?_
          rintro e w10 ⟨rfl, hb⟩
          have HBx := Lib.hid hb
          clear hb
          try go_wp2_with fail
          refine hK.out _ _ ?_ (fun hHeld => ?_)
          · ((try dsimp only); exact HS0.out _ HBx.out)
          clear hK K
          try simp only [Act.put, List.setIfInBounds_toArray, List.set_cons_zero, List.set_cons_succ]
          refine wpAnyH_take (i := 4) (oi := { dst := some 166, op := Op.binOp BinOp.eql 43 (Operand.tmp 165) (Operand.const (Value.int IntKind.i64 2)) 43, type := 4, pos := "law.go:192", after := #[{ on := 3, ground := Ground.data }, { on := 1, ground := Ground.guard }], guard := some (1, true) }) (v := ?_) rfl (by kernel_rfl) (by kernel_rfl) (by kernel_rfl) (fun _ _ _ h => h) (Or.inl ⟨by rfl, ?_⟩) (by assumption) ?_
          rotate_left 1
          · (intro w hSw; (try dsimp only at hSw); go_simp; all_goals (first | with_reducible rfl | (simp; done)))
          try simp only [Act.put, List.setIfInBounds_toArray, List.set_cons_zero, List.set_cons_succ]
          refine wpAnyH_take (i := 5) (oi := { dst := some 167, op := Op.pick (Operand.tmp 163) (Operand.tmp 166) (Operand.const (Value.bool false)), type := 4, pos := "law.go:192", after := #[{ on := 1, ground := Ground.data }, { on := 4, ground := Ground.data }], guard := none }) (v := ?_) rfl (by kernel_rfl) (by kernel_rfl) (by kernel_rfl) (fun _ _ _ h => h) (Or.inl ⟨by rfl, ?_⟩) (by assumption) ?_
          rotate_left 1
          · (intro w hSw; (try dsimp only at hSw); go_simp; all_goals (first | with_reducible rfl | (simp; done)))
          try simp only [Act.put, List.setIfInBounds_toArray, List.set_cons_zero, List.set_cons_succ]
          refine wpAnyH_take (i := 6) (oi := { dst := some 168, op := Op.move (Operand.tmp 167), type := 4, pos := "law.go:192", after := #[{ on := 5, ground := Ground.data }, { on := 3, ground := Ground.chain }], guard := none }) (v := ?_) rfl (by kernel_rfl) (by kernel_rfl) (by kernel_rfl) (fun _ _ _ h => h) (Or.inl ⟨by rfl, ?_⟩) (by assumption) ?_
          rotate_left 1
          · (intro w hSw; (try dsimp only at hSw); go_simp; all_goals (first | with_reducible rfl | (simp; done)))
          try simp only [Act.put, List.setIfInBounds_toArray, List.set_cons_zero, List.set_cons_succ]
          refine wpAnyH_take (i := 7) (oi := { dst := some 169, op := Op.move (Operand.tmp 21), type := 35, pos := "law.go:192", after := #[{ on := 6, ground := Ground.guard }], guard := some (6, true) }) (v := ?_) rfl (by kernel_rfl) (by kernel_rfl) (by kernel_rfl) (fun _ _ _ h => h) (Or.inl ⟨by rfl, ?_⟩) (by assumption) ?_
          rotate_left 1
          · (intro w hSw; (try dsimp only at hSw); go_simp; all_goals (first | with_reducible rfl | (simp; done)))
          try simp only [Act.put, List.setIfInBounds_toArray, List.set_cons_zero, List.set_cons_succ]
          refine wpAnyH_take (i := 9) (oi := { dst := some 171, op := Op.fieldAddr 28 (Operand.tmp 4) 0, type := 0, pos := "law.go:192", after := #[{ on := 6, ground := Ground.guard }], guard := some (6, true) }) (v := ?_) rfl (by kernel_rfl) (by kernel_rfl) (by kernel_rfl) (fun _ _ _ h => h) (Or.inl ⟨by rfl, ?_⟩) (by assumption) ?_
          rotate_left 1
          · (intro w hSw; (try dsimp only at hSw); go_simp; all_goals (first | with_reducible rfl | (simp; done)))
          try simp only [Act.put, List.setIfInBounds_toArray, List.set_cons_zero, List.set_cons_succ]
          refine wpAnyH_take (i := 10) (oi := { dst := some 172, op := Op.load 9 (Operand.tmp 171), type := 9, pos := "law.go:192", after := #[{ on := 9, ground := Ground.data }, { on := 6, ground := Ground.guard }], guard := some (6, true) }) (v := ?_) rfl (by kernel_rfl) (by kernel_rfl) (by kernel_rfl) (fun _ _ _ h => h) (Or.inl ⟨by rfl, ?_⟩) (by assumption) ?_
          rotate_left 1
          · (intro w hSw; (try dsimp only at hSw); go_simp; all_goals (first | with_reducible rfl | (simp; done)))
          try simp only [Act.put, List.setIfInBounds_toArray, List.set_cons_zero, List.set_cons_succ]
          refine wpAnyH_ready (rs := [8]) (by kernel_rfl) (by simp) ?_
          refine AllReadyH.cons (o := { dst := some 170, op := Op.call { callee := Callee.value (Operand.func 12), args := #[Operand.tmp 169], argTypes := #[35] }, type := 9, pos := "law.go:192", after := #[{ on := 7, ground := Ground.data }, { on := 6, ground := Ground.chain }, { on := 6, ground := Ground.guard }], guard := some (6, true) }) rfl (fun K hK => ?_) AllReadyH.nil
          go_simp
          go_at_call 12
          refine (HSo.out _ HBx.out).mono ?_
          rintro e w11 ⟨rfl, rfl⟩
          try go_wp2_with fail
          refine hK.out _ _ ?_ (fun hHeld => ?_)
          · ((try dsimp only); exact HS0.out _ HBx.out)
          clear hK K
          try simp only [Act.put, List.setIfInBounds_toArray, List.set_cons_zero, List.set_cons_succ]
          refine wpAnyH_take (i := 11) (oi := { dst := some 173, op := Op.binOp BinOp.eql 9 (Operand.tmp 170) (Operand.tmp 172) 9, type := 4, pos := "law.go:192", after := #[{ on := 8, ground := Ground.data }, { on := 10, ground := Ground.data }, { on := 6, ground := Ground.guard }], guard := some (6, true) }) (v := ?_) rfl (by kernel_rfl) (by kernel_rfl) (by kernel_rfl) (fun _ _ _ h => h) (Or.inl ⟨by rfl, ?_⟩) (by assumption) ?_
          rotate_left 1
          · (intro w hSw; (try dsimp only at hSw); go_simp; all_goals (first | with_reducible rfl | (simp; done)))
          try simp only [Act.put, List.setIfInBounds_toArray, List.set_cons_zero, List.set_cons_succ]
          refine wpAnyH_take (i := 12) (oi := { dst := some 174, op := Op.pick (Operand.tmp 168) (Operand.tmp 173) (Operand.const (Value.bool false)), type := 4, pos := "law.go:192", after := #[{ on := 6, ground := Ground.data }, { on := 11, ground := Ground.data }], guard := none }) (v := ?_) rfl (by kernel_rfl) (by kernel_rfl) (by kernel_rfl) (fun _ _ _ h => h) (Or.inl ⟨by rfl, ?_⟩) (by assumption) ?_
          rotate_left 1
          · (intro w hSw; (try dsimp only at hSw); go_simp; all_goals (first | with_reducible rfl | (simp; done)))
          try simp only [Act.put, List.setIfInBounds_toArray, List.set_cons_zero, List.set_cons_succ]
          refine wpAnyH_take (i := 13) (oi := { dst := some 175, op := Op.move (Operand.tmp 174), type := 4, pos := "law.go:192", after := #[{ on := 12, ground := Ground.data }, { on := 8, ground := Ground.chain }], guard := none }) (v := ?_) rfl (by kernel_rfl) (by kernel_rfl) (by kernel_rfl) (fun _ _ _ h => h) (Or.inl ⟨by rfl, ?_⟩) (by assumption) ?_
          rotate_left 1
          · (intro w hSw; (try dsimp only at hSw); go_simp; all_goals (first | with_reducible rfl | (simp; done)))
          try simp only [Act.put, List.setIfInBounds_toArray, List.set_cons_zero, List.set_cons_succ]
          refine wpAnyH_take (i := 14) (oi := { dst := some 176, op := Op.move (Operand.tmp 20), type := 26, pos := "law.go:192", after := #[{ on := 13, ground := Ground.guard }], guard := some (13, true) }) (v := ?_) rfl (by kernel_rfl) (by kernel_rfl) (by kernel_rfl) (fun _ _ _ h => h) (Or.inl ⟨by rfl, ?_⟩) (by assumption) ?_
          rotate_left 1
          · (intro w hSw; (try dsimp only at hSw); go_simp; all_goals (first | with_reducible rfl | (simp; done)))
          try simp only [Act.put, List.setIfInBounds_toArray, List.set_cons_zero, List.set_cons_succ]
          refine wpAnyH_take (i := 15) (oi := { dst := some 177, op := Op.call { callee := Callee.builtin Builtin.len, args := #[Operand.tmp 176], argTypes := #[26] }, type := 3, pos := "law.go:192", after := #[{ on := 14, ground := Ground.data }, { on := 13, ground := Ground.guard }], guard := some (13, true) }) (v := ?_) rfl (by kernel_rfl) (by kernel_rfl) (by kernel_rfl) (fun _ _ _ h => h) (Or.inl ⟨by rfl, ?_⟩) (by assumption) ?_
          rotate_left 1
          · (intro w hSw; (try dsimp only at hSw); go_simp; all_goals (first | with_reducible rfl | (simp; done)))
          try simp only [Act.put, List.setIfInBounds_toArray, List.set_cons_zero, List.set_cons_succ]
          refine wpAnyH_take (i := 16) (oi := { dst := some 178, op := Op.binOp BinOp.eql 3 (Operand.tmp 177) (Operand.const (Value.int IntKind.i64 0)) 3, type := 4, pos := "law.go:192", after := #[{ on := 15, ground := Ground.data }, { on := 13, ground := Ground.guard }], guard := some (13, true) }) (v := ?_) rfl (by kernel_rfl) (by kernel_rfl) (by kernel_rfl) (fun _ _ _ h => h) (Or.inl ⟨by rfl, ?_⟩) (by assumption) ?_
          rotate_left 1
          · (intro w hSw; (try dsimp only at hSw); go_simp; all_goals (first | with_reducible rfl | (simp; done)))
          try simp only [Act.put, List.setIfInBounds_toArray, List.set_cons_zero, List.set_cons_succ]
          refine wpAnyH_take (i := 17) (oi := { dst := some 179, op := Op.pick (Operand.tmp 175) (Operand.tmp 178) (Operand.const (Value.bool false)), type := 4, pos := "law.go:192", after := #[{ on := 13, ground := Ground.data }, { on := 16, ground := Ground.data }], guard := none }) (v := ?_) rfl (by kernel_rfl) (by kernel_rfl) (by kernel_rfl) (fun _ _ _ h => h) (Or.inl ⟨by rfl, ?_⟩) (by assumption) ?_
          rotate_left 1
          · (intro w hSw; (try dsimp only at hSw); go_simp; all_goals (first | with_reducible rfl | (simp; done)))
          try simp only [Act.put, List.setIfInBounds_toArray, List.set_cons_zero, List.set_cons_succ]
          refine wpAnyH_take (i := 18) (oi := { dst := some 8, op := Op.assign (Operand.tmp 179), type := 4, pos := "law.go:192", after := #[{ on := 17, ground := Ground.data }, { on := 13, ground := Ground.chain }, { on := 0, ground := Ground.phase }, { on := 1, ground := Ground.phase }, { on := 2, ground := Ground.phase }, { on := 3, ground := Ground.phase }, { on := 4, ground := Ground.phase }, { on := 5, ground := Ground.phase }, { on := 6, ground := Ground.phase }, { on := 7, ground := Ground.phase }, { on := 8, ground := Ground.phase }, { on := 9, ground := Ground.phase }, { on := 10, ground := Ground.phase }, { on := 11, ground := Ground.phase }, { on := 12, ground := Ground.phase }, { on := 13, ground := Ground.phase }, { on := 14, ground := Ground.phase }, { on := 15, ground := Ground.phase }, { on := 16, ground := Ground.phase }, { on := 17, ground := Ground.phase }], guard := none }) (v := ?_) rfl (by kernel_rfl) (by kernel_rfl) (by kernel_rfl) (fun _ _ _ h => h) (Or.inl ⟨by rfl, ?_⟩) (by assumption) ?_
          rotate_left 1
          · (intro w hSw; (try dsimp only at hSw); go_simp; all_goals (first | with_reducible rfl | (simp; done)))
          try simp only [Act.put, List.setIfInBounds_toArray, List.set_cons_zero, List.set_cons_succ]
          refine wpAnyH_done (by kernel_rfl) ?_ _
          go_wp2
          go_ret
          exact ⟨rfl, keepE HBw.out (keepE HB10.out HBx.out)⟩
        · have hbf : d2.boom = false := by cases h : d2.boom <;> simp_all
          have HPd : Hid (Calls Try.prog 15 #[.string d2.label, .iface tv (.pointer (some ⟨b, 0, none⟩))] wr fun e w' => ∃ p1 n1 c1 p2 n2 c2 po li p' c' er, e = .returned (.tuple #[.agg #[.slice p1 n1 c1, .slice p2 n2 c2, .int .i64 po, .int .i64 li], .slice p' d2.dn c', er, .bool true]) ∧ DoneR w' d2 ns2 as2 ds2 (.slice p1 n1 c1) (.slice p2 n2 c2) po li p' c' er ∧ Below W2.heap.size W2 w') := Lib.hid (done_poll d2 d4 k h' b _ ns2 as2 ds2 W2 wr hd42 ho (HC.out.defT hbel HBL.out) hP4 hbf HBL.out hbel)
          rw [hbf] at HEnd
          clear hd42 hbel ho hbm hbf
          go_upto_region 25 with (go_at_call 15; refine HPd.out.mono ?_; rintro e w9 ⟨p1, n1, c1, p2, n2, c2, po, li, pd, cd, er, rfl, hdr, hb9⟩; have HDR := Lib.hid hdr; have HB9 := Lib.hid hb9; have hsh := hdr.er.shape; clear hdr hb9)
          obtain ⟨W9, hW9⟩ : ∃ W, w9.alloc (.cells #[.slice p1 n1 c1, .slice p2 n2 c2, .int .i64 po, .int .i64 li] 25) = W := ⟨_, rfl⟩
          have HB10 : Hid (Below W2.heap.size W2 W9) := Lib.hid (by rw [← hW9]; exact keepE HB9.out (al_bel w9 _))
          have HD10 : Hid (DoneR W9 d2 ns2 as2 ds2 (.slice p1 n1 c1) (.slice p2 n2 c2) po li pd cd er) := Lib.hid (by rw [← hW9]; exact HDR.out.below (al_bel w9 _))
          have HR10 : Hid (W9.heap[w9.heap.size]? = some (.cells #[.slice p1 n1 c1, .slice p2 n2 c2, .int .i64 po, .int .i64 li] 25 (0, 0))) := Lib.hid (by rw [← hW9]; exact heap_alloc_new w9 _)
          have k9 := (HEnd.out W9 HB10.out).2
          rw [hW9]
          clear hW9
          have HCo : Hid (∀ W, Below W9.heap.size W9 W → Calls Try.prog 11 #[er] W fun e w' => e = .returned (.int .i64 (toldV d2)) ∧ Below W9.heap.size W9 w') := Lib.hid (fun W hW => ((HD10.out.below hW).code).mono (fun e w' ⟨he, hb⟩ => ⟨he, keepE hW hb⟩))
          have HTo : Hid (∀ W, Below W9.heap.size W9 W → Calls Try.prog 18 #[.agg (defC d2)] W fun e w' => e = .returned (.int .i64 (toldV d2)) ∧ Below W9.heap.size W9 w') := Lib.hid (fun W hW => (told_any d2 W).mono (fun e w' ⟨he, hb⟩ => ⟨he, keepE hW hb⟩))
          have HEd : Hid (∀ W, Below W9.heap.size W9 W → Calls Try.prog 17 #[.slice pd d2.dn cd, .slice d2.dp d2.dn d2.dc] W fun e w' => e = .returned (.bool true) ∧ Below W9.heap.size W9 w') := Lib.hid (fun W hW => (eqdeps_any _ _ _ _ _ ds2 W (HD10.out.below hW).dp (HC.out.td.below (keepE HB10.out hW))).mono (fun e w' ⟨he, q, hq⟩ => ⟨he, by rw [hq]; exact ⟨hW.os, hW.tape, hW.output, hW.size, hW.block⟩⟩))
          have HBx := Lib.hid (Below.refl W9.heap.size W9)
          have HSd : Hid ((Try.prog.info? 28).map (·.size) = some (defC d2).toList.length) := Lib.hid (by kernel_rfl)
          have HS0 : Hid (∀ W, Below W9.heap.size W9 W → W.rangeAt w.heap.size 0 (defC d2).toList ∧ W.cell? ⟨w.heap.size, 16, none⟩ = some (.slice d2.dp d2.dn d2.dc)) := Lib.hid (fun W hW => by
            have hg := ((keepE HB10.out hW).block _ (lt_of HA.out)).trans HA.out
            refine ⟨?_, cellJ hg (defC_at rfl)⟩
            exact fun j v hj => by simp only [Nat.zero_add]; exact cellJ hg (defC_at hj))
          go_upto_region 29 with (fail)
          refine wp_region_held_drew (S := fun W => W.rangeAt w.heap.size 0 (defC d2).toList ∧ W.cell? ⟨w.heap.size, 16, none⟩ = some (.slice d2.dp d2.dn d2.dc)) (by kernel_rfl) (HS0.out _ HBx.out.drew) (fun hHeld => ?_)
          try simp only [Act.put, List.setIfInBounds_toArray, List.set_cons_zero, List.set_cons_succ]
          refine wpAnyH_take (i := 0) (oi := { dst := some 180, op := Op.move (Operand.tmp 20), type := 26, pos := "law.go:194", after := #[], guard := none }) (v := ?_) rfl (by kernel_rfl) (by kernel_rfl) (by kernel_rfl) (fun _ _ _ h => h) (Or.inl ⟨by rfl, ?_⟩) (by assumption) ?_
          rotate_left 1
          · (intro w hSw; (try dsimp only at hSw); go_simp; all_goals (first | with_reducible rfl | (simp; done)))
          try simp only [Act.put, List.setIfInBounds_toArray, List.set_cons_zero, List.set_cons_succ]
          refine wpAnyH_take (i := 1) (oi := { dst := some 181, op := Op.fieldAddr 28 (Operand.tmp 4) 9, type := 0, pos := "law.go:194", after := #[], guard := none }) (v := ?_) rfl (by kernel_rfl) (by kernel_rfl) (by kernel_rfl) (fun _ _ _ h => h) (Or.inl ⟨by rfl, ?_⟩) (by assumption) ?_
          rotate_left 1
          · (intro w hSw; (try dsimp only at hSw); go_simp; all_goals (first | with_reducible rfl | (simp; done)))
          try simp only [Act.put, List.setIfInBounds_toArray, List.set_cons_zero, List.set_cons_succ]
          refine wpAnyH_take (i := 2) (oi := { dst := some 182, op := Op.load 26 (Operand.tmp 181), type := 26, pos := "law.go:194", after := #[{ on := 1, ground := Ground.data }], guard := none }) (v := ?_) rfl (by kernel_rfl) (by kernel_rfl) (by kernel_rfl) (fun _ _ _ h => h) (Or.inl ⟨by rfl, ?_⟩) (by assumption) ?_
          rotate_left 1
          · (intro w hSw; (try dsimp only at hSw); go_simp; all_goals (first | with_reducible rfl | (simp; done)))
          try simp only [Act.put, List.setIfInBounds_toArray, List.set_cons_zero, List.set_cons_succ]
          refine wpAnyH_ready (rs := [3]) (by kernel_rfl) (by simp) ?_
          refine AllReadyH.cons (o := { dst := some 183, op := Op.call { callee := Callee.value (Operand.func 17), args := #[Operand.tmp 180, Operand.tmp 182], argTypes := #[26, 26] }, type := 4, pos := "law.go:194", after := #[{ on := 0, ground := Ground.data }, { on := 2, ground := Ground.data }], guard := none }) rfl (fun K hK => ?_) AllReadyH.nil
          go_simp
          go_at_call 17
          refine (HEd.out _ HBx.out.drew).mono ?_
          rintro e w10 ⟨rfl, hb⟩
          have HBx := Lib.hid hb
          clear hb
          try go_wp2_with fail
          refine hK.out _ _ ?_ (fun hHeld => ?_)
          · ((try dsimp only); exact HS0.out _ HBx.out)
          clear hK K
          try simp only [Act.put, List.setIfInBounds_toArray, List.set_cons_zero, List.set_cons_succ]
          refine wpAnyH_take (i := 4) (oi := { dst := some 184, op := Op.unOp UnOp.not 4 (Operand.tmp 183), type := 4, pos := "law.go:194", after := #[{ on := 3, ground := Ground.data }], guard := none }) (v := ?_) rfl (by kernel_rfl) (by kernel_rfl) (by kernel_rfl) (fun _ _ _ h => h) (Or.inl ⟨by rfl, ?_⟩) (by assumption) ?_
          rotate_left 1
          · (intro w hSw; (try dsimp only at hSw); go_simp; all_goals (first | with_reducible rfl | (simp; done)))
          try simp only [Act.put, List.setIfInBounds_toArray, List.set_cons_zero, List.set_cons_succ]
          refine wpAnyH_take (i := 5) (oi := { dst := some 185, op := Op.move (Operand.tmp 184), type := 4, pos := "law.go:194", after := #[{ on := 4, ground := Ground.data }, { on := 3, ground := Ground.chain }], guard := none }) (v := ?_) rfl (by kernel_rfl) (by kernel_rfl) (by kernel_rfl) (fun _ _ _ h => h) (Or.inl ⟨by rfl, ?_⟩) (by assumption) ?_
          rotate_left 1
          · (intro w hSw; (try dsimp only at hSw); go_simp; all_goals (first | with_reducible rfl | (simp; done)))
          try simp only [Act.put, List.setIfInBounds_toArray, List.set_cons_zero, List.set_cons_succ]
          refine wpAnyH_take (i := 6) (oi := { dst := some 186, op := Op.move (Operand.tmp 21), type := 35, pos := "law.go:194", after := #[{ on := 5, ground := Ground.guard }], guard := some (5, false) }) (v := ?_) rfl (by kernel_rfl) (by kernel_rfl) (by kernel_rfl) (fun _ _ _ h => h) (Or.inl ⟨by rfl, ?_⟩) (by assumption) ?_
          rotate_left 1
          · (intro w hSw; (try dsimp only at hSw); go_simp; all_goals (first | with_reducible rfl | (simp; done)))
          try simp only [Act.put, List.setIfInBounds_toArray, List.set_cons_zero, List.set_cons_succ]
          refine wpAnyH_take (i := 8) (oi := { dst := some 188, op := Op.load 28 (Operand.tmp 4), type := 28, pos := "law.go:194", after := #[{ on := 5, ground := Ground.guard }], guard := some (5, false) }) (v := .agg (defC d2).toList.toArray) rfl (by kernel_rfl) (by kernel_rfl) (by kernel_rfl) (fun _ _ _ h => h) (yieldsIf_load_mid rfl 28 (.tmp 4) rfl w.heap.size 0 rfl (defC d2).toList _ (fun _ h => h.1) Try.underlying28 rfl HSd.out) (by assumption) ?_
          try simp only [Act.put, List.setIfInBounds_toArray, List.set_cons_zero, List.set_cons_succ]
          simp only [Array.toArray_toList]
          refine wpAnyH_ready (rs := [7]) (by kernel_rfl) (by simp) ?_
          refine AllReadyH.cons (o := { dst := some 187, op := Op.call { callee := Callee.value (Operand.func 11), args := #[Operand.tmp 186], argTypes := #[35] }, type := 43, pos := "law.go:194", after := #[{ on := 6, ground := Ground.data }, { on := 5, ground := Ground.chain }, { on := 5, ground := Ground.guard }], guard := some (5, false) }) rfl (fun K hK => ?_) AllReadyH.nil
          go_simp
          go_at_call 11
          refine (HCo.out _ HBx.out).mono ?_
          rintro e w11 ⟨rfl, hb⟩
          have HBx := Lib.hid hb
          clear hb
          try go_wp2_with fail
          refine hK.out _ _ ?_ (fun hHeld => ?_)
          · ((try dsimp only); exact HS0.out _ HBx.out)
          clear hK K
          try simp only [Act.put, List.setIfInBounds_toArray, List.set_cons_zero, List.set_cons_succ]
          refine wpAnyH_ready (rs := [9]) (by kernel_rfl) (by simp) ?_
          refine AllReadyH.cons (o := { dst := some 189, op := Op.call { callee := Callee.value (Operand.func 18), args := #[Operand.tmp 188], argTypes := #[28] }, type := 43, pos := "law.go:194", after := #[{ on := 8, ground := Ground.data }, { on := 7, ground := Ground.chain }, { on := 5, ground := Ground.guard }], guard := some (5, false) }) rfl (fun K hK => ?_) AllReadyH.nil
          go_simp
          go_at_call 18
          refine (HTo.out _ HBx.out).mono ?_
          rintro e w12 ⟨rfl, hb⟩
          have HBx := Lib.hid hb
          clear hb
          try go_wp2_with fail
          refine hK.out _ _ ?_ (fun hHeld => ?_)
          · ((try dsimp only); exact HS0.out _ HBx.out)
          clear hK K
          try simp only [Act.put, List.setIfInBounds_toArray, List.set_cons_zero, List.set_cons_succ]
          refine wpAnyH_take (i := 10) (oi := { dst := some 190, op := Op.binOp BinOp.neq 43 (Operand.tmp 187) (Operand.tmp 189) 43, type := 4, pos := "law.go:194", after := #[{ on := 7, ground := Ground.data }, { on := 9, ground := Ground.data }, { on := 5, ground := Ground.guard }], guard := some (5, false) }) (v := .bool false) rfl (by kernel_rfl) (by kernel_rfl) (by kernel_rfl) (fun _ _ _ h => h) (Or.inl ⟨by rfl, ?_⟩) (by assumption) ?_
          · (intro w hSw; (try dsimp only at hSw); go_simp; all_goals (first | with_reducible rfl | (simp; done)))
          try simp only [Act.put, List.setIfInBounds_toArray, List.set_cons_zero, List.set_cons_succ]
          refine wpAnyH_take (i := 11) (oi := { dst := some 191, op := Op.pick (Operand.tmp 185) (Operand.const (Value.bool true)) (Operand.tmp 190), type := 4, pos := "law.go:194", after := #[{ on := 5, ground := Ground.data }, { on := 10, ground := Ground.data }], guard := none }) (v := .bool false) rfl (by kernel_rfl) (by kernel_rfl) (by kernel_rfl) (fun _ _ _ h => h) (Or.inl ⟨by rfl, ?_⟩) (by assumption) ?_
          · (intro w hSw; (try dsimp only at hSw); go_simp; all_goals (first | with_reducible rfl | (simp; done)))
          try simp only [Act.put, List.setIfInBounds_toArray, List.set_cons_zero, List.set_cons_succ]
          refine wpAnyH_done (by kernel_rfl) ?_ _
          have HB12 : Hid (Below W2.heap.size W2 w12) := Lib.hid (keepE HB10.out HBx.out)
          have HD12 : Hid (DoneR w12 d2 ns2 as2 ds2 (.slice p1 n1 c1) (.slice p2 n2 c2) po li pd cd er) := Lib.hid (HD10.out.below HBx.out)
          have hA12 := (HB12.out.block _ (lt_of HA.out)).trans HA.out
          have k10 : w12.cell? ⟨w.heap.size, 10, none⟩ = some (.int .i64 d2.code) := cellJ hA12 (defC_at rfl)
          have HA12 := Lib.hid hA12
          clear hA12 k9
          by_cases hc : d2.code = 0
          · rw [hc] at k10
            have her : er = .nilIface := by
              have he := HD12.out.er
              rw [if_pos hc] at he
              exact he
            subst her
            obtain ⟨hpo, hli⟩ := HD12.out.pl hc
            subst hpo
            subst hli
            have HEq : Hid (∀ W, Below w12.heap.size w12 W → Calls Try.prog 16 #[.agg #[.slice p1 n1 c1, .slice p2 n2 c2, .int .i64 d2.port, .int .i64 d2.life], .agg #[.slice d2.np d2.nn d2.nc, .slice d2.ap d2.an d2.ac, .int .i64 d2.port, .int .i64 d2.life]] W fun e w' => e = .returned (.bool true) ∧ Below w12.heap.size w12 w') := Lib.hid (fun W hW => by
              obtain ⟨B1, h1⟩ := (HD12.out.below hW).s1
              obtain ⟨B2, h2⟩ := (HD12.out.below hW).s2
              obtain ⟨B3, h3⟩ := (HC.out.below (keepE HB12.out hW)).tn
              obtain ⟨B4, h4⟩ := (HC.out.below (keepE HB12.out hW)).ta
              unfold endN at h1 h2
              rw [if_pos hc] at h1 h2
              exact (eqans_any _ _ _ _ ns2 as2 B1 B3 B2 B4 _ _ W h1 h3 h2 h4).mono (fun e w' ⟨he, hb⟩ => ⟨he, keepE hW hb⟩))
            have hr12 := (HBx.out.block _ (lt_of HR10.out)).trans HR10.out
            have r0 := cellJ hr12 (j := 0) rfl
            have r1 := cellJ hr12 (j := 1) rfl
            have r2 := cellJ hr12 (j := 2) rfl
            have r3 := cellJ hr12 (j := 3) rfl
            have q0 : w12.cell? ⟨w.heap.size, 12, none⟩ = some (.slice d2.np d2.nn d2.nc) := cellJ HA12.out (defC_at rfl)
            have q1 : w12.cell? ⟨w.heap.size, 13, none⟩ = some (.slice d2.ap d2.an d2.ac) := cellJ HA12.out (defC_at rfl)
            have q2 : w12.cell? ⟨w.heap.size, 14, none⟩ = some (.int .i64 d2.port) := cellJ HA12.out (defC_at rfl)
            have q3 : w12.cell? ⟨w.heap.size, 15, none⟩ = some (.int .i64 d2.life) := cellJ HA12.out (defC_at rfl)
            have e5 := nilN
            have HBy := Lib.hid (Below.refl w12.heap.size w12)
            clear hr12 hc
            go_wp2_with (go_at_call 16; refine (HEq.out _ (by first | exact HBy.out | exact HBy.out.drew)).mono ?_; rintro e w13 ⟨rfl, hb⟩; have HBy := Lib.hid hb; clear hb)
            go_ret
            exact ⟨rfl, keepE HBw.out (keepE HB12.out HBy.out)⟩
          · have hcb : (d2.code != 0) = true := by simpa using hc
            have HSo : Hid (∀ W, Below w12.heap.size w12 W → Calls Try.prog 12 #[er] W fun e w' => e = .returned (.string d2.label) ∧ W = w') := Lib.hid (fun W hW => by
              have he := (HD12.out.below hW).er
              rw [if_neg hc] at he
              exact src0_any W _ _ _ _ he)
            have HBy := Lib.hid (Below.refl w12.heap.size w12)
            have HS0 : Hid (∀ W, Below w12.heap.size w12 W → W.cell? ⟨w.heap.size, 0, none⟩ = some (.string d2.label)) := Lib.hid (fun W hW => cellJ ((hW.block _ (lt_of HA12.out)).trans HA12.out) (defC_at rfl))
            go_upto_region 32 with (fail)
            refine wp_region_held_drew (S := fun W => W.cell? ⟨w.heap.size, 0, none⟩ = some (.string d2.label)) (by kernel_rfl) (HS0.out _ HBy.out.drew) (fun hHeld => ?_)
            try simp only [Act.put, List.setIfInBounds_toArray, List.set_cons_zero, List.set_cons_succ]
            refine wpAnyH_take (i := 0) (oi := { dst := some 195, op := Op.move (Operand.tmp 9), type := 4, pos := "law.go:198", after := #[], guard := none }) (v := ?_) rfl (by kernel_rfl) (by kernel_rfl) (by kernel_rfl) (fun _ _ _ h => h) (Or.inl ⟨by rfl, ?_⟩) (by assumption) ?_
            rotate_left 1
            · (intro w hSw; (try dsimp only at hSw); go_simp; all_goals (first | with_reducible rfl | (simp; done)))
            try simp only [Act.put, List.setIfInBounds_toArray, List.set_cons_zero, List.set_cons_succ]
            refine wpAnyH_take (i := 1) (oi := { dst := some 196, op := Op.move (Operand.tmp 195), type := 4, pos := "law.go:198", after := #[{ on := 0, ground := Ground.data }], guard := none }) (v := ?_) rfl (by kernel_rfl) (by kernel_rfl) (by kernel_rfl) (fun _ _ _ h => h) (Or.inl ⟨by rfl, ?_⟩) (by assumption) ?_
            rotate_left 1
            · (intro w hSw; (try dsimp only at hSw); go_simp; all_goals (first | with_reducible rfl | (simp; done)))
            try simp only [Act.put, List.setIfInBounds_toArray, List.set_cons_zero, List.set_cons_succ]
            refine wpAnyH_take (i := 2) (oi := { dst := some 197, op := Op.move (Operand.tmp 21), type := 35, pos := "law.go:198", after := #[{ on := 1, ground := Ground.guard }], guard := some (1, true) }) (v := ?_) rfl (by kernel_rfl) (by kernel_rfl) (by kernel_rfl) (fun _ _ _ h => h) (Or.inl ⟨by rfl, ?_⟩) (by assumption) ?_
            rotate_left 1
            · (intro w hSw; (try dsimp only at hSw); go_simp; all_goals (first | with_reducible rfl | (simp; done)))
            try simp only [Act.put, List.setIfInBounds_toArray, List.set_cons_zero, List.set_cons_succ]
            refine wpAnyH_take (i := 4) (oi := { dst := some 199, op := Op.fieldAddr 28 (Operand.tmp 4) 0, type := 0, pos := "law.go:198", after := #[{ on := 1, ground := Ground.guard }], guard := some (1, true) }) (v := ?_) rfl (by kernel_rfl) (by kernel_rfl) (by kernel_rfl) (fun _ _ _ h => h) (Or.inl ⟨by rfl, ?_⟩) (by assumption) ?_
            rotate_left 1
            · (intro w hSw; (try dsimp only at hSw); go_simp; all_goals (first | with_reducible rfl | (simp; done)))
            try simp only [Act.put, List.setIfInBounds_toArray, List.set_cons_zero, List.set_cons_succ]
            refine wpAnyH_take (i := 5) (oi := { dst := some 200, op := Op.load 9 (Operand.tmp 199), type := 9, pos := "law.go:198", after := #[{ on := 4, ground := Ground.data }, { on := 1, ground := Ground.guard }], guard := some (1, true) }) (v := ?_) rfl (by kernel_rfl) (by kernel_rfl) (by kernel_rfl) (fun _ _ _ h => h) (Or.inl ⟨by rfl, ?_⟩) (by assumption) ?_
            rotate_left 1
            · (intro w hSw; (try dsimp only at hSw); go_simp; all_goals (first | with_reducible rfl | (simp; done)))
            try simp only [Act.put, List.setIfInBounds_toArray, List.set_cons_zero, List.set_cons_succ]
            refine wpAnyH_ready (rs := [3]) (by kernel_rfl) (by simp) ?_
            refine AllReadyH.cons (o := { dst := some 198, op := Op.call { callee := Callee.value (Operand.func 12), args := #[Operand.tmp 197], argTypes := #[35] }, type := 9, pos := "law.go:198", after := #[{ on := 2, ground := Ground.data }, { on := 1, ground := Ground.chain }, { on := 1, ground := Ground.guard }], guard := some (1, true) }) rfl (fun K hK => ?_) AllReadyH.nil
            go_simp
            go_at_call 12
            refine (HSo.out _ HBy.out.drew).mono ?_
            rintro e w13 ⟨rfl, rfl⟩
            try go_wp2_with fail
            refine hK.out _ _ ?_ (fun hHeld => ?_)
            · ((try dsimp only); exact HS0.out _ HBy.out.drew)
            clear hK K
            try simp only [Act.put, List.setIfInBounds_toArray, List.set_cons_zero, List.set_cons_succ]
            refine wpAnyH_take (i := 6) (oi := { dst := some 201, op := Op.binOp BinOp.eql 9 (Operand.tmp 198) (Operand.tmp 200) 9, type := 4, pos := "law.go:198", after := #[{ on := 3, ground := Ground.data }, { on := 5, ground := Ground.data }, { on := 1, ground := Ground.guard }], guard := some (1, true) }) (v := ?_) rfl (by kernel_rfl) (by kernel_rfl) (by kernel_rfl) (fun _ _ _ h => h) (Or.inl ⟨by rfl, ?_⟩) (by assumption) ?_
            rotate_left 1
            · (intro w hSw; (try dsimp only at hSw); go_simp; all_goals (first | with_reducible rfl | (simp; done)))
            try simp only [Act.put, List.setIfInBounds_toArray, List.set_cons_zero, List.set_cons_succ]
            refine wpAnyH_take (i := 7) (oi := { dst := some 202, op := Op.pick (Operand.tmp 196) (Operand.tmp 201) (Operand.const (Value.bool false)), type := 4, pos := "law.go:198", after := #[{ on := 1, ground := Ground.data }, { on := 6, ground := Ground.data }], guard := none }) (v := ?_) rfl (by kernel_rfl) (by kernel_rfl) (by kernel_rfl) (fun _ _ _ h => h) (Or.inl ⟨by rfl, ?_⟩) (by assumption) ?_
            rotate_left 1
            · (intro w hSw; (try dsimp only at hSw); go_simp; all_goals (first | with_reducible rfl | (simp; done)))
            try simp only [Act.put, List.setIfInBounds_toArray, List.set_cons_zero, List.set_cons_succ]
            refine wpAnyH_take (i := 8) (oi := { dst := some 8, op := Op.assign (Operand.tmp 202), type := 4, pos := "law.go:198", after := #[{ on := 7, ground := Ground.data }, { on := 3, ground := Ground.chain }, { on := 0, ground := Ground.phase }, { on := 1, ground := Ground.phase }, { on := 2, ground := Ground.phase }, { on := 3, ground := Ground.phase }, { on := 4, ground := Ground.phase }, { on := 5, ground := Ground.phase }, { on := 6, ground := Ground.phase }, { on := 7, ground := Ground.phase }], guard := none }) (v := ?_) rfl (by kernel_rfl) (by kernel_rfl) (by kernel_rfl) (fun _ _ _ h => h) (Or.inl ⟨by rfl, ?_⟩) (by assumption) ?_
            rotate_left 1
            · (intro w hSw; (try dsimp only at hSw); go_simp; all_goals (first | with_reducible rfl | (simp; done)))
            try simp only [Act.put, List.setIfInBounds_toArray, List.set_cons_zero, List.set_cons_succ]
            refine wpAnyH_done (by kernel_rfl) ?_ _
            go_wp2
            go_ret
            exact ⟨rfl, keepE HBw.out HB12.out.drew⟩
end Go.Proofs.Ytpdkjifalgeodaa
