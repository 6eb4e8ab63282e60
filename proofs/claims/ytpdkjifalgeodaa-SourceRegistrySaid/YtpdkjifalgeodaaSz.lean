/- SourceAble: the walk, where the database is one. -/
import Derived.Test.YtpdkjifalgeodaaSy
namespace Go.Proofs.Ytpdkjifalgeodaa
open Go.RowKit Go.Extern.Stop Go.Stop Go.Extern Go.Lib Go.Tx
theorem defC_one (d : DefL) : (defC d).all (·.oneCell') = true := by simp [defC, Value.oneCell']
theorem opNe (t : TypeId) (x : Value) (w : World) : (binOp .neq 33 (.iface t x) .nilIface).run Try.prog w = .ok (.bool true) w := run_neq_iface_nil w _ (by kernel_rfl) _ _
theorem opNn (w : World) : (binOp .neq 33 .nilIface .nilIface).run Try.prog w = .ok (.bool false) w := by kernel_rfl
/-- The bit of the database, as the walk spells it. -/
def hitA (a0 a1 : Int) : Bool := if a1 = 0 then a0 % 2 == 1 else if a1 = 1 then a0 / 2 % 2 == 1 else if a1 = 2 then a0 / 4 % 2 == 1 else if a1 = 3 then a0 / 8 % 2 == 1 else a0 / 16 % 2 == 1
theorem shr_at (a0 a1 : Int) (h0 : 0 ≤ a0) (h1 : 0 ≤ a1) (h2 : a1 ≤ 4) (w : World) : (binOp .shr 3 (.int .i64 a0) (.int .i64 a1)).run Try.prog w = .ok (.int .i64 (a0 / 2 ^ a1.toNat)) w := by
  go_simp
theorem hitA_eq {a0 a1 : Int} (h1 : 0 ≤ a1) (h2 : a1 ≤ 4) : hitA a0 a1 = (a0 / 2 ^ a1.toNat % 2 == 1) := by
  have hd : a1 = 0 ∨ a1 = 1 ∨ a1 = 2 ∨ a1 = 3 ∨ a1 = 4 := by omega
  rcases hd with rfl | rfl | rfl | rfl | rfl <;> simp [hitA]
theorem hitX {a0 a1 : Int} {b0 b1 b2 b3 b4 K : Bool} (hK : takes (dX false b0 b1 b2 b3 b4 0) a1 = K) (hb : b0 = (a0 % 2 == 1) ∧ b1 = (a0 / 2 % 2 == 1) ∧ b2 = (a0 / 4 % 2 == 1) ∧ b3 = (a0 / 8 % 2 == 1) ∧ b4 = (a0 / 16 % 2 == 1)) (_ : 0 ≤ a0) (h1 : 0 ≤ a1) (h2 : a1 ≤ 4) : hitA a0 a1 = K := by
  obtain ⟨rfl, rfl, rfl, rfl, rfl⟩ := hb
  rw [← hK]
  have hd : a1 = 0 ∨ a1 = 1 ∨ a1 = 2 ∨ a1 = 3 ∨ a1 = 4 := by omega
  rcases hd with rfl | rfl | rfl | rfl | rfl <;> simp [hitA, takes, kn, dX]
set_option maxHeartbeats 4000000 in
set_option maxRecDepth 100000 in
theorem sourceAble_near (a0 a1 : Int) (w : World) (h0 : 0 ≤ a0) (hm : a0 ≤ 9223372036854775807) (h1 : 0 ≤ a1) (h2 : a1 ≤ 4) : Calls Try.prog 6 #[.int .i64 a0, .int .i64 a1] w fun e w' => e = .returned (.bool true) ∧ Below w.heap.size w w' := by
  have HSx := Lib.hid begun12_any
  have bX := builtX
  have n1 : ¬ a1 < 0 := by omega
  have n2 : ¬ 4 < a1 := by omega
  have n3 : ¬ a0 < 0 := by omega
  go_enter Try.func6, Try.ntmps6
  have HZr : Hid (∀ w4 : World, (w4.alloc (.cells #[.string ⟨#[]⟩, .bool false, .bool false, .bool false, .bool false, .bool false, .bool false, .int .i64 0, .int .i64 0, .bool false, .int .i64 0, .bool false, .slice none 0 0, .slice none 0 0, .int .i64 0, .int .i64 0, .slice none 0 0, .bool false] 28)).heap[w4.heap.size]? = some (.cells #[.string ⟨#[]⟩, .bool false, .bool false, .bool false, .bool false, .bool false, .bool false, .int .i64 0, .int .i64 0, .bool false, .int .i64 0, .bool false, .slice none 0 0, .slice none 0 0, .int .i64 0, .int .i64 0, .slice none 0 0, .bool false] 28 (0, 0))) := Lib.hid (fun w4 => heap_alloc_new w4 _)
  have sz := sz_def (dX false false false false false false 2)
  have H1c : Hid ((defC (dX false false false false false false 2)).all (·.oneCell') = true) := Lib.hid (defC_one _)
  have hdc : ∃ c, c = defC (dX false false false false false false 2) := ⟨_, rfl⟩
  obtain ⟨dC, hdC⟩ := hdc
  rw [← hdC] at bX sz H1c
  have HDC := Lib.hid hdC
  have HS18 : Hid ((#[.string ⟨#[]⟩, .bool false, .bool false, .bool false, .bool false, .bool false, .bool false, .int .i64 0, .int .i64 0, .bool false, .int .i64 0, .bool false, .slice none 0 0, .slice none 0 0, .int .i64 0, .int .i64 0, .slice none 0 0, .bool false] : Array Value).size = dC.size) := Lib.hid (by rw [hdC]; rfl)
  clear hdC
  go_upto_region 7 with (first | (go_at_call 7; refine (HSx.out _).mono ?_; rintro e w4 ⟨rfl, hb⟩; have HB := Lib.hid hb; clear hb) | (with_reducible refine wpList_build_two rfl 28 _ _ _ _ rfl (.string sX) (.int .i64 2) rfl rfl dC bX ?_) | (with_reducible show wpList _ _ _ (⟨none, _, _, _, _, _⟩ :: _) _ _; go_loud (refine wpList_store_row rfl 28 _ _ rfl w4.heap.size dC rfl rfl 28 _ (HZr.out w4) sz HS18.out H1c.out ?_)))
  obtain ⟨W1, hW1⟩ : ∃ W, (w4.alloc (.cells #[.string ⟨#[]⟩, .bool false, .bool false, .bool false, .bool false, .bool false, .bool false, .int .i64 0, .int .i64 0, .bool false, .int .i64 0, .bool false, .slice none 0 0, .slice none 0 0, .int .i64 0, .int .i64 0, .slice none 0 0, .bool false] 28)).setRow w4.heap.size dC = W := ⟨_, rfl⟩
  have hg1 : W1.heap[w4.heap.size]? = some (.cells (defC (dX false false false false false false 2)) 28 (0, 0)) := by rw [← hW1, ← HDC.out]; exact setRow_heap _ _ _ _ _ _ (HZr.out w4)
  have HBW1 : Hid (Below w.heap.size w W1) := Lib.hid (by rw [← hW1]; exact ⟨HB.out.os, HB.out.tape, HB.out.output, by rw [setRow_size, al_size]; have := HB.out.size; omega, fun k hk => (setRow_other _ _ _ _ (by have := HB.out.size; omega)).trans ((al_bel w4 _).block k (by have := HB.out.size; omega) |>.trans (HB.out.block k hk))⟩)
  have HGw : Hid (w.heap.size ≤ w4.heap.size) := Lib.hid HB.out.size
  have HGl : Hid (w4.heap.size < W1.heap.size) := Lib.hid (lt_of hg1)
  rw [hW1]
  clear hW1 bX sz
  generalize w4.heap.size = g at *
  have k2 : W1.cell? ⟨g, 2, none⟩ = some (.bool false) := cellJ hg1 (defC_at rfl)
  have k3 : W1.cell? ⟨g, 3, none⟩ = some (.bool false) := cellJ hg1 (defC_at rfl)
  have k4 : W1.cell? ⟨g, 4, none⟩ = some (.bool false) := cellJ hg1 (defC_at rfl)
  have k5 : W1.cell? ⟨g, 5, none⟩ = some (.bool false) := cellJ hg1 (defC_at rfl)
  have k6 : W1.cell? ⟨g, 6, none⟩ = some (.bool false) := cellJ hg1 (defC_at rfl)
  have f2 := freeJ hg1 2
  have f3 := freeJ hg1 3
  have f4 := freeJ hg1 4
  have f5 := freeJ hg1 5
  have f6 := freeJ hg1 6
  have HG1 := Lib.hid hg1
  clear hg1
  go_upto_region 8 with (fail)
  refine wp_loop_rounds 6 ?_
  rw [rounds_succ]
  go_wp2
  rw [rounds_succ]
  go_wp2
  rw [rounds_succ]
  go_wp2
  rw [rounds_succ]
  go_wp2
  rw [rounds_succ]
  go_wp2
  rw [rounds_succ]
  go_upto_region 11 with (fail)
  obtain ⟨b0, hb0⟩ : ∃ b, b = (a0 % 2 == 1) := ⟨_, rfl⟩
  obtain ⟨b1, hb1⟩ : ∃ b, b = (a0 / 2 % 2 == 1) := ⟨_, rfl⟩
  obtain ⟨b2, hb2⟩ : ∃ b, b = (a0 / 4 % 2 == 1) := ⟨_, rfl⟩
  obtain ⟨b3, hb3⟩ : ∃ b, b = (a0 / 8 % 2 == 1) := ⟨_, rfl⟩
  obtain ⟨b4, hb4⟩ : ∃ b, b = (a0 / 16 % 2 == 1) := ⟨_, rfl⟩
  rw [← hb0, ← hb1, ← hb2, ← hb3, ← hb4]
  have HBits := Lib.hid (And.intro hb0 (And.intro hb1 (And.intro hb2 (And.intro hb3 hb4))))
  clear hb0 hb1 hb2 hb3 hb4 k2 k3 k4 k5 k6 f2 f3 f4 f5 f6
  obtain ⟨W, hW⟩ : ∃ W, (((((W1.setCell ⟨g, 2, none⟩ (.bool b0)).setCell ⟨g, 3, none⟩ (.bool b1)).setCell ⟨g, 4, none⟩ (.bool b2)).setCell ⟨g, 5, none⟩ (.bool b3)).setCell ⟨g, 6, none⟩ (.bool b4)) = W := ⟨_, rfl⟩
  have hg : W.heap[g]? = some (.cells (defC (dX false b0 b1 b2 b3 b4 2)) 28 (0, 0)) := by rw [← hW]; exact setJ (setJ (setJ (setJ (setJ HG1.out))))
  have HBW : Hid (Below w.heap.size w W) := Lib.hid (by
    rw [← hW]
    have h0 : ButL w.heap.size [] w W1 := ButL.of_below HBW1.out
    exact (((((h0.set (.inr HGw.out) _ _).set (.inr HGw.out) _ _).set (.inr HGw.out) _ _).set (.inr HGw.out) _ _).set (.inr HGw.out) _ _).toBelow)
  have HG := Lib.hid hg
  rw [hW]
  clear hW hg
  have HMk : Hid (∀ d W, Calls Try.prog 10 #[.agg (defC d)] W fun e w' => e = .returned (srcV d) ∧ w' = W.alloc (.cells (defC d) 28)) := Lib.hid make_any
  have HB1 : Hid (∀ W, Calls Try.prog 9 #[srcV (dX false b0 b1 b2 b3 b4 2), .agg #[.int .i64 a1, .string ⟨#[]⟩, .string ⟨#[]⟩, .int .i64 0]] W fun e w' => ∃ t x, e = .returned (.tuple #[.nilIface, .iface t x]) ∧ ErrS w' [sX] 2 (.iface t x) ∧ Below W.heap.size W w') := Lib.hid (fun W => (begin_err (dX false b0 b1 b2 b3 b4 2) a1 _ _ _ W (.inr (.inr rfl))).mono (fun e w' ⟨er, he, her, hb⟩ => by
    obtain ⟨t, x, rfl⟩ := her.iface
    exact ⟨t, x, he, her, hb⟩))
  have sz1 := sz_def (dX false b0 b1 b2 b3 b4 2)
  have sz2 := sz_def (dX false b0 b1 b2 b3 b4 0)
  have sz3 := sz_def (dX true b0 b1 b2 b3 b4 0)
  go_upto_region 12 with (first
    | (with_reducible refine wpList_load_row rfl 28 _ rfl g rfl 28 (defC (dX false b0 b1 b2 b3 b4 2)) (0, 0) _ HG.out Try.underlying28 rfl sz1 ?_)
    | (go_at_call 10; refine (HMk.out _ _).mono ?_; rintro e wm ⟨rfl, hwm⟩; have HBm : Hid (Below W.heap.size W wm) := Lib.hid (by rw [hwm]; exact al_bel _ _); clear hwm)
    | (go_at_call 9; refine (HB1.out _).mono ?_; rintro e w5 ⟨t1, x1, rfl, her1, hb5⟩; have HE1 := Lib.hid her1; have HB5 : Hid (Below W.heap.size W w5) := Lib.hid (keepE HBm.out hb5); have hg5 := (HB5.out.block _ (lt_of HG.out)).trans HG.out; have k7 : w5.cell? ⟨g, 7, none⟩ = some (.int .i64 2) := cellJ hg5 (defC_at rfl); have f7 := freeJ hg5 7; have HG5 := Lib.hid hg5; clear her1 hb5 hg5))
  go_upto_region 13 with (fail)
  obtain ⟨W2, hW2⟩ : ∃ W, w5.setCell ⟨g, 7, none⟩ (.int .i64 0) = W := ⟨_, rfl⟩
  have hg2 : W2.heap[g]? = some (.cells (defC (dX false b0 b1 b2 b3 b4 0)) 28 (0, 0)) := by rw [← hW2]; exact setJ HG5.out
  have HBW2 : Hid (Below w.heap.size w W2) := Lib.hid (by
    rw [← hW2]
    exact ((ButL.of_below (keepE HBW.out HB5.out)).set (S := []) (.inr HGw.out) _ _).toBelow)
  have HE2 : Hid (ErrS W2 [sX] 2 (.iface t1 x1)) := Lib.hid (by
    obtain ⟨b, u, hv, hb, hu⟩ := HE1.out
    refine ⟨b, u, hv, ?_, hu⟩
    rw [← hW2, setN ?_]
    · exact hb
    · rintro rfl
      have h := HG5.out.symm.trans hb
      injection h with h
      injection h with _ h
      revert h
      decide)
  have HG2 := Lib.hid hg2
  rw [hW2]
  clear hW2 hg2 k7 f7 sz1
  obtain ⟨K, hK⟩ : ∃ K, takes (dX false b0 b1 b2 b3 b4 0) a1 = K := ⟨_, rfl⟩
  have HB2 : Hid (∀ W, Calls Try.prog 9 #[srcV (dX false b0 b1 b2 b3 b4 0), .agg #[.int .i64 a1, .string ⟨#[]⟩, .string ⟨#[]⟩, .int .i64 0]] W fun e w' => ∃ o f, e = .returned (.tuple #[o, f]) ∧ ((K = true ∧ (∃ t x, o = .iface t x) ∧ f = .nilIface) ∨ (K = false ∧ o = .nilIface ∧ ∃ t x, f = .iface t x)) ∧ Below W.heap.size W w') := Lib.hid (fun W => by
    cases K
    · exact (begin_err (dX false b0 b1 b2 b3 b4 0) a1 _ _ _ W (.inl hK)).mono (fun e w' ⟨er, he, her, hb⟩ => ⟨_, er, he, .inr ⟨rfl, rfl, her.iface⟩, hb⟩)
    · exact (begin_ok (dX false b0 b1 b2 b3 b4 0) a1 _ _ _ W hK (by simp [dX]) (by simp [dX])).mono (fun e w' ⟨b, ov, he, ho, _, hb⟩ => ⟨ov, _, he, .inl ⟨rfl, (by obtain ⟨t, e⟩ := ho.iface; exact ⟨t, _, e⟩), rfl⟩, hb⟩))
  have HB3 : Hid (∀ W, Calls Try.prog 9 #[srcV (dX true b0 b1 b2 b3 b4 0), .agg #[.int .i64 a1, .string ⟨#[]⟩, .string ⟨#[]⟩, .int .i64 0]] W fun e w' => ∃ t x, e = .returned (.tuple #[.iface t x, .nilIface]) ∧ Below W.heap.size W w') := Lib.hid (fun W =>
    (begin_ok (dX true b0 b1 b2 b3 b4 0) a1 _ _ _ W rfl (by simp [dX]) (by simp [dX])).mono (fun e w' ⟨b, ov, he, ho, _, hb⟩ => by
      obtain ⟨t, rfl⟩ := ho.iface
      exact ⟨t, _, he, hb⟩))
  have HK := Lib.hid hK
  clear hK
  go_upto_region 14 with (first
    | (with_reducible refine wpList_load_row rfl 28 _ rfl g rfl 28 (defC (dX false b0 b1 b2 b3 b4 0)) (0, 0) _ HG2.out Try.underlying28 rfl sz2 ?_)
    | (go_at_call 10; refine (HMk.out _ _).mono ?_; rintro e wm2 ⟨rfl, hwm⟩; have HBm2 : Hid (Below W2.heap.size W2 wm2) := Lib.hid (by rw [hwm]; exact al_bel _ _); clear hwm)
    | (go_at_call 9; refine (HB2.out _).mono ?_; rintro e w6 ⟨o6, f6, rfl, hof, hb6⟩; have HOF := Lib.hid hof; have HB6 : Hid (Below W2.heap.size W2 w6) := Lib.hid (keepE HBm2.out hb6); have hg6 := (HB6.out.block _ (lt_of HG2.out)).trans HG2.out; have k1 : w6.cell? ⟨g, 1, none⟩ = some (.bool false) := cellJ hg6 (defC_at rfl); have f1 := freeJ hg6 1; have HG6 := Lib.hid hg6; have HE6 : Hid (ErrS w6 [sX] 2 (.iface t1 x1)) := Lib.hid (HE2.out.below HB6.out); clear hof hb6 hg6))
  go_upto_region 15 with (fail)
  obtain ⟨W3, hW3⟩ : ∃ W, w6.setCell ⟨g, 1, none⟩ (.bool true) = W := ⟨_, rfl⟩
  have hg3 : W3.heap[g]? = some (.cells (defC (dX true b0 b1 b2 b3 b4 0)) 28 (0, 0)) := by rw [← hW3]; exact setJ HG6.out
  have HBW3 : Hid (Below w.heap.size w W3) := Lib.hid (by
    rw [← hW3]
    exact ((ButL.of_below (keepE HBW2.out HB6.out)).set (S := []) (.inr HGw.out) _ _).toBelow)
  have HE3 : Hid (ErrS W3 [sX] 2 (.iface t1 x1)) := Lib.hid (by
    obtain ⟨b, u, hv, hb, hu⟩ := HE6.out
    refine ⟨b, u, hv, ?_, hu⟩
    rw [← hW3, setN ?_]
    · exact hb
    · rintro rfl
      have h := HG6.out.symm.trans hb
      injection h with h
      injection h with _ h
      revert h
      decide)
  have HG3 := Lib.hid hg3
  rw [hW3]
  clear hW3 hg3 k1 f1 sz2
  go_upto_region 16 with (first
    | (with_reducible refine wpList_load_row rfl 28 _ rfl g rfl 28 (defC (dX true b0 b1 b2 b3 b4 0)) (0, 0) _ HG3.out Try.underlying28 rfl sz3 ?_)
    | (go_at_call 10; refine (HMk.out _ _).mono ?_; rintro e wm3 ⟨rfl, hwm⟩; have HBm3 : Hid (Below W3.heap.size W3 wm3) := Lib.hid (by rw [hwm]; exact al_bel _ _); clear hwm)
    | (go_at_call 9; refine (HB3.out _).mono ?_; rintro e w7 ⟨t7, x7, rfl, hb7⟩; have HB7 : Hid (Below w.heap.size w w7) := Lib.hid (keepE HBW3.out (keepE HBm3.out hb7)); have HE7 : Hid (ErrS w7 [sX] 2 (.iface t1 x1)) := Lib.hid (HE3.out.below (keepE HBm3.out hb7)); clear hb7))
  clear sz3
  have HC : Hid (∀ W, Below w7.heap.size w7 W → Calls Try.prog 11 #[.iface t1 x1] W fun e w' => e = .returned (.int .i64 2) ∧ Below w7.heap.size w7 w') := Lib.hid (fun W hW => (code0_any W _ _ _ (HE7.out.below hW) (by decide)).mono (fun e w' ⟨he, hb⟩ => ⟨by rw [he, codeV_two], keepE hW hb⟩))
  have HBx := Lib.hid (Below.refl w7.heap.size w7)
  have hx := hitX HK.out HBits.out h0 h1 h2
  rw [hitA_eq h1 h2] at hx
  obtain ⟨sh, hsh⟩ : ∃ sh, a0 / 2 ^ a1.toNat = sh := ⟨_, rfl⟩
  have HSe := Lib.hid hsh
  have hs0 : 0 ≤ sh := by rw [← hsh]; exact Int.ediv_nonneg h0 (Int.pow_nonneg (by decide))
  rw [hsh] at hx
  clear hsh
  have e1 := nilE
  have e2 := nilN
  have e3 := opNe
  have e4 := opNn
  -- REGION
  rcases HOF.out with ⟨rfl, ⟨t, x, rfl⟩, rfl⟩ | ⟨rfl, rfl, t, x, rfl⟩
  · have hx1 : sh % 2 = 1 := by simpa using hx
    refine wp_region_any (by kernel_rfl) ?_
    try (change wpAny _ _ _ _ _ _ _ (World.drew _))
    try simp only [Act.put, List.setIfInBounds_toArray, List.set_cons_zero, List.set_cons_succ]
    refine wpAny_take (i := 0) (oi := { dst := some 67, op := Op.move (Operand.tmp 5), type := 4, pos := "wide.go:27", after := #[], guard := none }) (v := .bool true) rfl (by kernel_rfl) (by kernel_rfl) (by kernel_rfl) (fun _ _ _ h => h) (Or.inl ⟨by rfl, ?_⟩) ?_
    · intro w; go_simp; all_goals (first | with_reducible rfl | (simp [hx1]; done) | (rw [Int.tmod_eq_emod_of_nonneg hs0]; done) | (rw [Int.tmod_eq_emod_of_nonneg hs0]; exact hx1))
    try simp only [Act.put, List.setIfInBounds_toArray, List.set_cons_zero, List.set_cons_succ]
    refine wpAny_take (i := 1) (oi := { dst := some 68, op := Op.move (Operand.tmp 67), type := 4, pos := "wide.go:27", after := #[{ on := 0, ground := Ground.data }], guard := none }) (v := .bool true) rfl (by kernel_rfl) (by kernel_rfl) (by kernel_rfl) (fun _ _ _ h => h) (Or.inl ⟨by rfl, ?_⟩) ?_
    · intro w; go_simp; all_goals (first | with_reducible rfl | (simp [hx1]; done) | (rw [Int.tmod_eq_emod_of_nonneg hs0]; done) | (rw [Int.tmod_eq_emod_of_nonneg hs0]; exact hx1))
    try simp only [Act.put, List.setIfInBounds_toArray, List.set_cons_zero, List.set_cons_succ]
    refine wpAny_take (i := 2) (oi := { dst := some 69, op := Op.move (Operand.tmp 9), type := 35, pos := "wide.go:27", after := #[{ on := 1, ground := Ground.guard }], guard := some (1, true) }) (v := .iface t1 x1) rfl (by kernel_rfl) (by kernel_rfl) (by kernel_rfl) (fun _ _ _ h => h) (Or.inl ⟨by rfl, ?_⟩) ?_
    · intro w; go_simp; all_goals (first | with_reducible rfl | (simp [hx1]; done) | (rw [Int.tmod_eq_emod_of_nonneg hs0]; done) | (rw [Int.tmod_eq_emod_of_nonneg hs0]; exact hx1))
    try simp only [Act.put, List.setIfInBounds_toArray, List.set_cons_zero, List.set_cons_succ]
    refine wpAny_ready (rs := [3]) (by kernel_rfl) (by simp) ?_
    refine AllReady.cons (o := { dst := some 70, op := Op.call { callee := Callee.value (Operand.func 11), args := #[Operand.tmp 69], argTypes := #[35] }, type := 43, pos := "wide.go:27", after := #[{ on := 2, ground := Ground.data }, { on := 1, ground := Ground.chain }, { on := 1, ground := Ground.guard }], guard := some (1, true) }) rfl (fun K hK => ?_) AllReady.nil
    go_simp
    go_at_call 11
    refine (HC.out _ HBx.out.drew).mono ?_
    rintro e w8 ⟨rfl, hb⟩
    have HBx := Lib.hid hb
    clear hb
    try go_wp2_with fail
    try simp only [Act.put, List.setIfInBounds_toArray, List.set_cons_zero, List.set_cons_succ]
    refine wpAny_take (i := 4) (oi := { dst := some 71, op := Op.binOp BinOp.eql 43 (Operand.tmp 70) (Operand.const (Value.int IntKind.i64 2)) 43, type := 4, pos := "wide.go:27", after := #[{ on := 3, ground := Ground.data }, { on := 1, ground := Ground.guard }], guard := some (1, true) }) (v := .bool true) rfl (by kernel_rfl) (by kernel_rfl) (by kernel_rfl) (fun _ _ _ h => h) (Or.inl ⟨by rfl, ?_⟩) ?_
    · intro w; go_simp; all_goals (first | with_reducible rfl | (simp [hx1]; done) | (rw [Int.tmod_eq_emod_of_nonneg hs0]; done) | (rw [Int.tmod_eq_emod_of_nonneg hs0]; exact hx1))
    try simp only [Act.put, List.setIfInBounds_toArray, List.set_cons_zero, List.set_cons_succ]
    refine wpAny_take (i := 5) (oi := { dst := some 72, op := Op.pick (Operand.tmp 68) (Operand.tmp 71) (Operand.const (Value.bool false)), type := 4, pos := "wide.go:27", after := #[{ on := 1, ground := Ground.data }, { on := 4, ground := Ground.data }], guard := none }) (v := .bool true) rfl (by kernel_rfl) (by kernel_rfl) (by kernel_rfl) (fun _ _ _ h => h) (Or.inl ⟨by rfl, ?_⟩) ?_
    · intro w; go_simp; all_goals (first | with_reducible rfl | (simp [hx1]; done) | (rw [Int.tmod_eq_emod_of_nonneg hs0]; done) | (rw [Int.tmod_eq_emod_of_nonneg hs0]; exact hx1))
    try simp only [Act.put, List.setIfInBounds_toArray, List.set_cons_zero, List.set_cons_succ]
    refine wpAny_take (i := 6) (oi := { dst := some 73, op := Op.move (Operand.tmp 72), type := 4, pos := "wide.go:27", after := #[{ on := 5, ground := Ground.data }, { on := 3, ground := Ground.chain }], guard := none }) (v := .bool true) rfl (by kernel_rfl) (by kernel_rfl) (by kernel_rfl) (fun _ _ _ h => h) (Or.inl ⟨by rfl, ?_⟩) ?_
    · intro w; go_simp; all_goals (first | with_reducible rfl | (simp [hx1]; done) | (rw [Int.tmod_eq_emod_of_nonneg hs0]; done) | (rw [Int.tmod_eq_emod_of_nonneg hs0]; exact hx1))
    try simp only [Act.put, List.setIfInBounds_toArray, List.set_cons_zero, List.set_cons_succ]
    refine wpAny_take (i := 7) (oi := { dst := some 74, op := Op.move (Operand.tmp 11), type := 35, pos := "wide.go:27", after := #[{ on := 6, ground := Ground.guard }], guard := some (6, true) }) (v := .nilIface) rfl (by kernel_rfl) (by kernel_rfl) (by kernel_rfl) (fun _ _ _ h => h) (Or.inl ⟨by rfl, ?_⟩) ?_
    · intro w; go_simp; all_goals (first | with_reducible rfl | (simp [hx1]; done) | (rw [Int.tmod_eq_emod_of_nonneg hs0]; done) | (rw [Int.tmod_eq_emod_of_nonneg hs0]; exact hx1))
    try simp only [Act.put, List.setIfInBounds_toArray, List.set_cons_zero, List.set_cons_succ]
    refine wpAny_take (i := 8) (oi := { dst := some 75, op := Op.binOp BinOp.eql 35 (Operand.tmp 74) (Operand.const Value.nilIface) 35, type := 4, pos := "wide.go:27", after := #[{ on := 7, ground := Ground.data }, { on := 6, ground := Ground.guard }], guard := some (6, true) }) (v := .bool true) rfl (by kernel_rfl) (by kernel_rfl) (by kernel_rfl) (fun _ _ _ h => h) (Or.inl ⟨by rfl, ?_⟩) ?_
    · intro w; go_simp; all_goals (first | with_reducible rfl | (simp [hx1]; done) | (rw [Int.tmod_eq_emod_of_nonneg hs0]; done) | (rw [Int.tmod_eq_emod_of_nonneg hs0]; exact hx1))
    try simp only [Act.put, List.setIfInBounds_toArray, List.set_cons_zero, List.set_cons_succ]
    refine wpAny_take (i := 9) (oi := { dst := some 76, op := Op.move (Operand.tmp 0), type := 3, pos := "wide.go:27", after := #[{ on := 6, ground := Ground.guard }], guard := some (6, true) }) (v := .int .i64 a0) rfl (by kernel_rfl) (by kernel_rfl) (by kernel_rfl) (fun _ _ _ h => h) (Or.inl ⟨by rfl, ?_⟩) ?_
    · intro w; go_simp; all_goals (first | with_reducible rfl | (simp [hx1]; done) | (rw [Int.tmod_eq_emod_of_nonneg hs0]; done) | (rw [Int.tmod_eq_emod_of_nonneg hs0]; exact hx1))
    try simp only [Act.put, List.setIfInBounds_toArray, List.set_cons_zero, List.set_cons_succ]
    refine wpAny_take (i := 10) (oi := { dst := some 77, op := Op.move (Operand.tmp 1), type := 3, pos := "wide.go:27", after := #[{ on := 6, ground := Ground.guard }], guard := some (6, true) }) (v := .int .i64 a1) rfl (by kernel_rfl) (by kernel_rfl) (by kernel_rfl) (fun _ _ _ h => h) (Or.inl ⟨by rfl, ?_⟩) ?_
    · intro w; go_simp; all_goals (first | with_reducible rfl | (simp [hx1]; done) | (rw [Int.tmod_eq_emod_of_nonneg hs0]; done) | (rw [Int.tmod_eq_emod_of_nonneg hs0]; exact hx1))
    try simp only [Act.put, List.setIfInBounds_toArray, List.set_cons_zero, List.set_cons_succ]
    refine wpAny_take (i := 11) (oi := { dst := some 78, op := Op.binOp BinOp.shr 3 (Operand.tmp 76) (Operand.tmp 77) 3, type := 3, pos := "wide.go:27", after := #[{ on := 9, ground := Ground.data }, { on := 10, ground := Ground.data }, { on := 6, ground := Ground.guard }], guard := some (6, true) }) (v := .int .i64 sh) rfl (by kernel_rfl) (by kernel_rfl) (by kernel_rfl) (fun _ _ _ h => h) (Or.inl ⟨by rfl, ?_⟩) ?_
    · intro w; go_simp; all_goals (first | exact HSe.out | (rw [HSe.out]; done))
    try simp only [Act.put, List.setIfInBounds_toArray, List.set_cons_zero, List.set_cons_succ]
    refine wpAny_take (i := 12) (oi := { dst := some 79, op := Op.binOp BinOp.rem 3 (Operand.tmp 78) (Operand.const (Value.int IntKind.i64 2)) 3, type := 3, pos := "wide.go:27", after := #[{ on := 11, ground := Ground.data }, { on := 6, ground := Ground.guard }], guard := some (6, true) }) (v := .int .i64 (sh % 2)) rfl (by kernel_rfl) (by kernel_rfl) (by kernel_rfl) (fun _ _ _ h => h) (Or.inl ⟨by rfl, ?_⟩) ?_
    · intro w; go_simp; all_goals (first | with_reducible rfl | (simp [hx1]; done) | (rw [Int.tmod_eq_emod_of_nonneg hs0]; done) | (rw [Int.tmod_eq_emod_of_nonneg hs0]; exact hx1))
    try simp only [Act.put, List.setIfInBounds_toArray, List.set_cons_zero, List.set_cons_succ]
    refine wpAny_take (i := 13) (oi := { dst := some 80, op := Op.binOp BinOp.eql 3 (Operand.tmp 79) (Operand.const (Value.int IntKind.i64 1)) 3, type := 4, pos := "wide.go:27", after := #[{ on := 12, ground := Ground.data }, { on := 6, ground := Ground.guard }], guard := some (6, true) }) (v := .bool true) rfl (by kernel_rfl) (by kernel_rfl) (by kernel_rfl) (fun _ _ _ h => h) (Or.inl ⟨by rfl, ?_⟩) ?_
    · intro w; go_simp; all_goals (first | with_reducible rfl | (simp [hx1]; done) | (rw [Int.tmod_eq_emod_of_nonneg hs0]; done) | (rw [Int.tmod_eq_emod_of_nonneg hs0]; exact hx1))
    try simp only [Act.put, List.setIfInBounds_toArray, List.set_cons_zero, List.set_cons_succ]
    refine wpAny_take (i := 14) (oi := { dst := some 81, op := Op.binOp BinOp.eql 4 (Operand.tmp 75) (Operand.tmp 80) 4, type := 4, pos := "wide.go:27", after := #[{ on := 8, ground := Ground.data }, { on := 13, ground := Ground.data }, { on := 6, ground := Ground.guard }], guard := some (6, true) }) (v := .bool true) rfl (by kernel_rfl) (by kernel_rfl) (by kernel_rfl) (fun _ _ _ h => h) (Or.inl ⟨by rfl, ?_⟩) ?_
    · intro w; go_simp; all_goals (first | with_reducible rfl | (simp [hx1]; done) | (rw [Int.tmod_eq_emod_of_nonneg hs0]; done) | (rw [Int.tmod_eq_emod_of_nonneg hs0]; exact hx1))
    try simp only [Act.put, List.setIfInBounds_toArray, List.set_cons_zero, List.set_cons_succ]
    refine wpAny_take (i := 15) (oi := { dst := some 82, op := Op.pick (Operand.tmp 73) (Operand.tmp 81) (Operand.const (Value.bool false)), type := 4, pos := "wide.go:27", after := #[{ on := 6, ground := Ground.data }, { on := 14, ground := Ground.data }], guard := none }) (v := .bool true) rfl (by kernel_rfl) (by kernel_rfl) (by kernel_rfl) (fun _ _ _ h => h) (Or.inl ⟨by rfl, ?_⟩) ?_
    · intro w; go_simp; all_goals (first | with_reducible rfl | (simp [hx1]; done) | (rw [Int.tmod_eq_emod_of_nonneg hs0]; done) | (rw [Int.tmod_eq_emod_of_nonneg hs0]; exact hx1))
    try simp only [Act.put, List.setIfInBounds_toArray, List.set_cons_zero, List.set_cons_succ]
    refine wpAny_take (i := 16) (oi := { dst := some 83, op := Op.move (Operand.tmp 82), type := 4, pos := "wide.go:27", after := #[{ on := 15, ground := Ground.data }, { on := 6, ground := Ground.chain }], guard := none }) (v := .bool true) rfl (by kernel_rfl) (by kernel_rfl) (by kernel_rfl) (fun _ _ _ h => h) (Or.inl ⟨by rfl, ?_⟩) ?_
    · intro w; go_simp; all_goals (first | with_reducible rfl | (simp [hx1]; done) | (rw [Int.tmod_eq_emod_of_nonneg hs0]; done) | (rw [Int.tmod_eq_emod_of_nonneg hs0]; exact hx1))
    try simp only [Act.put, List.setIfInBounds_toArray, List.set_cons_zero, List.set_cons_succ]
    refine wpAny_take (i := 17) (oi := { dst := some 84, op := Op.move (Operand.tmp 10), type := 33, pos := "wide.go:27", after := #[{ on := 16, ground := Ground.guard }], guard := some (16, true) }) (v := .iface t x) rfl (by kernel_rfl) (by kernel_rfl) (by kernel_rfl) (fun _ _ _ h => h) (Or.inl ⟨by rfl, ?_⟩) ?_
    · intro w; go_simp; all_goals (first | with_reducible rfl | (simp [hx1]; done) | (rw [Int.tmod_eq_emod_of_nonneg hs0]; done) | (rw [Int.tmod_eq_emod_of_nonneg hs0]; exact hx1))
    try simp only [Act.put, List.setIfInBounds_toArray, List.set_cons_zero, List.set_cons_succ]
    refine wpAny_take (i := 18) (oi := { dst := some 85, op := Op.binOp BinOp.neq 33 (Operand.tmp 84) (Operand.const Value.nilIface) 33, type := 4, pos := "wide.go:27", after := #[{ on := 17, ground := Ground.data }, { on := 16, ground := Ground.guard }], guard := some (16, true) }) (v := .bool true) rfl (by kernel_rfl) (by kernel_rfl) (by kernel_rfl) (fun _ _ _ h => h) (Or.inl ⟨by rfl, ?_⟩) ?_
    · intro w; go_simp; all_goals (first | with_reducible rfl | (simp [hx1]; done) | (rw [Int.tmod_eq_emod_of_nonneg hs0]; done) | (rw [Int.tmod_eq_emod_of_nonneg hs0]; exact hx1))
    try simp only [Act.put, List.setIfInBounds_toArray, List.set_cons_zero, List.set_cons_succ]
    refine wpAny_take (i := 19) (oi := { dst := some 86, op := Op.move (Operand.tmp 11), type := 35, pos := "wide.go:27", after := #[{ on := 16, ground := Ground.guard }], guard := some (16, true) }) (v := .nilIface) rfl (by kernel_rfl) (by kernel_rfl) (by kernel_rfl) (fun _ _ _ h => h) (Or.inl ⟨by rfl, ?_⟩) ?_
    · intro w; go_simp; all_goals (first | with_reducible rfl | (simp [hx1]; done) | (rw [Int.tmod_eq_emod_of_nonneg hs0]; done) | (rw [Int.tmod_eq_emod_of_nonneg hs0]; exact hx1))
    try simp only [Act.put, List.setIfInBounds_toArray, List.set_cons_zero, List.set_cons_succ]
    refine wpAny_take (i := 20) (oi := { dst := some 87, op := Op.binOp BinOp.eql 35 (Operand.tmp 86) (Operand.const Value.nilIface) 35, type := 4, pos := "wide.go:27", after := #[{ on := 19, ground := Ground.data }, { on := 16, ground := Ground.guard }], guard := some (16, true) }) (v := .bool true) rfl (by kernel_rfl) (by kernel_rfl) (by kernel_rfl) (fun _ _ _ h => h) (Or.inl ⟨by rfl, ?_⟩) ?_
    · intro w; go_simp; all_goals (first | with_reducible rfl | (simp [hx1]; done) | (rw [Int.tmod_eq_emod_of_nonneg hs0]; done) | (rw [Int.tmod_eq_emod_of_nonneg hs0]; exact hx1))
    try simp only [Act.put, List.setIfInBounds_toArray, List.set_cons_zero, List.set_cons_succ]
    refine wpAny_take (i := 21) (oi := { dst := some 88, op := Op.binOp BinOp.eql 4 (Operand.tmp 85) (Operand.tmp 87) 4, type := 4, pos := "wide.go:27", after := #[{ on := 18, ground := Ground.data }, { on := 20, ground := Ground.data }, { on := 16, ground := Ground.guard }], guard := some (16, true) }) (v := .bool true) rfl (by kernel_rfl) (by kernel_rfl) (by kernel_rfl) (fun _ _ _ h => h) (Or.inl ⟨by rfl, ?_⟩) ?_
    · intro w; go_simp; all_goals (first | with_reducible rfl | (simp [hx1]; done) | (rw [Int.tmod_eq_emod_of_nonneg hs0]; done) | (rw [Int.tmod_eq_emod_of_nonneg hs0]; exact hx1))
    try simp only [Act.put, List.setIfInBounds_toArray, List.set_cons_zero, List.set_cons_succ]
    refine wpAny_take (i := 22) (oi := { dst := some 89, op := Op.pick (Operand.tmp 83) (Operand.tmp 88) (Operand.const (Value.bool false)), type := 4, pos := "wide.go:27", after := #[{ on := 16, ground := Ground.data }, { on := 21, ground := Ground.data }], guard := none }) (v := .bool true) rfl (by kernel_rfl) (by kernel_rfl) (by kernel_rfl) (fun _ _ _ h => h) (Or.inl ⟨by rfl, ?_⟩) ?_
    · intro w; go_simp; all_goals (first | with_reducible rfl | (simp [hx1]; done) | (rw [Int.tmod_eq_emod_of_nonneg hs0]; done) | (rw [Int.tmod_eq_emod_of_nonneg hs0]; exact hx1))
    try simp only [Act.put, List.setIfInBounds_toArray, List.set_cons_zero, List.set_cons_succ]
    refine wpAny_take (i := 23) (oi := { dst := some 90, op := Op.move (Operand.tmp 89), type := 4, pos := "wide.go:27", after := #[{ on := 22, ground := Ground.data }, { on := 16, ground := Ground.chain }], guard := none }) (v := .bool true) rfl (by kernel_rfl) (by kernel_rfl) (by kernel_rfl) (fun _ _ _ h => h) (Or.inl ⟨by rfl, ?_⟩) ?_
    · intro w; go_simp; all_goals (first | with_reducible rfl | (simp [hx1]; done) | (rw [Int.tmod_eq_emod_of_nonneg hs0]; done) | (rw [Int.tmod_eq_emod_of_nonneg hs0]; exact hx1))
    try simp only [Act.put, List.setIfInBounds_toArray, List.set_cons_zero, List.set_cons_succ]
    refine wpAny_take (i := 24) (oi := { dst := some 91, op := Op.move (Operand.tmp 13), type := 35, pos := "wide.go:27", after := #[{ on := 23, ground := Ground.guard }], guard := some (23, true) }) (v := .nilIface) rfl (by kernel_rfl) (by kernel_rfl) (by kernel_rfl) (fun _ _ _ h => h) (Or.inl ⟨by rfl, ?_⟩) ?_
    · intro w; go_simp; all_goals (first | with_reducible rfl | (simp [hx1]; done) | (rw [Int.tmod_eq_emod_of_nonneg hs0]; done) | (rw [Int.tmod_eq_emod_of_nonneg hs0]; exact hx1))
    try simp only [Act.put, List.setIfInBounds_toArray, List.set_cons_zero, List.set_cons_succ]
    refine wpAny_take (i := 25) (oi := { dst := some 92, op := Op.binOp BinOp.eql 35 (Operand.tmp 91) (Operand.const Value.nilIface) 35, type := 4, pos := "wide.go:27", after := #[{ on := 24, ground := Ground.data }, { on := 23, ground := Ground.guard }], guard := some (23, true) }) (v := .bool true) rfl (by kernel_rfl) (by kernel_rfl) (by kernel_rfl) (fun _ _ _ h => h) (Or.inl ⟨by rfl, ?_⟩) ?_
    · intro w; go_simp; all_goals (first | with_reducible rfl | (simp [hx1]; done) | (rw [Int.tmod_eq_emod_of_nonneg hs0]; done) | (rw [Int.tmod_eq_emod_of_nonneg hs0]; exact hx1))
    try simp only [Act.put, List.setIfInBounds_toArray, List.set_cons_zero, List.set_cons_succ]
    refine wpAny_take (i := 26) (oi := { dst := some 93, op := Op.pick (Operand.tmp 90) (Operand.tmp 92) (Operand.const (Value.bool false)), type := 4, pos := "wide.go:27", after := #[{ on := 23, ground := Ground.data }, { on := 25, ground := Ground.data }], guard := none }) (v := .bool true) rfl (by kernel_rfl) (by kernel_rfl) (by kernel_rfl) (fun _ _ _ h => h) (Or.inl ⟨by rfl, ?_⟩) ?_
    · intro w; go_simp; all_goals (first | with_reducible rfl | (simp [hx1]; done) | (rw [Int.tmod_eq_emod_of_nonneg hs0]; done) | (rw [Int.tmod_eq_emod_of_nonneg hs0]; exact hx1))
    try simp only [Act.put, List.setIfInBounds_toArray, List.set_cons_zero, List.set_cons_succ]
    refine wpAny_take (i := 27) (oi := { dst := some 94, op := Op.move (Operand.tmp 93), type := 4, pos := "wide.go:27", after := #[{ on := 26, ground := Ground.data }, { on := 23, ground := Ground.chain }], guard := none }) (v := .bool true) rfl (by kernel_rfl) (by kernel_rfl) (by kernel_rfl) (fun _ _ _ h => h) (Or.inl ⟨by rfl, ?_⟩) ?_
    · intro w; go_simp; all_goals (first | with_reducible rfl | (simp [hx1]; done) | (rw [Int.tmod_eq_emod_of_nonneg hs0]; done) | (rw [Int.tmod_eq_emod_of_nonneg hs0]; exact hx1))
    try simp only [Act.put, List.setIfInBounds_toArray, List.set_cons_zero, List.set_cons_succ]
    refine wpAny_take (i := 28) (oi := { dst := some 95, op := Op.move (Operand.tmp 12), type := 33, pos := "wide.go:27", after := #[{ on := 27, ground := Ground.guard }], guard := some (27, true) }) (v := .iface t7 x7) rfl (by kernel_rfl) (by kernel_rfl) (by kernel_rfl) (fun _ _ _ h => h) (Or.inl ⟨by rfl, ?_⟩) ?_
    · intro w; go_simp; all_goals (first | with_reducible rfl | (simp [hx1]; done) | (rw [Int.tmod_eq_emod_of_nonneg hs0]; done) | (rw [Int.tmod_eq_emod_of_nonneg hs0]; exact hx1))
    try simp only [Act.put, List.setIfInBounds_toArray, List.set_cons_zero, List.set_cons_succ]
    refine wpAny_take (i := 29) (oi := { dst := some 96, op := Op.binOp BinOp.neq 33 (Operand.tmp 95) (Operand.const Value.nilIface) 33, type := 4, pos := "wide.go:27", after := #[{ on := 28, ground := Ground.data }, { on := 27, ground := Ground.guard }], guard := some (27, true) }) (v := .bool true) rfl (by kernel_rfl) (by kernel_rfl) (by kernel_rfl) (fun _ _ _ h => h) (Or.inl ⟨by rfl, ?_⟩) ?_
    · intro w; go_simp; all_goals (first | with_reducible rfl | (simp [hx1]; done) | (rw [Int.tmod_eq_emod_of_nonneg hs0]; done) | (rw [Int.tmod_eq_emod_of_nonneg hs0]; exact hx1))
    try simp only [Act.put, List.setIfInBounds_toArray, List.set_cons_zero, List.set_cons_succ]
    refine wpAny_take (i := 30) (oi := { dst := some 97, op := Op.pick (Operand.tmp 94) (Operand.tmp 96) (Operand.const (Value.bool false)), type := 4, pos := "wide.go:27", after := #[{ on := 27, ground := Ground.data }, { on := 29, ground := Ground.data }], guard := none }) (v := .bool true) rfl (by kernel_rfl) (by kernel_rfl) (by kernel_rfl) (fun _ _ _ h => h) (Or.inl ⟨by rfl, ?_⟩) ?_
    · intro w; go_simp; all_goals (first | with_reducible rfl | (simp [hx1]; done) | (rw [Int.tmod_eq_emod_of_nonneg hs0]; done) | (rw [Int.tmod_eq_emod_of_nonneg hs0]; exact hx1))
    try simp only [Act.put, List.setIfInBounds_toArray, List.set_cons_zero, List.set_cons_succ]
    refine wpAny_take (i := 31) (oi := { dst := some 4, op := Op.assign (Operand.tmp 97), type := 4, pos := "wide.go:27", after := #[{ on := 30, ground := Ground.data }, { on := 27, ground := Ground.chain }, { on := 0, ground := Ground.phase }, { on := 1, ground := Ground.phase }, { on := 2, ground := Ground.phase }, { on := 3, ground := Ground.phase }, { on := 4, ground := Ground.phase }, { on := 5, ground := Ground.phase }, { on := 6, ground := Ground.phase }, { on := 7, ground := Ground.phase }, { on := 8, ground := Ground.phase }, { on := 9, ground := Ground.phase }, { on := 10, ground := Ground.phase }, { on := 11, ground := Ground.phase }, { on := 12, ground := Ground.phase }, { on := 13, ground := Ground.phase }, { on := 14, ground := Ground.phase }, { on := 15, ground := Ground.phase }, { on := 16, ground := Ground.phase }, { on := 17, ground := Ground.phase }, { on := 18, ground := Ground.phase }, { on := 19, ground := Ground.phase }, { on := 20, ground := Ground.phase }, { on := 21, ground := Ground.phase }, { on := 22, ground := Ground.phase }, { on := 23, ground := Ground.phase }, { on := 24, ground := Ground.phase }, { on := 25, ground := Ground.phase }, { on := 26, ground := Ground.phase }, { on := 27, ground := Ground.phase }, { on := 28, ground := Ground.phase }, { on := 29, ground := Ground.phase }, { on := 30, ground := Ground.phase }], guard := none }) (v := .bool true) rfl (by kernel_rfl) (by kernel_rfl) (by kernel_rfl) (fun _ _ _ h => h) (Or.inl ⟨by rfl, ?_⟩) ?_
    · intro w; go_simp; all_goals (first | with_reducible rfl | (simp [hx1]; done) | (rw [Int.tmod_eq_emod_of_nonneg hs0]; done) | (rw [Int.tmod_eq_emod_of_nonneg hs0]; exact hx1))
    try simp only [Act.put, List.setIfInBounds_toArray, List.set_cons_zero, List.set_cons_succ]
    refine wpAny_done (by kernel_rfl) ?_ _
    go_wp2
    go_ret
    exact ⟨rfl, keepE HB7.out HBx.out⟩
  · have hx1 : ¬ sh % 2 = 1 := by simpa using hx
    refine wp_region_any (by kernel_rfl) ?_
    try (change wpAny _ _ _ _ _ _ _ (World.drew _))
    try simp only [Act.put, List.setIfInBounds_toArray, List.set_cons_zero, List.set_cons_succ]
    refine wpAny_take (i := 0) (oi := { dst := some 67, op := Op.move (Operand.tmp 5), type := 4, pos := "wide.go:27", after := #[], guard := none }) (v := .bool true) rfl (by kernel_rfl) (by kernel_rfl) (by kernel_rfl) (fun _ _ _ h => h) (Or.inl ⟨by rfl, ?_⟩) ?_
    · intro w; go_simp; all_goals (first | with_reducible rfl | (simp [hx1]; done) | (rw [Int.tmod_eq_emod_of_nonneg hs0]; done) | (rw [Int.tmod_eq_emod_of_nonneg hs0]; exact hx1))
    try simp only [Act.put, List.setIfInBounds_toArray, List.set_cons_zero, List.set_cons_succ]
    refine wpAny_take (i := 1) (oi := { dst := some 68, op := Op.move (Operand.tmp 67), type := 4, pos := "wide.go:27", after := #[{ on := 0, ground := Ground.data }], guard := none }) (v := .bool true) rfl (by kernel_rfl) (by kernel_rfl) (by kernel_rfl) (fun _ _ _ h => h) (Or.inl ⟨by rfl, ?_⟩) ?_
    · intro w; go_simp; all_goals (first | with_reducible rfl | (simp [hx1]; done) | (rw [Int.tmod_eq_emod_of_nonneg hs0]; done) | (rw [Int.tmod_eq_emod_of_nonneg hs0]; exact hx1))
    try simp only [Act.put, List.setIfInBounds_toArray, List.set_cons_zero, List.set_cons_succ]
    refine wpAny_take (i := 2) (oi := { dst := some 69, op := Op.move (Operand.tmp 9), type := 35, pos := "wide.go:27", after := #[{ on := 1, ground := Ground.guard }], guard := some (1, true) }) (v := .iface t1 x1) rfl (by kernel_rfl) (by kernel_rfl) (by kernel_rfl) (fun _ _ _ h => h) (Or.inl ⟨by rfl, ?_⟩) ?_
    · intro w; go_simp; all_goals (first | with_reducible rfl | (simp [hx1]; done) | (rw [Int.tmod_eq_emod_of_nonneg hs0]; done) | (rw [Int.tmod_eq_emod_of_nonneg hs0]; exact hx1))
    try simp only [Act.put, List.setIfInBounds_toArray, List.set_cons_zero, List.set_cons_succ]
    refine wpAny_ready (rs := [3]) (by kernel_rfl) (by simp) ?_
    refine AllReady.cons (o := { dst := some 70, op := Op.call { callee := Callee.value (Operand.func 11), args := #[Operand.tmp 69], argTypes := #[35] }, type := 43, pos := "wide.go:27", after := #[{ on := 2, ground := Ground.data }, { on := 1, ground := Ground.chain }, { on := 1, ground := Ground.guard }], guard := some (1, true) }) rfl (fun K hK => ?_) AllReady.nil
    go_simp
    go_at_call 11
    refine (HC.out _ HBx.out.drew).mono ?_
    rintro e w8 ⟨rfl, hb⟩
    have HBx := Lib.hid hb
    clear hb
    try go_wp2_with fail
    try simp only [Act.put, List.setIfInBounds_toArray, List.set_cons_zero, List.set_cons_succ]
    refine wpAny_take (i := 4) (oi := { dst := some 71, op := Op.binOp BinOp.eql 43 (Operand.tmp 70) (Operand.const (Value.int IntKind.i64 2)) 43, type := 4, pos := "wide.go:27", after := #[{ on := 3, ground := Ground.data }, { on := 1, ground := Ground.guard }], guard := some (1, true) }) (v := .bool true) rfl (by kernel_rfl) (by kernel_rfl) (by kernel_rfl) (fun _ _ _ h => h) (Or.inl ⟨by rfl, ?_⟩) ?_
    · intro w; go_simp; all_goals (first | with_reducible rfl | (simp [hx1]; done) | (rw [Int.tmod_eq_emod_of_nonneg hs0]; done) | (rw [Int.tmod_eq_emod_of_nonneg hs0]; exact hx1))
    try simp only [Act.put, List.setIfInBounds_toArray, List.set_cons_zero, List.set_cons_succ]
    refine wpAny_take (i := 5) (oi := { dst := some 72, op := Op.pick (Operand.tmp 68) (Operand.tmp 71) (Operand.const (Value.bool false)), type := 4, pos := "wide.go:27", after := #[{ on := 1, ground := Ground.data }, { on := 4, ground := Ground.data }], guard := none }) (v := .bool true) rfl (by kernel_rfl) (by kernel_rfl) (by kernel_rfl) (fun _ _ _ h => h) (Or.inl ⟨by rfl, ?_⟩) ?_
    · intro w; go_simp; all_goals (first | with_reducible rfl | (simp [hx1]; done) | (rw [Int.tmod_eq_emod_of_nonneg hs0]; done) | (rw [Int.tmod_eq_emod_of_nonneg hs0]; exact hx1))
    try simp only [Act.put, List.setIfInBounds_toArray, List.set_cons_zero, List.set_cons_succ]
    refine wpAny_take (i := 6) (oi := { dst := some 73, op := Op.move (Operand.tmp 72), type := 4, pos := "wide.go:27", after := #[{ on := 5, ground := Ground.data }, { on := 3, ground := Ground.chain }], guard := none }) (v := .bool true) rfl (by kernel_rfl) (by kernel_rfl) (by kernel_rfl) (fun _ _ _ h => h) (Or.inl ⟨by rfl, ?_⟩) ?_
    · intro w; go_simp; all_goals (first | with_reducible rfl | (simp [hx1]; done) | (rw [Int.tmod_eq_emod_of_nonneg hs0]; done) | (rw [Int.tmod_eq_emod_of_nonneg hs0]; exact hx1))
    try simp only [Act.put, List.setIfInBounds_toArray, List.set_cons_zero, List.set_cons_succ]
    refine wpAny_take (i := 7) (oi := { dst := some 74, op := Op.move (Operand.tmp 11), type := 35, pos := "wide.go:27", after := #[{ on := 6, ground := Ground.guard }], guard := some (6, true) }) (v := .iface t x) rfl (by kernel_rfl) (by kernel_rfl) (by kernel_rfl) (fun _ _ _ h => h) (Or.inl ⟨by rfl, ?_⟩) ?_
    · intro w; go_simp; all_goals (first | with_reducible rfl | (simp [hx1]; done) | (rw [Int.tmod_eq_emod_of_nonneg hs0]; done) | (rw [Int.tmod_eq_emod_of_nonneg hs0]; exact hx1))
    try simp only [Act.put, List.setIfInBounds_toArray, List.set_cons_zero, List.set_cons_succ]
    refine wpAny_take (i := 8) (oi := { dst := some 75, op := Op.binOp BinOp.eql 35 (Operand.tmp 74) (Operand.const Value.nilIface) 35, type := 4, pos := "wide.go:27", after := #[{ on := 7, ground := Ground.data }, { on := 6, ground := Ground.guard }], guard := some (6, true) }) (v := .bool false) rfl (by kernel_rfl) (by kernel_rfl) (by kernel_rfl) (fun _ _ _ h => h) (Or.inl ⟨by rfl, ?_⟩) ?_
    · intro w; go_simp; all_goals (first | with_reducible rfl | (simp [hx1]; done) | (rw [Int.tmod_eq_emod_of_nonneg hs0]; done) | (rw [Int.tmod_eq_emod_of_nonneg hs0]; exact hx1))
    try simp only [Act.put, List.setIfInBounds_toArray, List.set_cons_zero, List.set_cons_succ]
    refine wpAny_take (i := 9) (oi := { dst := some 76, op := Op.move (Operand.tmp 0), type := 3, pos := "wide.go:27", after := #[{ on := 6, ground := Ground.guard }], guard := some (6, true) }) (v := .int .i64 a0) rfl (by kernel_rfl) (by kernel_rfl) (by kernel_rfl) (fun _ _ _ h => h) (Or.inl ⟨by rfl, ?_⟩) ?_
    · intro w; go_simp; all_goals (first | with_reducible rfl | (simp [hx1]; done) | (rw [Int.tmod_eq_emod_of_nonneg hs0]; done) | (rw [Int.tmod_eq_emod_of_nonneg hs0]; exact hx1))
    try simp only [Act.put, List.setIfInBounds_toArray, List.set_cons_zero, List.set_cons_succ]
    refine wpAny_take (i := 10) (oi := { dst := some 77, op := Op.move (Operand.tmp 1), type := 3, pos := "wide.go:27", after := #[{ on := 6, ground := Ground.guard }], guard := some (6, true) }) (v := .int .i64 a1) rfl (by kernel_rfl) (by kernel_rfl) (by kernel_rfl) (fun _ _ _ h => h) (Or.inl ⟨by rfl, ?_⟩) ?_
    · intro w; go_simp; all_goals (first | with_reducible rfl | (simp [hx1]; done) | (rw [Int.tmod_eq_emod_of_nonneg hs0]; done) | (rw [Int.tmod_eq_emod_of_nonneg hs0]; exact hx1))
    try simp only [Act.put, List.setIfInBounds_toArray, List.set_cons_zero, List.set_cons_succ]
    refine wpAny_take (i := 11) (oi := { dst := some 78, op := Op.binOp BinOp.shr 3 (Operand.tmp 76) (Operand.tmp 77) 3, type := 3, pos := "wide.go:27", after := #[{ on := 9, ground := Ground.data }, { on := 10, ground := Ground.data }, { on := 6, ground := Ground.guard }], guard := some (6, true) }) (v := .int .i64 sh) rfl (by kernel_rfl) (by kernel_rfl) (by kernel_rfl) (fun _ _ _ h => h) (Or.inl ⟨by rfl, ?_⟩) ?_
    · intro w; go_simp; all_goals (first | exact HSe.out | (rw [HSe.out]; done))
    try simp only [Act.put, List.setIfInBounds_toArray, List.set_cons_zero, List.set_cons_succ]
    refine wpAny_take (i := 12) (oi := { dst := some 79, op := Op.binOp BinOp.rem 3 (Operand.tmp 78) (Operand.const (Value.int IntKind.i64 2)) 3, type := 3, pos := "wide.go:27", after := #[{ on := 11, ground := Ground.data }, { on := 6, ground := Ground.guard }], guard := some (6, true) }) (v := .int .i64 (sh % 2)) rfl (by kernel_rfl) (by kernel_rfl) (by kernel_rfl) (fun _ _ _ h => h) (Or.inl ⟨by rfl, ?_⟩) ?_
    · intro w; go_simp; all_goals (first | with_reducible rfl | (simp [hx1]; done) | (rw [Int.tmod_eq_emod_of_nonneg hs0]; done) | (rw [Int.tmod_eq_emod_of_nonneg hs0]; exact hx1))
    try simp only [Act.put, List.setIfInBounds_toArray, List.set_cons_zero, List.set_cons_succ]
    refine wpAny_take (i := 13) (oi := { dst := some 80, op := Op.binOp BinOp.eql 3 (Operand.tmp 79) (Operand.const (Value.int IntKind.i64 1)) 3, type := 4, pos := "wide.go:27", after := #[{ on := 12, ground := Ground.data }, { on := 6, ground := Ground.guard }], guard := some (6, true) }) (v := .bool false) rfl (by kernel_rfl) (by kernel_rfl) (by kernel_rfl) (fun _ _ _ h => h) (Or.inl ⟨by rfl, ?_⟩) ?_
    · intro w; go_simp; all_goals (first | with_reducible rfl | (simp [hx1]; done) | (rw [Int.tmod_eq_emod_of_nonneg hs0]; done) | (rw [Int.tmod_eq_emod_of_nonneg hs0]; exact hx1))
    try simp only [Act.put, List.setIfInBounds_toArray, List.set_cons_zero, List.set_cons_succ]
    refine wpAny_take (i := 14) (oi := { dst := some 81, op := Op.binOp BinOp.eql 4 (Operand.tmp 75) (Operand.tmp 80) 4, type := 4, pos := "wide.go:27", after := #[{ on := 8, ground := Ground.data }, { on := 13, ground := Ground.data }, { on := 6, ground := Ground.guard }], guard := some (6, true) }) (v := .bool true) rfl (by kernel_rfl) (by kernel_rfl) (by kernel_rfl) (fun _ _ _ h => h) (Or.inl ⟨by rfl, ?_⟩) ?_
    · intro w; go_simp; all_goals (first | with_reducible rfl | (simp [hx1]; done) | (rw [Int.tmod_eq_emod_of_nonneg hs0]; done) | (rw [Int.tmod_eq_emod_of_nonneg hs0]; exact hx1))
    try simp only [Act.put, List.setIfInBounds_toArray, List.set_cons_zero, List.set_cons_succ]
    refine wpAny_take (i := 15) (oi := { dst := some 82, op := Op.pick (Operand.tmp 73) (Operand.tmp 81) (Operand.const (Value.bool false)), type := 4, pos := "wide.go:27", after := #[{ on := 6, ground := Ground.data }, { on := 14, ground := Ground.data }], guard := none }) (v := .bool true) rfl (by kernel_rfl) (by kernel_rfl) (by kernel_rfl) (fun _ _ _ h => h) (Or.inl ⟨by rfl, ?_⟩) ?_
    · intro w; go_simp; all_goals (first | with_reducible rfl | (simp [hx1]; done) | (rw [Int.tmod_eq_emod_of_nonneg hs0]; done) | (rw [Int.tmod_eq_emod_of_nonneg hs0]; exact hx1))
    try simp only [Act.put, List.setIfInBounds_toArray, List.set_cons_zero, List.set_cons_succ]
    refine wpAny_take (i := 16) (oi := { dst := some 83, op := Op.move (Operand.tmp 82), type := 4, pos := "wide.go:27", after := #[{ on := 15, ground := Ground.data }, { on := 6, ground := Ground.chain }], guard := none }) (v := .bool true) rfl (by kernel_rfl) (by kernel_rfl) (by kernel_rfl) (fun _ _ _ h => h) (Or.inl ⟨by rfl, ?_⟩) ?_
    · intro w; go_simp; all_goals (first | with_reducible rfl | (simp [hx1]; done) | (rw [Int.tmod_eq_emod_of_nonneg hs0]; done) | (rw [Int.tmod_eq_emod_of_nonneg hs0]; exact hx1))
    try simp only [Act.put, List.setIfInBounds_toArray, List.set_cons_zero, List.set_cons_succ]
    refine wpAny_take (i := 17) (oi := { dst := some 84, op := Op.move (Operand.tmp 10), type := 33, pos := "wide.go:27", after := #[{ on := 16, ground := Ground.guard }], guard := some (16, true) }) (v := .nilIface) rfl (by kernel_rfl) (by kernel_rfl) (by kernel_rfl) (fun _ _ _ h => h) (Or.inl ⟨by rfl, ?_⟩) ?_
    · intro w; go_simp; all_goals (first | with_reducible rfl | (simp [hx1]; done) | (rw [Int.tmod_eq_emod_of_nonneg hs0]; done) | (rw [Int.tmod_eq_emod_of_nonneg hs0]; exact hx1))
    try simp only [Act.put, List.setIfInBounds_toArray, List.set_cons_zero, List.set_cons_succ]
    refine wpAny_take (i := 18) (oi := { dst := some 85, op := Op.binOp BinOp.neq 33 (Operand.tmp 84) (Operand.const Value.nilIface) 33, type := 4, pos := "wide.go:27", after := #[{ on := 17, ground := Ground.data }, { on := 16, ground := Ground.guard }], guard := some (16, true) }) (v := .bool false) rfl (by kernel_rfl) (by kernel_rfl) (by kernel_rfl) (fun _ _ _ h => h) (Or.inl ⟨by rfl, ?_⟩) ?_
    · intro w; go_simp; all_goals (first | with_reducible rfl | (simp [hx1]; done) | (rw [Int.tmod_eq_emod_of_nonneg hs0]; done) | (rw [Int.tmod_eq_emod_of_nonneg hs0]; exact hx1))
    try simp only [Act.put, List.setIfInBounds_toArray, List.set_cons_zero, List.set_cons_succ]
    refine wpAny_take (i := 19) (oi := { dst := some 86, op := Op.move (Operand.tmp 11), type := 35, pos := "wide.go:27", after := #[{ on := 16, ground := Ground.guard }], guard := some (16, true) }) (v := .iface t x) rfl (by kernel_rfl) (by kernel_rfl) (by kernel_rfl) (fun _ _ _ h => h) (Or.inl ⟨by rfl, ?_⟩) ?_
    · intro w; go_simp; all_goals (first | with_reducible rfl | (simp [hx1]; done) | (rw [Int.tmod_eq_emod_of_nonneg hs0]; done) | (rw [Int.tmod_eq_emod_of_nonneg hs0]; exact hx1))
    try simp only [Act.put, List.setIfInBounds_toArray, List.set_cons_zero, List.set_cons_succ]
    refine wpAny_take (i := 20) (oi := { dst := some 87, op := Op.binOp BinOp.eql 35 (Operand.tmp 86) (Operand.const Value.nilIface) 35, type := 4, pos := "wide.go:27", after := #[{ on := 19, ground := Ground.data }, { on := 16, ground := Ground.guard }], guard := some (16, true) }) (v := .bool false) rfl (by kernel_rfl) (by kernel_rfl) (by kernel_rfl) (fun _ _ _ h => h) (Or.inl ⟨by rfl, ?_⟩) ?_
    · intro w; go_simp; all_goals (first | with_reducible rfl | (simp [hx1]; done) | (rw [Int.tmod_eq_emod_of_nonneg hs0]; done) | (rw [Int.tmod_eq_emod_of_nonneg hs0]; exact hx1))
    try simp only [Act.put, List.setIfInBounds_toArray, List.set_cons_zero, List.set_cons_succ]
    refine wpAny_take (i := 21) (oi := { dst := some 88, op := Op.binOp BinOp.eql 4 (Operand.tmp 85) (Operand.tmp 87) 4, type := 4, pos := "wide.go:27", after := #[{ on := 18, ground := Ground.data }, { on := 20, ground := Ground.data }, { on := 16, ground := Ground.guard }], guard := some (16, true) }) (v := .bool true) rfl (by kernel_rfl) (by kernel_rfl) (by kernel_rfl) (fun _ _ _ h => h) (Or.inl ⟨by rfl, ?_⟩) ?_
    · intro w; go_simp; all_goals (first | with_reducible rfl | (simp [hx1]; done) | (rw [Int.tmod_eq_emod_of_nonneg hs0]; done) | (rw [Int.tmod_eq_emod_of_nonneg hs0]; exact hx1))
    try simp only [Act.put, List.setIfInBounds_toArray, List.set_cons_zero, List.set_cons_succ]
    refine wpAny_take (i := 22) (oi := { dst := some 89, op := Op.pick (Operand.tmp 83) (Operand.tmp 88) (Operand.const (Value.bool false)), type := 4, pos := "wide.go:27", after := #[{ on := 16, ground := Ground.data }, { on := 21, ground := Ground.data }], guard := none }) (v := .bool true) rfl (by kernel_rfl) (by kernel_rfl) (by kernel_rfl) (fun _ _ _ h => h) (Or.inl ⟨by rfl, ?_⟩) ?_
    · intro w; go_simp; all_goals (first | with_reducible rfl | (simp [hx1]; done) | (rw [Int.tmod_eq_emod_of_nonneg hs0]; done) | (rw [Int.tmod_eq_emod_of_nonneg hs0]; exact hx1))
    try simp only [Act.put, List.setIfInBounds_toArray, List.set_cons_zero, List.set_cons_succ]
    refine wpAny_take (i := 23) (oi := { dst := some 90, op := Op.move (Operand.tmp 89), type := 4, pos := "wide.go:27", after := #[{ on := 22, ground := Ground.data }, { on := 16, ground := Ground.chain }], guard := none }) (v := .bool true) rfl (by kernel_rfl) (by kernel_rfl) (by kernel_rfl) (fun _ _ _ h => h) (Or.inl ⟨by rfl, ?_⟩) ?_
    · intro w; go_simp; all_goals (first | with_reducible rfl | (simp [hx1]; done) | (rw [Int.tmod_eq_emod_of_nonneg hs0]; done) | (rw [Int.tmod_eq_emod_of_nonneg hs0]; exact hx1))
    try simp only [Act.put, List.setIfInBounds_toArray, List.set_cons_zero, List.set_cons_succ]
    refine wpAny_take (i := 24) (oi := { dst := some 91, op := Op.move (Operand.tmp 13), type := 35, pos := "wide.go:27", after := #[{ on := 23, ground := Ground.guard }], guard := some (23, true) }) (v := .nilIface) rfl (by kernel_rfl) (by kernel_rfl) (by kernel_rfl) (fun _ _ _ h => h) (Or.inl ⟨by rfl, ?_⟩) ?_
    · intro w; go_simp; all_goals (first | with_reducible rfl | (simp [hx1]; done) | (rw [Int.tmod_eq_emod_of_nonneg hs0]; done) | (rw [Int.tmod_eq_emod_of_nonneg hs0]; exact hx1))
    try simp only [Act.put, List.setIfInBounds_toArray, List.set_cons_zero, List.set_cons_succ]
    refine wpAny_take (i := 25) (oi := { dst := some 92, op := Op.binOp BinOp.eql 35 (Operand.tmp 91) (Operand.const Value.nilIface) 35, type := 4, pos := "wide.go:27", after := #[{ on := 24, ground := Ground.data }, { on := 23, ground := Ground.guard }], guard := some (23, true) }) (v := .bool true) rfl (by kernel_rfl) (by kernel_rfl) (by kernel_rfl) (fun _ _ _ h => h) (Or.inl ⟨by rfl, ?_⟩) ?_
    · intro w; go_simp; all_goals (first | with_reducible rfl | (simp [hx1]; done) | (rw [Int.tmod_eq_emod_of_nonneg hs0]; done) | (rw [Int.tmod_eq_emod_of_nonneg hs0]; exact hx1))
    try simp only [Act.put, List.setIfInBounds_toArray, List.set_cons_zero, List.set_cons_succ]
    refine wpAny_take (i := 26) (oi := { dst := some 93, op := Op.pick (Operand.tmp 90) (Operand.tmp 92) (Operand.const (Value.bool false)), type := 4, pos := "wide.go:27", after := #[{ on := 23, ground := Ground.data }, { on := 25, ground := Ground.data }], guard := none }) (v := .bool true) rfl (by kernel_rfl) (by kernel_rfl) (by kernel_rfl) (fun _ _ _ h => h) (Or.inl ⟨by rfl, ?_⟩) ?_
    · intro w; go_simp; all_goals (first | with_reducible rfl | (simp [hx1]; done) | (rw [Int.tmod_eq_emod_of_nonneg hs0]; done) | (rw [Int.tmod_eq_emod_of_nonneg hs0]; exact hx1))
    try simp only [Act.put, List.setIfInBounds_toArray, List.set_cons_zero, List.set_cons_succ]
    refine wpAny_take (i := 27) (oi := { dst := some 94, op := Op.move (Operand.tmp 93), type := 4, pos := "wide.go:27", after := #[{ on := 26, ground := Ground.data }, { on := 23, ground := Ground.chain }], guard := none }) (v := .bool true) rfl (by kernel_rfl) (by kernel_rfl) (by kernel_rfl) (fun _ _ _ h => h) (Or.inl ⟨by rfl, ?_⟩) ?_
    · intro w; go_simp; all_goals (first | with_reducible rfl | (simp [hx1]; done) | (rw [Int.tmod_eq_emod_of_nonneg hs0]; done) | (rw [Int.tmod_eq_emod_of_nonneg hs0]; exact hx1))
    try simp only [Act.put, List.setIfInBounds_toArray, List.set_cons_zero, List.set_cons_succ]
    refine wpAny_take (i := 28) (oi := { dst := some 95, op := Op.move (Operand.tmp 12), type := 33, pos := "wide.go:27", after := #[{ on := 27, ground := Ground.guard }], guard := some (27, true) }) (v := .iface t7 x7) rfl (by kernel_rfl) (by kernel_rfl) (by kernel_rfl) (fun _ _ _ h => h) (Or.inl ⟨by rfl, ?_⟩) ?_
    · intro w; go_simp; all_goals (first | with_reducible rfl | (simp [hx1]; done) | (rw [Int.tmod_eq_emod_of_nonneg hs0]; done) | (rw [Int.tmod_eq_emod_of_nonneg hs0]; exact hx1))
    try simp only [Act.put, List.setIfInBounds_toArray, List.set_cons_zero, List.set_cons_succ]
    refine wpAny_take (i := 29) (oi := { dst := some 96, op := Op.binOp BinOp.neq 33 (Operand.tmp 95) (Operand.const Value.nilIface) 33, type := 4, pos := "wide.go:27", after := #[{ on := 28, ground := Ground.data }, { on := 27, ground := Ground.guard }], guard := some (27, true) }) (v := .bool true) rfl (by kernel_rfl) (by kernel_rfl) (by kernel_rfl) (fun _ _ _ h => h) (Or.inl ⟨by rfl, ?_⟩) ?_
    · intro w; go_simp; all_goals (first | with_reducible rfl | (simp [hx1]; done) | (rw [Int.tmod_eq_emod_of_nonneg hs0]; done) | (rw [Int.tmod_eq_emod_of_nonneg hs0]; exact hx1))
    try simp only [Act.put, List.setIfInBounds_toArray, List.set_cons_zero, List.set_cons_succ]
    refine wpAny_take (i := 30) (oi := { dst := some 97, op := Op.pick (Operand.tmp 94) (Operand.tmp 96) (Operand.const (Value.bool false)), type := 4, pos := "wide.go:27", after := #[{ on := 27, ground := Ground.data }, { on := 29, ground := Ground.data }], guard := none }) (v := .bool true) rfl (by kernel_rfl) (by kernel_rfl) (by kernel_rfl) (fun _ _ _ h => h) (Or.inl ⟨by rfl, ?_⟩) ?_
    · intro w; go_simp; all_goals (first | with_reducible rfl | (simp [hx1]; done) | (rw [Int.tmod_eq_emod_of_nonneg hs0]; done) | (rw [Int.tmod_eq_emod_of_nonneg hs0]; exact hx1))
    try simp only [Act.put, List.setIfInBounds_toArray, List.set_cons_zero, List.set_cons_succ]
    refine wpAny_take (i := 31) (oi := { dst := some 4, op := Op.assign (Operand.tmp 97), type := 4, pos := "wide.go:27", after := #[{ on := 30, ground := Ground.data }, { on := 27, ground := Ground.chain }, { on := 0, ground := Ground.phase }, { on := 1, ground := Ground.phase }, { on := 2, ground := Ground.phase }, { on := 3, ground := Ground.phase }, { on := 4, ground := Ground.phase }, { on := 5, ground := Ground.phase }, { on := 6, ground := Ground.phase }, { on := 7, ground := Ground.phase }, { on := 8, ground := Ground.phase }, { on := 9, ground := Ground.phase }, { on := 10, ground := Ground.phase }, { on := 11, ground := Ground.phase }, { on := 12, ground := Ground.phase }, { on := 13, ground := Ground.phase }, { on := 14, ground := Ground.phase }, { on := 15, ground := Ground.phase }, { on := 16, ground := Ground.phase }, { on := 17, ground := Ground.phase }, { on := 18, ground := Ground.phase }, { on := 19, ground := Ground.phase }, { on := 20, ground := Ground.phase }, { on := 21, ground := Ground.phase }, { on := 22, ground := Ground.phase }, { on := 23, ground := Ground.phase }, { on := 24, ground := Ground.phase }, { on := 25, ground := Ground.phase }, { on := 26, ground := Ground.phase }, { on := 27, ground := Ground.phase }, { on := 28, ground := Ground.phase }, { on := 29, ground := Ground.phase }, { on := 30, ground := Ground.phase }], guard := none }) (v := .bool true) rfl (by kernel_rfl) (by kernel_rfl) (by kernel_rfl) (fun _ _ _ h => h) (Or.inl ⟨by rfl, ?_⟩) ?_
    · intro w; go_simp; all_goals (first | with_reducible rfl | (simp [hx1]; done) | (rw [Int.tmod_eq_emod_of_nonneg hs0]; done) | (rw [Int.tmod_eq_emod_of_nonneg hs0]; exact hx1))
    try simp only [Act.put, List.setIfInBounds_toArray, List.set_cons_zero, List.set_cons_succ]
    refine wpAny_done (by kernel_rfl) ?_ _
    go_wp2
    go_ret
    exact ⟨rfl, keepE HB7.out HBx.out⟩
theorem sourceAble_walk (a0 a1 : Int) (w : World) (hm : a0 ≤ 9223372036854775807) : Calls Try.prog 6 #[.int .i64 a0, .int .i64 a1] w fun e w' => e = .returned (.bool true) ∧ Below w.heap.size w w' := by
  by_cases h1 : a1 < 0
  · exact sourceAble_far a0 a1 w (.inl h1)
  · by_cases h2 : 4 < a1
    · exact sourceAble_far a0 a1 w (.inr (.inl h2))
    · by_cases h3 : a0 < 0
      · exact sourceAble_far a0 a1 w (.inr (.inr h3))
      · exact sourceAble_near a0 a1 w (by omega) hm (by omega) (by omega)
end Go.Proofs.Ytpdkjifalgeodaa
