/- The laws' begun. -/
import Derived.Test.YtpdkjifalgeodaaSv
namespace Go.Proofs.Ytpdkjifalgeodaa
open Go.RowKit Go.Extern.Stop Go.Stop Go.Extern Go.Lib Go.Tx
theorem wpList_build_three {P : Program} {ops : Array Oper} {rest : List Oper} {o : Oper} {a : Act} {w : World} {Q : Exit → Act → World → Prop} (hg : o.guard = none) (t : TypeId) (i j k : Nat) (x y z : Operand) (ho : o.op = .build t #[(i, x), (j, y), (k, z)]) (v u r : Value) (hv : a.eval x = v) (hu : a.eval y = u) (hr : a.eval z = r) (cells : Array Value)
    (hb : P.built t [(i, v), (j, u), (k, r)] = some cells) (h : wpList P ops Q rest (a.put o.dst (.agg cells)) w) : wpList P ops Q (o :: rest) a w := by
  have e : ((#[(i, x), (j, y), (k, z)] : Array (Nat × Operand)).map fun (i, x) => (i, a.eval x)).toList = [(i, v), (j, u), (k, r)] := by simp [hv, hu, hr]
  exact wpList_build hg t _ ho (by rw [e, hb]; rfl) (by rw [e, hb]; exact h)
abbrev sA : ByteArray := ⟨#[97]⟩
/-- The source that begun makes. -/
def dA : DefL := ⟨sA, true, false, false, false, false, false, 0, 0, false, 0, false, none, 0, 0, none, 0, 0, 5, 0, none, 0, 0, false⟩
theorem builtA : Program.built Try.prog 28 [(0, .string sA), (1, .bool true), (8, .agg #[.slice none 0 0, .slice none 0 0, .int .i64 5, .int .i64 0])] = some (defC dA) := by unfold defC dA; kernel_rfl
theorem dA_T (w : World) (b : Nat) : DefT w b dA [] [] [] :=
  ⟨fun _ _ _ => ⟨0, World.ownsRow_nil _ _ _ _⟩, fun _ _ _ => ⟨0, World.ownsRow_nil _ _ _ _⟩, fun _ _ _ => ⟨rfl, Nat.le_refl _, by unfold maxLen; decide, fun _ => rfl, fun h => absurd h (by decide)⟩, by decide, by decide, by decide⟩
def D1 : DataW Value := (DataW.map []).put (keyS sA) (.held (srcV dA))
theorem keys_D1 : strKeys D1 = [[97]] := by rfl
theorem has_D1 : Go.Maps.has D1 (keyS sA) = true := Go.Maps.has_put_same ⟨_, rfl⟩ (show Go.WideAt.IsKeyLit (keyS sA) from trivial) _
theorem get_D1 : getV D1 sA = srcV dA := getV_put ⟨_, rfl⟩ sA _
theorem sort_one {ss : List (List UInt8)} (h : ss.Perm (strKeys D1)) : ss.mergeSort leS = [[97]] := by
  rw [keys_D1] at h
  rw [List.perm_singleton.1 h]
  simp
theorem srcE (t : TypeId) (x : Value) (w : World) : (binOp .eql 39 (.iface t x) .nilIface).run Try.prog w = .ok (.bool false) w := run_eql_iface_nil w _ (by kernel_rfl) _ _
theorem RegAt.mlt {w : World} {K r m : Nat} {D : DataW Value} (h : RegAt w K r (some m) D) : m < w.heap.size := by
  obtain ⟨n, _, _, ho⟩ := h.got
  exact ho.lt
/-- A registry that has the one source. -/
structure RegA (w : World) (r m : Nat) (B : Nat) : Prop where
  reg : RegAt w 1 r (some m) D1
  rB : B ≤ r
  mB : B ≤ m
set_option maxHeartbeats 4000000 in
set_option maxRecDepth 100000 in
theorem begun12_any (w : World) : Calls Try.prog 7 #[] w fun e w' => e = .returned (.bool true) ∧ Below w.heap.size w w' := by
  have e1 := ptrE
  have e2 := srcE
  have e3 := neqN
  have e4 := nilN
  have bA := builtA
  have HMk : Hid (∀ W, Calls Try.prog 10 #[.agg (defC dA)] W fun e w' => e = .returned (srcV dA) ∧ w' = W.alloc (.cells (defC dA) 28)) := Lib.hid (fun W => make_any dA W)
  have HPu : Hid (∀ W r, RegAt W 0 r none (.map []) → Calls Try.prog 20 #[.pointer (some ⟨r, 0, none⟩), srcV dA] W fun e w' => e = .returned (.tuple #[]) ∧ ∃ m, W.heap.size ≤ m ∧ RegAt w' 1 r (some m) D1 ∧ ButL W.heap.size [r] W w') := Lib.hid (fun W r h => put_none dA W 0 r (.map []) h (by decide) (by unfold maxLen; decide))
  have HGe : Hid (∀ W r m, RegAt W 1 r (some m) D1 → Calls Try.prog 21 #[.pointer (some ⟨r, 0, none⟩), .string sA] W fun e w' => e = .returned (.tuple #[srcV dA, .bool true]) ∧ W = w') := Lib.hid (fun W r m h => by
    have := get_any W 1 r m D1 h sA (by unfold maxLen; decide)
    rw [get_D1, has_D1] at this
    exact this)
  have HNm : Hid (∀ W r m, RegAt W 1 r (some m) D1 → Calls Try.prog 23 #[.pointer (some ⟨r, 0, none⟩)] W fun e w' => ∃ g c, e = .returned (.slice (some ⟨g, 0, none⟩) 1 c) ∧ w'.cell? ⟨g, 0, none⟩ = some (.string sA) ∧ Below W.heap.size W w') := Lib.hid (fun W r m h => by
    refine (names_any W 1 r m D1 h (by decide)).mono ?_
    rintro e w' ⟨v, ss, he, hp, hs, hb⟩
    rw [sort_one hp] at hs
    obtain ⟨p, c, rfl, _, _, hr⟩ := hs.read
    obtain ⟨g, rfl, _, hc⟩ := hr 0 [97] rfl
    exact ⟨g, c, he, hc, hb⟩)
  have HBg : Hid (∀ W, Calls Try.prog 9 #[srcV dA, .agg #[.int .i64 1, .string ⟨#[]⟩, .string ⟨#[]⟩, .int .i64 0]] W fun e w' => ∃ b ov, e = .returned (.tuple #[ov, .nilIface]) ∧ OpAt w' dA 0 0 b ov ∧ W.heap.size ≤ b ∧ Below W.heap.size W w') := Lib.hid (fun W => begin_ok dA 1 ⟨#[]⟩ ⟨#[]⟩ 0 W (by decide) (by decide) (by decide))
  have HPo : Hid (∀ W b ov, OpAt W dA 0 0 b ov → Calls Try.prog 15 #[.string sA, ov] W fun e w' => (∃ p1 c1 p2 c2 p' c', e = .returned (.tuple #[.agg #[.slice p1 0 c1, .slice p2 0 c2, .int .i64 5, .int .i64 0], .slice p' 0 c', .nilIface, .bool true])) ∧ ButL W.heap.size [b] W w') := Lib.hid (fun W b ov ho => by
    refine (spoll_done sA dA 0 0 b ov [] [] [] W ho (dA_T W b) (by decide) (by decide) (by decide) rfl).mono ?_
    rintro e w' ⟨⟨v1, v2, p', c', er, he, h1, h2, _, h4⟩, hb⟩
    obtain ⟨p1, c1, rfl⟩ := h1.shape
    obtain ⟨p2, c2, rfl⟩ := h2.shape
    obtain rfl : er = .nilIface := h4
    exact ⟨⟨p1, c1, p2, c2, p', c', he⟩, hb⟩)
  obtain ⟨ta, hta⟩ := srcV_iface dA
  have HTa := Lib.hid hta
  rw [hta] at HMk HPu HBg HGe
  clear hta
  generalize hda : defC dA = cA at *
  clear hda
  go_enter Try.func7, Try.ntmps7
  go_upto_region 4 with (go_at_call 19; refine (new_any _).mono ?_; rintro e w1 ⟨rfl, hw1⟩; have HR1 : Hid (RegAt w1 0 w.heap.size none (.map [])) := Lib.hid (by rw [hw1]; exact RegAt.new w); have HB1 : Hid (Below w.heap.size w w1) := Lib.hid (by rw [hw1]; exact al_bel w _); have HZ1 : Hid (w1.heap.size = w.heap.size + 1) := Lib.hid (by rw [hw1, al_size]); clear hw1)
  go_upto_region 5 with (first
    | (with_reducible refine wpList_build_three rfl 28 _ _ _ _ _ _ rfl (.string sA) (.bool true) (.agg #[.slice none 0 0, .slice none 0 0, .int .i64 5, .int .i64 0]) rfl rfl rfl cA bA ?_)
    | (go_at_call 10; refine (HMk.out _).mono ?_; rintro e w2 ⟨rfl, hw2⟩; have HB2 : Hid (Below w1.heap.size w1 w2) := Lib.hid (by rw [hw2]; exact al_bel _ _); have HR2 := Lib.hid (HR1.out.below HB2.out); clear hw2)
    | (go_at_call 20; refine (HPu.out _ _ HR2.out).mono ?_; rintro e w3 ⟨rfl, m, hm, hr3, hb3⟩; have HR3 := Lib.hid hr3; have HB3 := Lib.hid hb3; have HM := Lib.hid hm; have HML : Hid (m < w3.heap.size) := Lib.hid hr3.mlt; have HB3x : Hid (Below w.heap.size w w3) := Lib.hid (by exact ((ButL.of_below (S := []) (keepE HB1.out HB2.out)).but hb3 (Nat.le_trans HB1.out.size HB2.out.size) (by intro k hk; rw [List.mem_singleton] at hk; right; omega)).toBelow); have HZ3 : Hid (w.heap.size < w3.heap.size) := Lib.hid (lt_of hr3.cell); clear hr3 hb3 hm))
  go_upto_region 8 with (go_at_call 21; refine (HGe.out _ _ _ HR3.out).mono ?_; rintro e w4 ⟨rfl, rfl⟩)
  go_upto_region 11 with (go_at_call 9; refine (HBg.out _).mono ?_; rintro e w5 ⟨b, ov, rfl, ho5, hb5, hbl⟩; have HO5 := Lib.hid ho5; have HB5 := Lib.hid hb5; have HR5 := Lib.hid (HR3.out.below hbl); have HL5 : Hid (Below w.heap.size w w5 ∧ w.heap.size ≠ b ∧ m ≠ b) := Lib.hid ⟨keepE (HB3x.out) hbl, by have := HZ3.out; omega, by have := HML.out; omega⟩; have hsh := ho5.iface; clear ho5 hb5 hbl; obtain ⟨tq, rfl⟩ := hsh)
  go_upto_region 13 with (first
    | (go_at_call 15; refine (HPo.out _ _ _ HO5.out).mono ?_; rintro e w6 ⟨⟨p1, c1, p2, c2, p', c', rfl⟩, hb6⟩; have HR6 := Lib.hid (HR5.out.but hb6 (Nat.le_refl _) (by rw [List.mem_singleton]; exact HL5.out.2.1) (by rintro m' e6; cases e6; rw [List.mem_singleton]; exact HL5.out.2.2)); have HB6 : Hid (Below w.heap.size w w6) := Lib.hid (hb6.below HL5.out.1 HL5.out.1.size (by intro k hk; rw [List.mem_singleton] at hk; have := HB5.out; have := HZ3.out; omega)); clear hb6)
    | (go_at_call 23; refine (HNm.out _ _ _ (HR6.out.below (al_bel _ _))).mono ?_; rintro e w7 ⟨g, c7, rfl, hc7, hb7⟩; have HB7 : Hid (Below w.heap.size w w7) := Lib.hid (keepE (keepE HB6.out (al_bel _ _)) hb7); have k2 := cellJ ((hb7.block _ (lt_of (heap_alloc_new w6 _))).trans (heap_alloc_new w6 (.cells #[.slice p1 0 c1, .slice p2 0 c2, .int .i64 5, .int .i64 0] 25))) (j := 2) rfl; clear hb7))
  go_wp2
  go_ret
  exact ⟨rfl, HB7.out⟩
end Go.Proofs.Ytpdkjifalgeodaa
