/- The law of lines and words: for all bytes the law returns true. No condition. -/
import Derived.Test.YtmnkdfecclbgfaaRows
import Derived.WalkKit
import Derived.ProofKit
import Derived.OpenShut
import Derived.ShutString
import Derived.ChangeOld
import Derived.Below
import Derived.Test.YtmnkdfecclbgfaaBg
import Derived.Test.YtmnkdfecclbgfaaRz
import Derived.LoopTactic
namespace Go.Proofs.Ytmnkdfecclbgfaa.textLines
open Go.ChangeShapes Go.WideShapes Go.ChangeAt Go.RowKit
open Go.ChangeMaps (open_string shut_string)
set_option linter.unusedVariables false

theorem own : ownKnob Try.prog.godebug = none := by kernel_rfl
theorem laidOut : laidOutB Try.prog = true := by kernel_rfl

/-- WHAT THE WALK IS TOLD OF A SLICE OF INTEGERS THAT CAME IN: it is nil; or it leads to a row of 'cap' cells, the numbers 'zs' (the first 'len' are its elements, the rest its spare room), each fitting its kind. -/
def IsRow (k : IntKind) (w : World) (a : Option Addr) (len cap : Nat) (zs : List Int) : Prop :=
  (a = none ∧ len = 0 ∧ cap = 0 ∧ zs = []) ∨
  ∃ x, a = some x ∧ len ≤ cap ∧ cap ≤ maxLen ∧ zs.length = cap ∧ (∀ i, i < zs.length → w.cell? (x.add i) = some (.int k (zs.getD i 0))) ∧ ∀ n ∈ zs, (Lit.int k n).wf = true

open Go.Tx

theorem below_drew {B : Nat} {a w : World} (h : Below B a w) (q : Nat) : Below B a (w.drewN q) := ⟨h.os, h.tape, h.output, h.size, h.block⟩
/-- The law behind its first lines, at bytes that are not too many. -/
theorem walk_at (a0 : Option Addr) (len0 n c : Nat) (l : List UInt8) (w : World) (h : BA w a0 n c l) (hold : ∀ x, a0 = some x → x.block < w.heap.size) (hn : n ≤ 1500)
    (hsh : ∀ W, Calls Try.prog 13 #[.slice a0 len0 c, .int .i64 1500] W fun e w' => e = .returned (.slice a0 n c) ∧ W = w') :
    Calls Try.prog 7 #[.slice a0 len0 c] w fun e w' => e = .returned (.bool true) ∧ Below w.heap.size w w' := by
  have HSH := Lib.hid hsh
  have HBA := Lib.hid h
  have HOLD := Lib.hid hold
  clear hsh h hold
  go_enter Try.func7, Try.ntmps7
  go_wp2_with (first | (go_at_call 39; refine (begun2 _).mono ?_; rintro e w2 ⟨rfl, hb⟩) | (go_at_call 13; refine (HSH.out _).mono ?_; rintro e w3 ⟨rfl, rfl⟩) | (go_at_call 40; refine (lines_any a0 n c l _ (HBA.out.below hb HOLD.out) (fun x hx => Nat.lt_of_lt_of_le (HOLD.out x hx) hb.size) (by omega)).mono ?_; rintro e w4 ⟨v, rfl, hl, hb4⟩; obtain ⟨p1, c1, rfl⟩ := hl.shape; have HL4 := Lib.hid hl; clear hl) | (go_at_call 41; refine (rlines_any a0 n c l _ ((HBA.out.below hb HOLD.out).below hb4 (fun x hx => Nat.lt_of_lt_of_le (HOLD.out x hx) hb.size)) (fun x hx => Nat.lt_of_lt_of_le (Nat.lt_of_lt_of_le (HOLD.out x hx) hb.size) hb4.size) (by omega)).mono ?_; rintro e w5 ⟨v, rfl, hl, hb5⟩; obtain ⟨p2, c2, rfl⟩ := hl.shape; have HL5 := Lib.hid hl; clear hl))
  obtain ⟨_, _, e1, hc1, hm1, hr1⟩ := ((LinesC.of HL4.out).below hb5).read
  obtain ⟨_, _, e2, hc2, hm2, hr2⟩ := HL5.out.read
  cases e1
  cases e2
  have HR1 := Lib.hid hr1
  have HR2 := Lib.hid hr2
  have HBEL := Lib.hid (hb.trans ((hb4.trans (hb5.mono hb4.size)).mono hb.size))
  clear hr1 hr2 HL4 HL5 hb hb4 hb5
  generalize toldG 1 [] l = T at HR1 HR2 hc1 hc2 ⊢
  obtain ⟨K, hK⟩ : ∃ K, T.length = K := ⟨_, rfl⟩
  rw [hK] at hc1 hc2 ⊢
  have HK := Lib.hid hK
  clear hK
  go_loopw [6] (fun i wr => ∃ k : Nat, k ≤ K ∧ i = .int .i64 k ∧ Below w5.heap.size w5 wr) (fun i _ => K - (intOf i).toNat)
  case atStart => exact ⟨0, Nat.zero_le _, rfl, Below.refl _ _⟩
  case round =>
    obtain ⟨k, hk, rfl, hbw⟩ := hrel
    by_cases hlt : k < K
    · obtain ⟨⟨no, ws⟩, hT⟩ : ∃ x, T[k]? = some x := ⟨_, List.getElem?_eq_getElem (by rw [HK.out]; exact hlt)⟩
      obtain ⟨g1, rfl, x1, q1, cc1, y1, z1⟩ := HR1.out k no ws hT
      obtain ⟨g2, rfl, x2, q2, cc2, y2, z2⟩ := HR2.out k no ws hT
      have cellAt : ∀ (g j : Nat) (v : Value), w5.cell? ⟨g, j, none⟩ = some v → wr.cell? ⟨g, j, none⟩ = some v := fun g j v h => (hbw.cell (p := ⟨g, j, none⟩) (World.block_lt_of_cell? w5 _ h)).trans h
      rw [Nat.mul_comm] at x1 y1 x2 y2
      have x1 := cellAt _ _ _ x1
      have y1 := cellAt _ _ _ y1
      have x2 := cellAt _ _ _ x2
      have y2 := cellAt _ _ _ y2
      have HZ1 := Lib.hid (own_below z1 hbw)
      have HZ2 := Lib.hid (own_below z2 hbw)
      clear cellAt z1 z2 hT
      go_wp2
      go_quiet ((go_at_call 42; exact Calls.quiet_of (eqtexts_any _ _ ws _ _ _ (own_drewN HZ1.out _) (own_drewN HZ2.out _))))
      go_wp2
      go_roundw
      case rel => exact ⟨k + 1, hlt, by go_num, below_drew hbw _⟩
      case measure => simp [intOf]; omega
    · go_wp2
      go_ret
      exact ⟨rfl, HBEL.out.trans (hbw.mono HBEL.out.size)⟩
theorem walk_zero (a0 : Option Addr) (w : World) : Calls Try.prog 7 #[.slice a0 0 0] w fun e w' => e = .returned (.bool true) ∧ Below w.heap.size w w' := by
  go_enter Try.func7, Try.ntmps7
  go_wp2_with (first | (go_at_call 39; refine (begun2 _).mono ?_; rintro e w2 ⟨rfl, hb⟩) | (go_at_call 13; refine (short_le a0 0 0 1500 _ (by omega) (by omega) (by omega)).mono ?_; rintro e w3 ⟨rfl, rfl⟩) | (go_at_call 40; refine (lines_zero a0 _).mono ?_; rintro e w4 ⟨rfl, rfl⟩) | (go_at_call 41; refine (rlines_zero a0 _).mono ?_; rintro e w5 ⟨rfl, rfl⟩))
  go_loop [6] (fun i => i = .int .i64 0) (fun _ => 0)
  case atStart => rfl
  case round =>
    subst hrel
    go_wp2
    go_ret
    exact ⟨rfl, hb⟩

set_option maxHeartbeats 4000000 in
set_option maxRecDepth 100000 in
theorem walk (a0 : Option Addr) (len0 cap0 : Nat) (z0 : List Int) (w : World) (w0 : IsRow .u8 w a0 len0 cap0 z0) :
    Calls Try.prog 7 #[.slice a0 len0 cap0] w fun e w' => e = .returned (.bool true) ∧ Below w.heap.size w w' := by
  rcases w0 with ⟨rfl, rfl, rfl, rfl⟩ | ⟨x, rfl, hle, hmax, hlen, hcell, hwf⟩
  · exact walk_zero none w
  · unfold maxLen at hmax
    by_cases hc : cap0 = 0
    · obtain rfl : len0 = 0 := by omega
      subst hc
      exact walk_zero _ w
    · have hblk : x.block < w.heap.size := by
        have := World.block_lt_of_cell? w _ (hcell 0 (by omega))
        have e : (x.add 0).block = x.block := by unfold Addr.add; split <;> rfl
        rw [e] at this
        exact this
      have hba : BA w (some x) len0 cap0 ((z0.take len0).map fun z => UInt8.ofNat z.toNat) := by
        refine ⟨by simp; omega, hle, by omega, (fun h => by cases h), fun y hy j b hj => ?_⟩
        cases hy
        have hjl := (List.getElem?_eq_some_iff.1 hj).1
        simp at hjl
        rw [hcell j (by omega)]
        rw [List.getElem?_map, List.getElem?_take, if_pos (by omega), List.getElem?_eq_getElem (by omega)] at hj
        cases hj
        have hw := hwf z0[j] (List.getElem_mem _)
        have hw := bounds_u8 hw
        rw [List.getD_eq_getElem?_getD, List.getElem?_eq_getElem (by omega)]
        have e : ((UInt8.ofNat z0[j].toNat).toNat : Int) = z0[j] := by
          simp
          omega
        rw [e]
        rfl
      by_cases hl : len0 ≤ 1500
      · exact walk_at (some x) len0 len0 cap0 _ w hba (fun y hy => by cases hy; exact hblk) hl fun W => short_le _ _ _ 1500 _ hle (by omega) hl
      · exact walk_at (some x) len0 1500 cap0 _ w (hba.take (i := 1500) (by omega)) (fun y hy => by cases hy; exact hblk) (by omega) fun W => short_gt _ _ _ 1500 _ hle (by omega) (by omega)

/-! ### THE ROW's STEP: WRITTEN OUT: LEAVE IT -/
set_option maxRecDepth 100000 in
theorem lifted (os : Os) (started : os.Started) (H : Type) (enc : TypeId × Value → H) :
    ReturnsInHanded {} Try.checked os 7 .any (Rows.textLinesSpec.pre6 enc Try.prog Try.f7 Rows.textLinesRow.domain false) (Rows.textLinesSpec.post enc Try.prog Try.f7 false true false false) := by
  refine returnsInHanded_of_change (C := Try.checked) own started (by kernel_rfl) Try.func7
    (ChangeSpec.witness6 (enc := enc) (C := Try.checked) false ⟨#[], #[.slice none 0 0], []⟩ 8 (by kernel_rfl) (by kernel_rfl) (by kernel_rfl) (by kernel_rfl)) ?_
  intro W base args ds gs before hval0 hW hcnd _
  have hval : ∀ (j : Nat) t v, Try.f7.params[j]? = some t → args[j]? = some v → Value.okWide Try.prog W .any base t v := hval0
  have hW' := hW
  obtain ⟨p, q, hA0, hV, rfl, hfz, hnd⟩ := hW
  have hA : DataW.TrodAll enc Try.prog W 0 (fun _ => true) true Try.f7.params.toList args.toList ds p := hA0
  rw [Try.params7] at hA hval
  obtain ⟨v0, vs0, d0, ds0, p0, q0, hargs, rfl, rfl, h0, r0⟩ := trodAll_cons hA
  obtain ⟨rfl, rfl, rfl⟩ := trodAll_nil r0
  obtain rfl : args = #[v0] := by cases args; simp_all
  obtain ⟨rfl, rfl⟩ := trodVars_none hV
  obtain ⟨a0, len0, cap0, rfl⟩ := okWide_slice Try.underlying33 (hval 0 33 v0 rfl rfl)
  have k0 := h0
  have lt0 : ∀ x ∈ p0, x.block < W.heap.size := by obtain ⟨m, hm⟩ := k0; exact DataW.trod_lt m _ _ _ hm
  obtain ⟨z0, w0⟩ : ∃ zs, IsRow .u8 W a0 len0 cap0 zs := by
    obtain ⟨fuel, hf⟩ := h0
    rcases open_ints Try.underlying33 Try.underlying5 (by kernel_rfl) hf with ⟨hcs, _⟩ | ⟨x, l, c, zs, hcs, _, hl, hm, hz, _, hcell, hwz⟩
    · simp [Value.cells] at hcs
      obtain ⟨rfl, rfl, rfl⟩ := hcs
      exact ⟨[], .inl ⟨rfl, rfl, rfl, rfl⟩⟩
    · simp [Value.cells] at hcs
      obtain ⟨rfl, rfl, rfl⟩ := hcs
      exact ⟨zs, .inr ⟨_, rfl, hl, hm, by simpa using hz, hcell, hwz⟩⟩
  clear hA0 hval0
  refine (walk a0 len0 cap0 z0 W w0).mono fun e W' ⟨he, bel⟩ => ?_
  subst he
  exact ⟨_, rfl, _, _, _, [], _, [], hW', trodAll_mk1 (shut_bool Try.underlying4 _), (trodAll_cons_mk (Below.trod laidOut (by kernel_rfl) (of_decide_eq_true (by kernel_rfl)) k0 bel lt0) trodAll_mk0), rfl, bel.frame _, fun h => by cases h⟩

theorem over : Rows.textLinesRow.holds Try.pinned (OpenSpec.ofChange Rows.textLinesSpec) :=
  OpenClaim.holds_of_wide 7 Try.f7 rfl rfl rfl rfl rfl rfl rfl ⟨rfl, rfl, rfl, rfl, rfl⟩ rfl rfl rfl rfl rfl (by kernel_rfl) Try.func7 (by kernel_rfl)
    (of_decide_eq_true (by kernel_rfl)) (by unfold Func.isWrapper; first | (rw [if_pos (by decide +kernel)]; kernel_rfl) | (rw [if_neg (by decide +kernel)]; exact ⟨rfl, rfl⟩))
    (fun os started H enc _ => lifted os started H enc)

/-- ████ THE STATEMENT ████ -/
theorem proved : Rows.TextLinesSaid := over
end Go.Proofs.Ytmnkdfecclbgfaa.textLines
