/- The law of stamps: for all lists of paths the law returns true. No condition. -/
import Derived.Test.YtmnkdfecclbgfaaRows
import Derived.WalkKit
import Derived.ProofKit
import Derived.OpenShut
import Derived.ShutString
import Derived.ChangeOld
import Derived.Below
import Derived.SliceStrings
import Derived.Test.YtmnkdfecclbgfaaWb
namespace Go.Proofs.Ytmnkdfecclbgfaa.worldStamps
open Go.ChangeShapes Go.WideShapes Go.ChangeAt Go.RowKit
open Go.ChangeMaps (open_string shut_string)
set_option linter.unusedVariables false

theorem own : ownKnob Try.prog.godebug = none := by kernel_rfl
theorem laidOut : laidOutB Try.prog = true := by kernel_rfl

/-- A slice of texts that came in: nil, or a row of texts. -/
def IsStrs (w : World) (a : Option Addr) (len cap : Nat) (ss : List ByteArray) : Prop :=
  (a = none ∧ len = 0 ∧ cap = 0 ∧ ss = []) ∨
  ∃ x, a = some x ∧ len ≤ cap ∧ cap ≤ maxLen ∧ ss.length = cap ∧ ∀ i, i < ss.length → w.cell? (x.add i) = some (.string (ss.getD i ByteArray.empty))
open Go.Lib Go.Mp
set_option maxHeartbeats 4000000 in
set_option maxRecDepth 100000 in
theorem walk (a0 : Option Addr) (len0 cap0 : Nat) (z0 : List ByteArray) (w : World) (w0 : IsStrs w a0 len0 cap0 z0) :
    Calls Try.prog 5 #[.slice a0 len0 cap0] w fun e w' => e = .returned (.bool true) ∧ Below w.heap.size w w' := by
  have hle : len0 ≤ cap0 := by
    rcases w0 with ⟨_, rfl, rfl, _⟩ | ⟨_, _, h, _⟩
    · exact Nat.le_refl _
    · exact h
  have hmx : cap0 ≤ 9223372036854775807 := by
    rcases w0 with ⟨_, rfl, rfl, _⟩ | ⟨_, _, _, h, _⟩
    · omega
    · exact h
  have HC : Hid (∀ k, k < len0 → ∃ x, a0 = some x ∧ x.block < w.heap.size ∧ w.cell? (x.add k) = some (.string (z0.getD k ByteArray.empty))) := Lib.hid fun k hk => by
    rcases w0 with ⟨_, rfl, _⟩ | ⟨x, hx, h1, _, h2, h3⟩
    · omega
    · have hc := h3 k (by omega)
      have hb := World.block_lt_of_cell? w _ hc
      have e : (x.add k).block = x.block := by unfold Addr.add; split <;> rfl
      rw [e] at hb
      exact ⟨x, hx, hb, hc⟩
  clear w0
  have hmm := @run_makeMap Try.prog
  go_enter Try.func5, Try.ntmps5
  go_wp2_with (first | (go_at_call 11; refine (begun1 _).mono ?_; rintro e w2 ⟨rfl, hb⟩; have HST := Lib.hid (SI.start w2 z0)) | (go_at_call 12; refine (new_any _).mono ?_; rintro e w3 ⟨rfl, rfl⟩))
  have hbs : Hid (w2.heap.size = w2.heap.size) := Lib.hid rfl
  obtain ⟨b, hbe⟩ : ∃ b, w2.heap.size = b := ⟨_, rfl⟩
  obtain ⟨q, hqe⟩ : ∃ q, w2.heap.size + 1 = q := ⟨_, rfl⟩
  have HST2 : Hid (SI w2 z0 b q 0 none ((w2.alloc zWorld).alloc (.map #[] 0))) := Lib.hid (by have := HST.out; rw [hqe, hbe] at this; exact this)
  rw [hqe, hbe]
  clear HST hqe hbe hmm hbs
  go_loopw [6] (fun i wr => ∃ (k : Nat) (mp : Option Nat), k ≤ len0 ∧ k ≤ 30 ∧ i = .int .i64 k ∧ SI w2 z0 b q k mp wr) (fun i _ => len0 - (intOf i).toNat)
  case atStart => exact ⟨0, none, Nat.zero_le _, by omega, rfl, HST2.out⟩
  case round =>
    obtain ⟨k, mp, hk, hk30, rfl, hS⟩ := hrel
    have HS := Lib.hid hS
    clear hS
    by_cases hlt : k < len0 ∧ k < 30
    · obtain ⟨hlt, hlt30⟩ := hlt
      obtain ⟨x, rfl, hxb, hcell0⟩ := HC.out k hlt
      have hblk : (x.add k).block = x.block := by unfold Addr.add; split <;> rfl
      have hcell : wr.cell? (x.add k) = some (.string (z0.getD k ByteArray.empty)) := by
        rw [HS.out.bel.cell (p := x.add k) (by rw [hblk]; exact Nat.lt_of_lt_of_le hxb hb.size), hb.cell (p := x.add k) (by rw [hblk]; exact hxb)]
        exact hcell0
      clear hcell0 hblk
      obtain ⟨p, hp⟩ : ∃ p, p = z0.getD k ByteArray.empty := ⟨_, rfl⟩
      rw [← hp] at hcell
      have HP := Lib.hid hp
      clear hp
      by_cases h3 : k % 3 = 2
      · have HFV : Hid (fileV k = .agg #[.slice none 0 0, .int .i64 ((k : Int) + 1), .bool false]) := Lib.hid (by simp [fileV, h3])
        have HV : Hid ((FF z0 (k + 1) p).getD zFile = .agg #[.slice none 0 0, .int .i64 ((k : Int) + 1), .bool false]) := Lib.hid (by rw [HP.out, ff_now]; simp [h3])
        have e3 : ((k : Int) % 3 == 2) = true := by simp; omega
        have e4 : ((k : Int) % 3 != 2) = false := by simp; omega
        clear h3
        go_wp2_with (first | (go_at_call 18; refine (remove_any b mp (k : Int) (FF z0 k) p _ HS.out.ws (by omega) (by omega)).mono ?_; rintro e w4 ⟨rfl, m4, hmm4, hws4, ht4⟩; rw [← HFV.out] at hws4) | (at_mapUpdate; refine wpList_mapUpdate_at rfl _ _ _ _ rfl Try.underlying60 Try.underlying9 rfl (HS.out.mine ht4) rfl rfl ?_; intro w5 hm5 hs5 hh5 ho5 ht5 hu5; have HS5 := Lib.hid (HS.out.step HP.out hmm4 hws4 ht4 hm5 hs5 hh5 ho5 ht5 hu5); clear hws4 ht4 hm5 hs5 hh5 ho5 ht5 hu5) | (go_at_call 33; refine (read_any b (some m4) _ ((k : Int) + 1) false (FF z0 (k + 1)) p _ HS5.out.ws HV.out).mono ?_; rintro e w6 ⟨rfl, hb6⟩))
        go_roundw
        case rel => exact ⟨k + 1, some m4, by omega, by omega, by go_num, HS5.out.below hb6⟩
        case measure => simp [intOf]; omega
      · have HFV : Hid (fileV k = .agg #[.slice none 0 0, .int .i64 ((k : Int) + 1), .bool true]) := Lib.hid (by simp [fileV, h3])
        have HV : Hid ((FF z0 (k + 1) p).getD zFile = .agg #[.slice none 0 0, .int .i64 ((k : Int) + 1), .bool true]) := Lib.hid (by rw [HP.out, ff_now]; simp [h3])
        have e3 : ((k : Int) % 3 == 2) = false := by rw [beq_eq_false_iff_ne]; omega
        have e4 : ((k : Int) % 3 != 2) = true := by simp; omega
        clear h3
        go_wp2_with (first | (go_at_call 16; refine (put_nil b mp (k : Int) (FF z0 k) p _ HS.out.ws (by omega) (by omega)).mono ?_; rintro e w4 ⟨rfl, m4, hmm4, hws4, ht4⟩; rw [← HFV.out] at hws4) | (at_mapUpdate; refine wpList_mapUpdate_at rfl _ _ _ _ rfl Try.underlying60 Try.underlying9 rfl (HS.out.mine ht4) rfl rfl ?_; intro w5 hm5 hs5 hh5 ho5 ht5 hu5; have HS5 := Lib.hid (HS.out.step HP.out hmm4 hws4 ht4 hm5 hs5 hh5 ho5 ht5 hu5); clear hws4 ht4 hm5 hs5 hh5 ho5 ht5 hu5) | (go_at_call 33; refine (read_any b (some m4) _ ((k : Int) + 1) true (FF z0 (k + 1)) p _ HS5.out.ws HV.out).mono ?_; rintro e w6 ⟨rfl, hb6⟩))
        go_roundw
        case rel => exact ⟨k + 1, some m4, by omega, by omega, by go_num, HS5.out.below hb6⟩
        case measure => simp [intOf]; omega
    · by_cases hkl : k < len0
      · obtain rfl : k = 30 := by omega
        go_wp2
        go_loopw [11] (fun i wr => ∃ j : Nat, j ≤ 30 ∧ i = .int .i64 j ∧ SI w2 z0 b q 30 mp wr) (fun i _ => 30 - (intOf i).toNat)
        case atStart => exact ⟨0, Nat.zero_le _, rfl, HS.out⟩
        case round =>
          clear HS
          obtain ⟨j, hj, rfl, hS⟩ := hrel
          have HS := Lib.hid hS
          clear hS
          by_cases hjk : j < 30
          · have hj30 : j < 30 := by omega
            have hjl : j < len0 := by omega
            obtain ⟨x, rfl, hxb, hcell0⟩ := HC.out j hjl
            have hblk : (x.add j).block = x.block := by unfold Addr.add; split <;> rfl
            have HCELL : Hid (∀ W, SI w2 z0 b q 30 mp W → W.cell? (x.add j) = some (.string (z0.getD j ByteArray.empty))) := Lib.hid fun W hW => by
              rw [hW.bel.cell (p := x.add j) (by rw [hblk]; exact Nat.lt_of_lt_of_le hxb hb.size), hb.cell (p := x.add j) (by rw [hblk]; exact hxb)]
              exact hcell0
            clear hcell0 hblk
            generalize z0.getD j ByteArray.empty = p at HCELL
            obtain ⟨s, t, hv, hg⟩ := ff_gg z0 30 p
            have HV := Lib.hid hv
            have HG := Lib.hid hg
            clear hv hg
            have hcell := HCELL.out _ HS.out
            go_wp2_with (go_at_call 33; refine (read_any b mp _ s t (FF z0 30) p _ HS.out.ws HV.out).mono ?_; rintro e w6 ⟨rfl, hb6⟩; have hlk := MapAt.lookup (HS.out.below hb6).own Try.underlying60 Try.underlying9 (zero2 _) p; rw [HG.out] at hlk; have hcell6 := HCELL.out _ (HS.out.below hb6))
            go_roundw
            case rel => exact ⟨j + 1, hjk, by go_num, HS.out.below hb6⟩
            case measure => simp [intOf]; omega
          · obtain rfl : j = 30 := by omega
            go_wp2
            go_ret
            exact ⟨rfl, hb.trans (HS.out.bel.mono hb.size)⟩
      · obtain rfl : k = len0 := by omega
        go_wp2
        go_loopw [11] (fun i wr => ∃ j : Nat, j ≤ k ∧ i = .int .i64 j ∧ SI w2 z0 b q k mp wr) (fun i _ => k - (intOf i).toNat)
        case atStart => exact ⟨0, Nat.zero_le _, rfl, HS.out⟩
        case round =>
          clear HS
          obtain ⟨j, hj, rfl, hS⟩ := hrel
          have HS := Lib.hid hS
          clear hS
          by_cases hjk : j < k
          · have hj30 : j < 30 := by omega
            have hjl : j < k := by omega
            obtain ⟨x, rfl, hxb, hcell0⟩ := HC.out j hjl
            have hblk : (x.add j).block = x.block := by unfold Addr.add; split <;> rfl
            have HCELL : Hid (∀ W, SI w2 z0 b q k mp W → W.cell? (x.add j) = some (.string (z0.getD j ByteArray.empty))) := Lib.hid fun W hW => by
              rw [hW.bel.cell (p := x.add j) (by rw [hblk]; exact Nat.lt_of_lt_of_le hxb hb.size), hb.cell (p := x.add j) (by rw [hblk]; exact hxb)]
              exact hcell0
            clear hcell0 hblk
            generalize z0.getD j ByteArray.empty = p at HCELL
            obtain ⟨s, t, hv, hg⟩ := ff_gg z0 k p
            have HV := Lib.hid hv
            have HG := Lib.hid hg
            clear hv hg
            have hcell := HCELL.out _ HS.out
            go_wp2_with (go_at_call 33; refine (read_any b mp _ s t (FF z0 k) p _ HS.out.ws HV.out).mono ?_; rintro e w6 ⟨rfl, hb6⟩; have hlk := MapAt.lookup (HS.out.below hb6).own Try.underlying60 Try.underlying9 (zero2 _) p; rw [HG.out] at hlk; have hcell6 := HCELL.out _ (HS.out.below hb6))
            go_roundw
            case rel => exact ⟨j + 1, hjk, by go_num, HS.out.below hb6⟩
            case measure => simp [intOf]; omega
          · obtain rfl : j = k := by omega
            go_wp2
            go_ret
            exact ⟨rfl, hb.trans (HS.out.bel.mono hb.size)⟩

/-! ### THE ROW's STEP: WRITTEN OUT: LEAVE IT -/
set_option maxRecDepth 100000 in
theorem lifted (os : Os) (started : os.Started) (H : Type) (enc : TypeId × Value → H) :
    ReturnsInHanded {} Try.checked os 5 .any (Rows.worldStampsSpec.pre6 enc Try.prog Try.f5 Rows.worldStampsRow.domain false) (Rows.worldStampsSpec.post enc Try.prog Try.f5 false true false false) := by
  refine returnsInHanded_of_change (C := Try.checked) own started (by kernel_rfl) Try.func5
    (ChangeSpec.witness6 (enc := enc) (C := Try.checked) false ⟨#[], #[.slice none 0 0], []⟩ 8 (by kernel_rfl) (by kernel_rfl) (by kernel_rfl) (by kernel_rfl)) ?_
  intro W base args ds gs before hval0 hW hcnd _
  have hval : ∀ (j : Nat) t v, Try.f5.params[j]? = some t → args[j]? = some v → Value.okWide Try.prog W .any base t v := hval0
  have hW' := hW
  obtain ⟨p, q, hA0, hV, rfl, hfz, hnd⟩ := hW
  have hA : DataW.TrodAll enc Try.prog W 0 (fun _ => true) true Try.f5.params.toList args.toList ds p := hA0
  rw [Try.params5] at hA hval
  obtain ⟨v0, vs0, d0, ds0, p0, q0, hargs, rfl, rfl, h0, r0⟩ := trodAll_cons hA
  obtain ⟨rfl, rfl, rfl⟩ := trodAll_nil r0
  obtain rfl : args = #[v0] := by cases args; simp_all
  obtain ⟨rfl, rfl⟩ := trodVars_none hV
  obtain ⟨a0, len0, cap0, rfl⟩ := okWide_slice Try.underlying59 (hval 0 59 v0 rfl rfl)
  have k0 := h0
  have lt0 : ∀ x ∈ p0, x.block < W.heap.size := by obtain ⟨m, hm⟩ := k0; exact DataW.trod_lt m _ _ _ hm
  obtain ⟨z0, w0⟩ : ∃ ss, IsStrs W a0 len0 cap0 ss := by
    obtain ⟨fuel, hf⟩ := h0
    rcases open_strings Try.underlying59 Try.underlying9 (by kernel_rfl) hf with ⟨hcs, _⟩ | ⟨x, l, c, ss, hcs, _, hl, hm, hz, _, hcell, _⟩
    · simp [Value.cells] at hcs
      obtain ⟨rfl, rfl, rfl⟩ := hcs
      exact ⟨[], .inl ⟨rfl, rfl, rfl, rfl⟩⟩
    · simp [Value.cells] at hcs
      obtain ⟨rfl, rfl, rfl⟩ := hcs
      exact ⟨ss, .inr ⟨_, rfl, hl, hm, by simpa using hz, hcell⟩⟩
  clear hA0 hval0
  refine (walk a0 len0 cap0 z0 W w0).mono fun e W' ⟨he, bel⟩ => ?_
  subst he
  exact ⟨_, rfl, _, _, _, [], _, [], hW', trodAll_mk1 (shut_bool Try.underlying4 _), (trodAll_cons_mk (Below.trod laidOut (by kernel_rfl) (of_decide_eq_true (by kernel_rfl)) k0 bel lt0) trodAll_mk0), rfl, bel.frame _, fun h => by cases h⟩

theorem over : Rows.worldStampsRow.holds Try.pinned (OpenSpec.ofChange Rows.worldStampsSpec) :=
  OpenClaim.holds_of_wide 5 Try.f5 rfl rfl rfl rfl rfl rfl rfl ⟨rfl, rfl, rfl, rfl, rfl⟩ rfl rfl rfl rfl rfl (by kernel_rfl) Try.func5 (by kernel_rfl)
    (of_decide_eq_true (by kernel_rfl)) (by unfold Func.isWrapper; first | (rw [if_pos (by decide +kernel)]; kernel_rfl) | (rw [if_neg (by decide +kernel)]; exact ⟨rfl, rfl⟩))
    (fun os started H enc _ => lifted os started H enc)

/-- ████ THE STATEMENT ████ -/
theorem proved : Rows.WorldStampsSaid := over
end Go.Proofs.Ytmnkdfecclbgfaa.worldStamps
