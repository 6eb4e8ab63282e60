/- The law of a long line: for every number and both truths the law returns true. No condition. -/
import Derived.Test.YtmnkdfecclbgfaaRows
import Derived.WalkKit
import Derived.ProofKit
import Derived.OpenShut
import Derived.ShutString
import Derived.Test.YtmnkdfecclbgfaaBg
import Derived.Test.YtmnkdfecclbgfaaRw
import Derived.LoopTactic
namespace Go.Proofs.Ytmnkdfecclbgfaa.textLong
open Go.ChangeShapes Go.WideShapes Go.ChangeAt Go.RowKit
open Go.ChangeMaps (open_string shut_string)
set_option linter.unusedVariables false      -- a walk need not use every 'w<i>' (that an integer argument fits its kind)

theorem own : ownKnob Try.prog.godebug = none := by kernel_rfl

open Go.Tx Go.Rb
theorem conv33 (w : World) (C : Array Value) (n c : Nat) : (convert 33 33 (.slice (some ⟨w.heap.size, 0, none⟩) n c)).run Try.prog (w.alloc (.cells C 5)) = .ok (.slice (some ⟨w.heap.size, 0, none⟩) n c) (w.alloc (.cells C 5 (C.size, C.size + 1))) :=
  Lib.run_convert_bytes_const w 33 5 C n c Try.underlying33 Try.underlying5
theorem row_lit (w : World) : RowB 5 (w.alloc (.cells #[.int .u8 97, .int .u8 10] 5 (2, 3))) w.heap.size 2 [97, 10] := by
  refine ⟨_, 2, 3, heap_alloc_new w _, .inl (Nat.le_refl _), rfl, by simp, fun j c hj => ?_⟩
  match j, hj with
  | 0, hj => cases hj; rfl
  | 1, hj => cases hj; rfl
theorem src_nb (w : World) : Src Try.prog w (.string ⟨#[10, 98]⟩) [10, 98] := Src.str Try.prog w ⟨#[10, 98]⟩
theorem lines_three {B : Nat} {w : World} {v : Value} {a b c : Nat} {ws us vs : List (List UInt8)} (h : LinesAt B w v [(a, ws), (b, us), (c, vs)]) :
    ∃ g cap, v = .slice (some ⟨g, 0, none⟩) 3 cap ∧ 3 ≤ cap ∧ w.cell? ⟨g, 4, none⟩ = some (.int .i64 (c : Int)) := by
  obtain ⟨g, cap, h1, h2, _, _, h3⟩ := h.read (by simp)
  exact ⟨g, cap, h1, h2, (h3 2 c vs rfl).1⟩
theorem call_short (n : Nat) (hash : Bool) {b cap N B : Nat} {w : World} (hn : 505 ≤ n) (hle : n ≤ 512) (hr : RowB 5 w b cap ([97, 10] ++ longL n hash ++ [10, 98])) (hc : cap ≤ 9223372036854775807) (hN : n + 4 = N) (hB : B ≤ w.heap.size) :
    Calls Try.prog 40 #[.slice (some ⟨b, 0, none⟩) N cap] w fun e w' => ∃ g c, e = .returned (.slice (some ⟨g, 0, none⟩) 3 c) ∧ 3 ≤ c ∧ w'.cell? ⟨g, 4, none⟩ = some (.int .i64 3) ∧ Below B w w' := by
  subst hN
  have hl : ([97, 10] ++ longL n hash ++ [10, 98]).length = n + 4 := by simp [longL_len]
  have hba := ba_row hr hc
  rw [hl] at hba
  refine (lines_any _ _ _ _ _ hba (fun x hx => by
    cases hx
    obtain ⟨_, _, _, hh, _⟩ := hr
    exact (Array.getElem?_eq_some_iff.1 hh).1) (by omega)).mono ?_
  rintro e w' ⟨v, rfl, hlines, hb⟩
  rw [told_long n hash hn, if_pos hle] at hlines
  obtain ⟨g, c, rfl, h1, h2⟩ := lines_three hlines
  exact ⟨g, c, rfl, h1, h2, hb.mono hB⟩
theorem call_long (n : Nat) (hash : Bool) {b cap N B : Nat} {w : World} (hn : 505 ≤ n) (hn2 : n ≤ 600) (hle : ¬ n ≤ 512) (hr : RowB 5 w b cap ([97, 10] ++ longL n hash ++ [10, 98])) (hc : cap ≤ 9223372036854775807) (hN : n + 4 = N) (hB : B ≤ w.heap.size) :
    Calls Try.prog 40 #[.slice (some ⟨b, 0, none⟩) N cap] w fun e w' => ∃ g c, e = .returned (.slice (some ⟨g, 0, none⟩) 2 c) ∧ 2 ≤ c ∧ w'.cell? ⟨g, 2, none⟩ = some (.int .i64 3) ∧ Below B w w' := by
  subst hN
  have hl : ([97, 10] ++ longL n hash ++ [10, 98]).length = n + 4 := by simp [longL_len]
  have hba := ba_row hr hc
  rw [hl] at hba
  refine (lines_any _ _ _ _ _ hba (fun x hx => by
    cases hx
    obtain ⟨_, _, _, hh, _⟩ := hr
    exact (Array.getElem?_eq_some_iff.1 hh).1) (by omega)).mono ?_
  rintro e w' ⟨v, rfl, hlines, hb⟩
  rw [told_long n hash hn, if_neg hle] at hlines
  obtain ⟨g, c, p, rfl, h1, h3, h4, h5⟩ := lines_two hlines
  exact ⟨g, c, rfl, h1, h5, hb.mono hB⟩

set_option maxHeartbeats 4000000 in
set_option maxRecDepth 100000 in
theorem walk (a0 : Int) (a1 : Bool) (w0 : (Lit.int .i64 a0).wf = true) (w : World) :
    Calls Try.prog 9 #[.int .i64 a0, .bool a1] w fun e w' => e = .returned (.bool true) ∧ Below w.heap.size w w' := by
  by_cases hc : a0 < 505 ∨ 520 < a0
  · go_enter Try.func9, Try.ntmps9
    go_wp2_with (go_at_call 39; refine (begun2 _).mono ?_; rintro e w2 ⟨rfl, hb⟩)
    all_goals (go_ret; exact ⟨rfl, hb⟩)
  · obtain ⟨n, rfl⟩ : ∃ n : Nat, a0 = n := ⟨a0.toNat, by omega⟩
    have c0 : 505 ≤ n := by omega
    have c1 : n ≤ 520 := by omega
    have c2 : (505 : Int) ≤ (n : Int) := by omega
    have c3 : (n : Int) ≤ 520 := by omega
    clear hc w0
    obtain ⟨i5, hi, hz0, hz1, hz2⟩ := info_parts info5
    go_enter Try.func9, Try.ntmps9
    go_wp2_with (go_at_call 39; refine (begun2 _).mono ?_; rintro e w2 ⟨rfl, hb⟩; obtain ⟨o, hmk, hrow⟩ := make_row n (by omega) w2; have HR := Lib.hid hrow; clear hrow)
    go_loopw [7] (fun i wr => ∃ k : Nat, k ≤ n ∧ i = .int .i64 k ∧ RowB 5 wr w2.heap.size n (fillL k n) ∧ Below w2.heap.size w2 wr) (fun i _ => n - (intOf i).toNat)
    case atStart => exact ⟨0, Nat.zero_le _, rfl, HR.out, (Below.refl _ _).alloc (Nat.le_refl _) _⟩
    case round =>
      obtain ⟨k, hk, rfl, hrow, hbw⟩ := hrel
      by_cases hlt : k < n
      · have hcell := hrow.cell (j := k) (c := 0) (by unfold fillL; rw [List.getElem?_append_right (by simp), List.length_replicate, Nat.sub_self, List.getElem?_replicate, if_pos (by omega)])
        have hfz := hrow.frozen (j := k) hlt
        have HRW := Lib.hid hrow
        clear hrow
        go_wp2
        go_roundw
        case rel => exact ⟨k + 1, hlt, by go_num, by rw [fillL_step k n hlt]; exact HRW.out.set (by rw [fillL_len k n hk]; exact hlt) 120, hbw.setCell (Nat.le_refl _) _⟩
        case measure => simp [intOf]; omega
      · obtain rfl : k = n := by omega
        rw [fillL_all] at hrow
        have kc := conv33
        cases a1 with
        | true =>
          have hcell := hrow.cell (j := 2) (c := 120) (by rw [List.getElem?_replicate, if_pos (by omega)])
          have hfz := hrow.frozen (j := 2) (by omega)
          have HRW0 := Lib.hid (hrow.set (j := 2) (by rw [List.length_replicate]; omega) 35)
          obtain ⟨W, hW⟩ : ∃ W, wr.setCell ⟨w2.heap.size, 2, none⟩ (.int .u8 35) = W := ⟨_, rfl⟩
          have HRW : Hid (RowB 5 W w2.heap.size k (longL k true)) := Lib.hid (by rw [← hW]; exact HRW0.out)
          have hbw : Below w2.heap.size w2 W := by rw [← hW]; exact hbw.setCell (Nat.le_refl _) _
          clear hrow HRW0
          by_cases hle : k ≤ 512
          · have hgt : (k : Int) ≤ 512 := by omega
            go_wp2_with (first | (at_builtin; refine wpList_append_row rfl _ _ 33 33 rfl Try.underlying33 Try.underlying33 (by intro k h; cases h) hi hz0 hz1 hz2 (B := w2.heap.size) (l := [97, 10]) (N := k + 2) rfl rfl rfl (row_lit _) ((longL_len k true) ▸ Src.row (HRW.out.alloc _)) (by have := hbw.size; omega) (by decide) (by rw [longL_len]; omega) (by omega) ?_; intro b' cap' w5 hr5 hb5 hB5 hc5 hN5) | (at_builtin; refine wpList_append_row rfl _ _ 33 9 rfl Try.underlying33 Try.underlying9 (by intro k h; cases h) hi hz0 hz1 hz2 (B := w2.heap.size) (N := k + 4) rfl (by simp only [List.length_append, longL_len, List.length_cons, List.length_nil]; omega) rfl hr5 (src_nb _) hB5 hc5 rfl (by omega) ?_; intro b6 cap6 w6 hr6 hb6 hB6 hc6 hN6) | (go_at_call 40; refine (call_short (B := w2.heap.size) k true c0 hle hr6 hc6 rfl (((hbw.alloc hbw.size _).trans hb5).trans hb6).size).mono ?_; rintro e w7 ⟨g, c, rfl, hcap7, hcell7, hb7⟩))
            go_ret
            exact ⟨rfl, hb.trans (((((hbw.alloc hbw.size _).trans hb5).trans hb6).trans hb7).mono hb.size)⟩
          · have hgt : 512 < (k : Int) := by omega
            go_wp2_with (first | (at_builtin; refine wpList_append_row rfl _ _ 33 33 rfl Try.underlying33 Try.underlying33 (by intro k h; cases h) hi hz0 hz1 hz2 (B := w2.heap.size) (l := [97, 10]) (N := k + 2) rfl rfl rfl (row_lit _) ((longL_len k true) ▸ Src.row (HRW.out.alloc _)) (by have := hbw.size; omega) (by decide) (by rw [longL_len]; omega) (by omega) ?_; intro b' cap' w5 hr5 hb5 hB5 hc5 hN5) | (at_builtin; refine wpList_append_row rfl _ _ 33 9 rfl Try.underlying33 Try.underlying9 (by intro k h; cases h) hi hz0 hz1 hz2 (B := w2.heap.size) (N := k + 4) rfl (by simp only [List.length_append, longL_len, List.length_cons, List.length_nil]; omega) rfl hr5 (src_nb _) hB5 hc5 rfl (by omega) ?_; intro b6 cap6 w6 hr6 hb6 hB6 hc6 hN6) | (go_at_call 40; refine (call_long (B := w2.heap.size) k true c0 (by omega) hle hr6 hc6 rfl (((hbw.alloc hbw.size _).trans hb5).trans hb6).size).mono ?_; rintro e w7 ⟨g, c, rfl, hcap7, hcell7, hb7⟩))
            go_ret
            exact ⟨rfl, hb.trans (((((hbw.alloc hbw.size _).trans hb5).trans hb6).trans hb7).mono hb.size)⟩

        | false =>
          have HRW : Hid (RowB 5 wr w2.heap.size k (longL k false)) := Lib.hid hrow
          clear hrow
          by_cases hle : k ≤ 512
          · have hgt : (k : Int) ≤ 512 := by omega
            go_wp2_with (first | (at_builtin; refine wpList_append_row rfl _ _ 33 33 rfl Try.underlying33 Try.underlying33 (by intro k h; cases h) hi hz0 hz1 hz2 (B := w2.heap.size) (l := [97, 10]) (N := k + 2) rfl rfl rfl (row_lit _) ((longL_len k false) ▸ Src.row (HRW.out.alloc _)) (by have := hbw.size; omega) (by decide) (by rw [longL_len]; omega) (by omega) ?_; intro b' cap' w5 hr5 hb5 hB5 hc5 hN5) | (at_builtin; refine wpList_append_row rfl _ _ 33 9 rfl Try.underlying33 Try.underlying9 (by intro k h; cases h) hi hz0 hz1 hz2 (B := w2.heap.size) (N := k + 4) rfl (by simp only [List.length_append, longL_len, List.length_cons, List.length_nil]; omega) rfl hr5 (src_nb _) hB5 hc5 rfl (by omega) ?_; intro b6 cap6 w6 hr6 hb6 hB6 hc6 hN6) | (go_at_call 40; refine (call_short (B := w2.heap.size) k false c0 hle hr6 hc6 rfl (((hbw.alloc hbw.size _).trans hb5).trans hb6).size).mono ?_; rintro e w7 ⟨g, c, rfl, hcap7, hcell7, hb7⟩))
            go_ret
            exact ⟨rfl, hb.trans (((((hbw.alloc hbw.size _).trans hb5).trans hb6).trans hb7).mono hb.size)⟩
          · have hgt : 512 < (k : Int) := by omega
            go_wp2_with (first | (at_builtin; refine wpList_append_row rfl _ _ 33 33 rfl Try.underlying33 Try.underlying33 (by intro k h; cases h) hi hz0 hz1 hz2 (B := w2.heap.size) (l := [97, 10]) (N := k + 2) rfl rfl rfl (row_lit _) ((longL_len k false) ▸ Src.row (HRW.out.alloc _)) (by have := hbw.size; omega) (by decide) (by rw [longL_len]; omega) (by omega) ?_; intro b' cap' w5 hr5 hb5 hB5 hc5 hN5) | (at_builtin; refine wpList_append_row rfl _ _ 33 9 rfl Try.underlying33 Try.underlying9 (by intro k h; cases h) hi hz0 hz1 hz2 (B := w2.heap.size) (N := k + 4) rfl (by simp only [List.length_append, longL_len, List.length_cons, List.length_nil]; omega) rfl hr5 (src_nb _) hB5 hc5 rfl (by omega) ?_; intro b6 cap6 w6 hr6 hb6 hB6 hc6 hN6) | (go_at_call 40; refine (call_long (B := w2.heap.size) k false c0 (by omega) hle hr6 hc6 rfl (((hbw.alloc hbw.size _).trans hb5).trans hb6).size).mono ?_; rintro e w7 ⟨g, c, rfl, hcap7, hcell7, hb7⟩))
            go_ret
            exact ⟨rfl, hb.trans (((((hbw.alloc hbw.size _).trans hb5).trans hb6).trans hb7).mono hb.size)⟩

/-! ### THE ROW's STEP: WRITTEN OUT: LEAVE IT -/
set_option maxRecDepth 100000 in
theorem lifted (os : Os) (started : os.Started) (H : Type) (enc : TypeId × Value → H) :
    ReturnsInHanded {} Try.checked os 9 .any (Rows.textLongSpec.pre6 enc Try.prog Try.f9 Rows.textLongRow.domain false) (Rows.textLongSpec.post enc Try.prog Try.f9 false true false false) := by
  refine returnsInHanded_of_change (C := Try.checked) own started (by kernel_rfl) Try.func9
    (ChangeSpec.witness6 (enc := enc) (C := Try.checked) false ⟨#[], #[.int .i64 0, .bool false], []⟩ 8 (by kernel_rfl) (by kernel_rfl) (by kernel_rfl) (by kernel_rfl)) ?_
  intro W base args ds gs before hval0 hW hcnd _
  have hval : ∀ (j : Nat) t v, Try.f9.params[j]? = some t → args[j]? = some v → Value.okWide Try.prog W .any base t v := hval0
  have hW' := hW
  obtain ⟨p, q, hA0, hV, rfl, hfz, hnd⟩ := hW
  have hA : DataW.TrodAll enc Try.prog W 0 (fun _ => true) true Try.f9.params.toList args.toList ds p := hA0
  rw [Try.params9] at hA hval
  obtain ⟨v0, vs0, d0, ds0, p0, q0, hargs, rfl, rfl, h0, r0⟩ := trodAll_cons hA
  obtain ⟨v1, vs1, d1, ds1, p1, q1, rfl, rfl, rfl, h1, r1⟩ := trodAll_cons r0
  obtain ⟨rfl, rfl, rfl⟩ := trodAll_nil r1
  obtain rfl : args = #[v0, v1] := by cases args; simp_all
  obtain ⟨rfl, rfl⟩ := trodVars_none hV
  obtain ⟨a0, rfl, rfl, rfl, w0⟩ := open_int Try.underlying3 (hval 0 3 v0 rfl rfl) h0
  obtain ⟨a1, rfl, rfl, rfl⟩ := open_bool Try.underlying4 (hval 1 4 v1 rfl rfl) h1
  clear hA0 hval0
  simp only [List.append_nil] at hW'
  refine (walk a0 a1 w0 W).mono fun e W' ⟨he, bel⟩ => ?_
  subst he
  exact ⟨_, rfl, _, _, _, [], _, [], hW', trodAll_mk1 (shut_bool Try.underlying4 _), (trodAll_cons_mk (shut_int Try.underlying3 w0) (trodAll_cons_mk (shut_bool Try.underlying4 _) trodAll_mk0)), rfl, bel.frame _, fun h => by cases h⟩

theorem over : Rows.textLongRow.holds Try.pinned (OpenSpec.ofChange Rows.textLongSpec) :=
  OpenClaim.holds_of_wide 9 Try.f9 rfl rfl rfl rfl rfl rfl rfl ⟨rfl, rfl, rfl, rfl, rfl⟩ rfl rfl rfl rfl rfl (by kernel_rfl) Try.func9 (by kernel_rfl)
    (of_decide_eq_true (by kernel_rfl)) (by unfold Func.isWrapper; first | (rw [if_pos (by decide +kernel)]; kernel_rfl) | (rw [if_neg (by decide +kernel)]; exact ⟨rfl, rfl⟩))
    (fun os started H enc _ => lifted os started H enc)

/-- ████ THE STATEMENT ████ -/
theorem proved : Rows.TextLongSaid :=
  over
end Go.Proofs.Ytmnkdfecclbgfaa.textLong
