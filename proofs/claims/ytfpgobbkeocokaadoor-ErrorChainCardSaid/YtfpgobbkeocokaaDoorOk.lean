/- Contracts: Of and Guard of package outcome. -/
import Derived.Test.YtfpgobbkeocokaaDoorOj
namespace Go.Proofs.YtfpgobbkeocokaaDoor
open Go.RowKit Go.Extern.Stop Go.Stop Go.Extern Go.Lib Go.Extern.Rtype
/-- What Of answers of an error that is this code, or none. -/
def ofV (k : Option Int) : Int := match k with
  | some c => if c = 1 ∨ c = 3 ∨ c = 4 ∨ c = 7 ∨ c = 5 ∨ c = 6 ∨ c = 8 ∨ c = 9 ∨ c = 10 ∨ c = 11 then c else 2
  | none => 2
theorem of_nil (w : World) : Calls Tryd.prog 10 #[.nilIface] w fun e w' => e = .returned (.int .i64 0) ∧ w = w' := by
  have n2 := nilN
  go_enter Tryd.func10, Tryd.ntmps10
  go_wp2
  go_ret
  exact ⟨rfl, rfl⟩
def cds : List Int := [1, 3, 4, 7, 5, 6, 8, 9, 10, 11]
theorem ofV_at {k : Option Int} {c : Int} (h : k = some c) (hc : c ∈ cds) : ofV k = c := by
  subst h
  simp only [cds, List.mem_cons, List.not_mem_nil, or_false] at hc
  simp only [ofV]
  rw [if_pos hc]
theorem ofV_none {k : Option Int} (h : ∀ c ∈ cds, ¬ k = some c) : ofV k = 2 := by
  cases k with
  | none => rfl
  | some c =>
    simp only [ofV]
    refine if_neg fun hc => h c ?_ rfl
    simpa only [cds, List.mem_cons, List.not_mem_nil, or_false] using hc
set_option maxHeartbeats 4000000 in
set_option maxRecDepth 100000 in
theorem of_any (w : World) (L : List Lay) (k : Option Int) (v : Value) (h : ErrAt w L k v) :
    Calls Tryd.prog 10 #[v] w fun e w' => e = .returned (.int .i64 (ofV k)) ∧ Below w.heap.size w w' := by
  obtain ⟨t, x, rfl⟩ := h.iface
  have n1 := nilE
  have HE : Hid (∀ wr, Below w.heap.size w wr → ∀ c, Calls Tryd.prog 19 #[.iface t x, .int .i64 c] wr fun e w' => e = .returned (.bool (decide (k = some c))) ∧ Below wr.heap.size wr w') := Lib.hid (fun wr hb c => ois_any wr L k c _ (h.below hb))
  clear h
  have hts : ∀ (h : 26 < Tryd.prog.types.size), (Tryd.prog.types[26]'h).size = 1 := fun _ => by kernel_rfl
  go_enter Tryd.func10, Tryd.ntmps10
  go_wp2
  go_loopw [8] (fun jv wr => ∃ j : Nat, j ≤ 10 ∧ jv = .int .i64 j ∧ (∀ c ∈ cds.take j, ¬ k = some c) ∧ Below w.heap.size w wr) (fun jv _ => 10 - (intOf jv).toNat)
  case atStart => exact ⟨0, by decide, rfl, by simp, Below.refl _ _⟩
  case round =>
    obtain ⟨j, hj, rfl, hN, hB⟩ := hrel
    have HN := Lib.hid hN
    have HB := Lib.hid hB
    clear hN hB
    have hjj : j = 0 ∨ j = 1 ∨ j = 2 ∨ j = 3 ∨ j = 4 ∨ j = 5 ∨ j = 6 ∨ j = 7 ∨ j = 8 ∨ j = 9 ∨ j = 10 := by omega
    clear hj
    rcases hjj with rfl | rfl | rfl | rfl | rfl | rfl | rfl | rfl | rfl | rfl | rfl
    · have hix : ∀ W, (Instr.index 53 (.agg #[.int .i64 1, .int .i64 3, .int .i64 4, .int .i64 7, .int .i64 5, .int .i64 6, .int .i64 8, .int .i64 9, .int .i64 10, .int .i64 11]) (.int .i64 0)).run Tryd.prog W = .ok (.int .i64 1) W := fun W => by kernel_rfl
      have HI := Lib.hid (HE.out wr HB.out 1)
      by_cases hk : k = some 1
      · have hd : decide (k = some 1) = true := by simp [hk]
        have HK := Lib.hid hk
        clear hk
        rw [hd] at HI
        go_wp2_with (go_at_call 19; refine HI.out.mono ?_; rintro e w2 ⟨rfl, hb2⟩; have HB2 := Lib.hid hb2; clear hb2)
        go_ret
        exact ⟨by rw [ofV_at HK.out (by decide)]; rfl, keepE HB.out HB2.out⟩
      · have hd : decide (k = some 1) = false := by simp [hk]
        have HK := Lib.hid hk
        clear hk
        rw [hd] at HI
        go_wp2_with (go_at_call 19; refine HI.out.mono ?_; rintro e w2 ⟨rfl, hb2⟩; have HB2 := Lib.hid hb2; clear hb2)
        go_roundw
        case rel => exact ⟨1, by decide, by go_num, fun c hc => (List.mem_append.1 (show c ∈ cds.take 0 ++ [1] from hc)).elim (HN.out c) (fun e => by rw [List.mem_singleton.1 e]; exact HK.out), keepE HB.out HB2.out⟩
        case measure => simp [intOf]
    · have hix : ∀ W, (Instr.index 53 (.agg #[.int .i64 1, .int .i64 3, .int .i64 4, .int .i64 7, .int .i64 5, .int .i64 6, .int .i64 8, .int .i64 9, .int .i64 10, .int .i64 11]) (.int .i64 1)).run Tryd.prog W = .ok (.int .i64 3) W := fun W => by kernel_rfl
      have HI := Lib.hid (HE.out wr HB.out 3)
      by_cases hk : k = some 3
      · have hd : decide (k = some 3) = true := by simp [hk]
        have HK := Lib.hid hk
        clear hk
        rw [hd] at HI
        go_wp2_with (go_at_call 19; refine HI.out.mono ?_; rintro e w2 ⟨rfl, hb2⟩; have HB2 := Lib.hid hb2; clear hb2)
        go_ret
        exact ⟨by rw [ofV_at HK.out (by decide)]; rfl, keepE HB.out HB2.out⟩
      · have hd : decide (k = some 3) = false := by simp [hk]
        have HK := Lib.hid hk
        clear hk
        rw [hd] at HI
        go_wp2_with (go_at_call 19; refine HI.out.mono ?_; rintro e w2 ⟨rfl, hb2⟩; have HB2 := Lib.hid hb2; clear hb2)
        go_roundw
        case rel => exact ⟨2, by decide, by go_num, fun c hc => (List.mem_append.1 (show c ∈ cds.take 1 ++ [3] from hc)).elim (HN.out c) (fun e => by rw [List.mem_singleton.1 e]; exact HK.out), keepE HB.out HB2.out⟩
        case measure => simp [intOf]
    · have hix : ∀ W, (Instr.index 53 (.agg #[.int .i64 1, .int .i64 3, .int .i64 4, .int .i64 7, .int .i64 5, .int .i64 6, .int .i64 8, .int .i64 9, .int .i64 10, .int .i64 11]) (.int .i64 2)).run Tryd.prog W = .ok (.int .i64 4) W := fun W => by kernel_rfl
      have HI := Lib.hid (HE.out wr HB.out 4)
      by_cases hk : k = some 4
      · have hd : decide (k = some 4) = true := by simp [hk]
        have HK := Lib.hid hk
        clear hk
        rw [hd] at HI
        go_wp2_with (go_at_call 19; refine HI.out.mono ?_; rintro e w2 ⟨rfl, hb2⟩; have HB2 := Lib.hid hb2; clear hb2)
        go_ret
        exact ⟨by rw [ofV_at HK.out (by decide)]; rfl, keepE HB.out HB2.out⟩
      · have hd : decide (k = some 4) = false := by simp [hk]
        have HK := Lib.hid hk
        clear hk
        rw [hd] at HI
        go_wp2_with (go_at_call 19; refine HI.out.mono ?_; rintro e w2 ⟨rfl, hb2⟩; have HB2 := Lib.hid hb2; clear hb2)
        go_roundw
        case rel => exact ⟨3, by decide, by go_num, fun c hc => (List.mem_append.1 (show c ∈ cds.take 2 ++ [4] from hc)).elim (HN.out c) (fun e => by rw [List.mem_singleton.1 e]; exact HK.out), keepE HB.out HB2.out⟩
        case measure => simp [intOf]
    · have hix : ∀ W, (Instr.index 53 (.agg #[.int .i64 1, .int .i64 3, .int .i64 4, .int .i64 7, .int .i64 5, .int .i64 6, .int .i64 8, .int .i64 9, .int .i64 10, .int .i64 11]) (.int .i64 3)).run Tryd.prog W = .ok (.int .i64 7) W := fun W => by kernel_rfl
      have HI := Lib.hid (HE.out wr HB.out 7)
      by_cases hk : k = some 7
      · have hd : decide (k = some 7) = true := by simp [hk]
        have HK := Lib.hid hk
        clear hk
        rw [hd] at HI
        go_wp2_with (go_at_call 19; refine HI.out.mono ?_; rintro e w2 ⟨rfl, hb2⟩; have HB2 := Lib.hid hb2; clear hb2)
        go_ret
        exact ⟨by rw [ofV_at HK.out (by decide)]; rfl, keepE HB.out HB2.out⟩
      · have hd : decide (k = some 7) = false := by simp [hk]
        have HK := Lib.hid hk
        clear hk
        rw [hd] at HI
        go_wp2_with (go_at_call 19; refine HI.out.mono ?_; rintro e w2 ⟨rfl, hb2⟩; have HB2 := Lib.hid hb2; clear hb2)
        go_roundw
        case rel => exact ⟨4, by decide, by go_num, fun c hc => (List.mem_append.1 (show c ∈ cds.take 3 ++ [7] from hc)).elim (HN.out c) (fun e => by rw [List.mem_singleton.1 e]; exact HK.out), keepE HB.out HB2.out⟩
        case measure => simp [intOf]
    · have hix : ∀ W, (Instr.index 53 (.agg #[.int .i64 1, .int .i64 3, .int .i64 4, .int .i64 7, .int .i64 5, .int .i64 6, .int .i64 8, .int .i64 9, .int .i64 10, .int .i64 11]) (.int .i64 4)).run Tryd.prog W = .ok (.int .i64 5) W := fun W => by kernel_rfl
      have HI := Lib.hid (HE.out wr HB.out 5)
      by_cases hk : k = some 5
      · have hd : decide (k = some 5) = true := by simp [hk]
        have HK := Lib.hid hk
        clear hk
        rw [hd] at HI
        go_wp2_with (go_at_call 19; refine HI.out.mono ?_; rintro e w2 ⟨rfl, hb2⟩; have HB2 := Lib.hid hb2; clear hb2)
        go_ret
        exact ⟨by rw [ofV_at HK.out (by decide)]; rfl, keepE HB.out HB2.out⟩
      · have hd : decide (k = some 5) = false := by simp [hk]
        have HK := Lib.hid hk
        clear hk
        rw [hd] at HI
        go_wp2_with (go_at_call 19; refine HI.out.mono ?_; rintro e w2 ⟨rfl, hb2⟩; have HB2 := Lib.hid hb2; clear hb2)
        go_roundw
        case rel => exact ⟨5, by decide, by go_num, fun c hc => (List.mem_append.1 (show c ∈ cds.take 4 ++ [5] from hc)).elim (HN.out c) (fun e => by rw [List.mem_singleton.1 e]; exact HK.out), keepE HB.out HB2.out⟩
        case measure => simp [intOf]
    · have hix : ∀ W, (Instr.index 53 (.agg #[.int .i64 1, .int .i64 3, .int .i64 4, .int .i64 7, .int .i64 5, .int .i64 6, .int .i64 8, .int .i64 9, .int .i64 10, .int .i64 11]) (.int .i64 5)).run Tryd.prog W = .ok (.int .i64 6) W := fun W => by kernel_rfl
      have HI := Lib.hid (HE.out wr HB.out 6)
      by_cases hk : k = some 6
      · have hd : decide (k = some 6) = true := by simp [hk]
        have HK := Lib.hid hk
        clear hk
        rw [hd] at HI
        go_wp2_with (go_at_call 19; refine HI.out.mono ?_; rintro e w2 ⟨rfl, hb2⟩; have HB2 := Lib.hid hb2; clear hb2)
        go_ret
        exact ⟨by rw [ofV_at HK.out (by decide)]; rfl, keepE HB.out HB2.out⟩
      · have hd : decide (k = some 6) = false := by simp [hk]
        have HK := Lib.hid hk
        clear hk
        rw [hd] at HI
        go_wp2_with (go_at_call 19; refine HI.out.mono ?_; rintro e w2 ⟨rfl, hb2⟩; have HB2 := Lib.hid hb2; clear hb2)
        go_roundw
        case rel => exact ⟨6, by decide, by go_num, fun c hc => (List.mem_append.1 (show c ∈ cds.take 5 ++ [6] from hc)).elim (HN.out c) (fun e => by rw [List.mem_singleton.1 e]; exact HK.out), keepE HB.out HB2.out⟩
        case measure => simp [intOf]
    · have hix : ∀ W, (Instr.index 53 (.agg #[.int .i64 1, .int .i64 3, .int .i64 4, .int .i64 7, .int .i64 5, .int .i64 6, .int .i64 8, .int .i64 9, .int .i64 10, .int .i64 11]) (.int .i64 6)).run Tryd.prog W = .ok (.int .i64 8) W := fun W => by kernel_rfl
      have HI := Lib.hid (HE.out wr HB.out 8)
      by_cases hk : k = some 8
      · have hd : decide (k = some 8) = true := by simp [hk]
        have HK := Lib.hid hk
        clear hk
        rw [hd] at HI
        go_wp2_with (go_at_call 19; refine HI.out.mono ?_; rintro e w2 ⟨rfl, hb2⟩; have HB2 := Lib.hid hb2; clear hb2)
        go_ret
        exact ⟨by rw [ofV_at HK.out (by decide)]; rfl, keepE HB.out HB2.out⟩
      · have hd : decide (k = some 8) = false := by simp [hk]
        have HK := Lib.hid hk
        clear hk
        rw [hd] at HI
        go_wp2_with (go_at_call 19; refine HI.out.mono ?_; rintro e w2 ⟨rfl, hb2⟩; have HB2 := Lib.hid hb2; clear hb2)
        go_roundw
        case rel => exact ⟨7, by decide, by go_num, fun c hc => (List.mem_append.1 (show c ∈ cds.take 6 ++ [8] from hc)).elim (HN.out c) (fun e => by rw [List.mem_singleton.1 e]; exact HK.out), keepE HB.out HB2.out⟩
        case measure => simp [intOf]
    · have hix : ∀ W, (Instr.index 53 (.agg #[.int .i64 1, .int .i64 3, .int .i64 4, .int .i64 7, .int .i64 5, .int .i64 6, .int .i64 8, .int .i64 9, .int .i64 10, .int .i64 11]) (.int .i64 7)).run Tryd.prog W = .ok (.int .i64 9) W := fun W => by kernel_rfl
      have HI := Lib.hid (HE.out wr HB.out 9)
      by_cases hk : k = some 9
      · have hd : decide (k = some 9) = true := by simp [hk]
        have HK := Lib.hid hk
        clear hk
        rw [hd] at HI
        go_wp2_with (go_at_call 19; refine HI.out.mono ?_; rintro e w2 ⟨rfl, hb2⟩; have HB2 := Lib.hid hb2; clear hb2)
        go_ret
        exact ⟨by rw [ofV_at HK.out (by decide)]; rfl, keepE HB.out HB2.out⟩
      · have hd : decide (k = some 9) = false := by simp [hk]
        have HK := Lib.hid hk
        clear hk
        rw [hd] at HI
        go_wp2_with (go_at_call 19; refine HI.out.mono ?_; rintro e w2 ⟨rfl, hb2⟩; have HB2 := Lib.hid hb2; clear hb2)
        go_roundw
        case rel => exact ⟨8, by decide, by go_num, fun c hc => (List.mem_append.1 (show c ∈ cds.take 7 ++ [9] from hc)).elim (HN.out c) (fun e => by rw [List.mem_singleton.1 e]; exact HK.out), keepE HB.out HB2.out⟩
        case measure => simp [intOf]
    · have hix : ∀ W, (Instr.index 53 (.agg #[.int .i64 1, .int .i64 3, .int .i64 4, .int .i64 7, .int .i64 5, .int .i64 6, .int .i64 8, .int .i64 9, .int .i64 10, .int .i64 11]) (.int .i64 8)).run Tryd.prog W = .ok (.int .i64 10) W := fun W => by kernel_rfl
      have HI := Lib.hid (HE.out wr HB.out 10)
      by_cases hk : k = some 10
      · have hd : decide (k = some 10) = true := by simp [hk]
        have HK := Lib.hid hk
        clear hk
        rw [hd] at HI
        go_wp2_with (go_at_call 19; refine HI.out.mono ?_; rintro e w2 ⟨rfl, hb2⟩; have HB2 := Lib.hid hb2; clear hb2)
        go_ret
        exact ⟨by rw [ofV_at HK.out (by decide)]; rfl, keepE HB.out HB2.out⟩
      · have hd : decide (k = some 10) = false := by simp [hk]
        have HK := Lib.hid hk
        clear hk
        rw [hd] at HI
        go_wp2_with (go_at_call 19; refine HI.out.mono ?_; rintro e w2 ⟨rfl, hb2⟩; have HB2 := Lib.hid hb2; clear hb2)
        go_roundw
        case rel => exact ⟨9, by decide, by go_num, fun c hc => (List.mem_append.1 (show c ∈ cds.take 8 ++ [10] from hc)).elim (HN.out c) (fun e => by rw [List.mem_singleton.1 e]; exact HK.out), keepE HB.out HB2.out⟩
        case measure => simp [intOf]
    · have hix : ∀ W, (Instr.index 53 (.agg #[.int .i64 1, .int .i64 3, .int .i64 4, .int .i64 7, .int .i64 5, .int .i64 6, .int .i64 8, .int .i64 9, .int .i64 10, .int .i64 11]) (.int .i64 9)).run Tryd.prog W = .ok (.int .i64 11) W := fun W => by kernel_rfl
      have HI := Lib.hid (HE.out wr HB.out 11)
      by_cases hk : k = some 11
      · have hd : decide (k = some 11) = true := by simp [hk]
        have HK := Lib.hid hk
        clear hk
        rw [hd] at HI
        go_wp2_with (go_at_call 19; refine HI.out.mono ?_; rintro e w2 ⟨rfl, hb2⟩; have HB2 := Lib.hid hb2; clear hb2)
        go_ret
        exact ⟨by rw [ofV_at HK.out (by decide)]; rfl, keepE HB.out HB2.out⟩
      · have hd : decide (k = some 11) = false := by simp [hk]
        have HK := Lib.hid hk
        clear hk
        rw [hd] at HI
        go_wp2_with (go_at_call 19; refine HI.out.mono ?_; rintro e w2 ⟨rfl, hb2⟩; have HB2 := Lib.hid hb2; clear hb2)
        go_roundw
        case rel => exact ⟨10, by decide, by go_num, fun c hc => (List.mem_append.1 (show c ∈ cds.take 9 ++ [11] from hc)).elim (HN.out c) (fun e => by rw [List.mem_singleton.1 e]; exact HK.out), keepE HB.out HB2.out⟩
        case measure => simp [intOf]
    · go_wp2
      go_ret
      exact ⟨by rw [ofV_none HN.out]; rfl, HB.out⟩
end Go.Proofs.YtfpgobbkeocokaaDoor
