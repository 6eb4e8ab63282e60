/- ErrorGuard: the call that panics, or not; the walk. -/
import Derived.Test.YtfpgobbkeocokaaDoorOl
import Derived.Laws.Panics
import Derived.Laws.PanicsMore
namespace Go.Proofs.YtfpgobbkeocokaaDoor
open Go.RowKit Go.Extern.Stop Go.Stop Go.Extern Go.Lib Go.Extern.Rtype
theorem bp {α : Type} {P : Program} {w : World} (k : IntKind) (x y : Int) (code : BoundsCode) :
    ∃ s w', (boundsPanic k x y code : Sem α).run P w = .halt (.panic (boundsValue P (IntKind.i64.wrap x) y s code.toNat)) w' ∧ (w' = w ∨ w' = w.drew) := by
  unfold boundsPanic boundsValue
  split
  · simp [runtimePanic, goPanic, go_sem]
    by_cases hq : (Question.extern "runtime.boundsError.signed" 2).cut (w.tape w.drawn (Question.extern "runtime.boundsError.signed" 2)) = 1
    · exact .inr ⟨_, ⟨hq, rfl⟩, .inr rfl⟩
    · exact .inl ⟨_, ⟨hq, rfl⟩, .inr rfl⟩
  · simp [runtimePanic, goPanic, go_sem]
    by_cases hk : k = .u64
    · exact .inl ⟨_, ⟨hk, rfl⟩, .inl rfl⟩
    · exact .inr ⟨_, ⟨hk, rfl⟩, .inl rfl⟩
set_option maxRecDepth 100000 in
theorem out3 {w : World} (g : Nat) (i : Int) (h : 2 < i) : ∃ s w', (Instr.indexAt 44 (.slice (some ⟨g, 0, none⟩) 3 3) (.int .i64 i)).run Tryd.prog w = .halt (.panic (boundsValue Tryd.prog (IntKind.i64.wrap i) 3 s 0)) w' ∧ (w' = w ∨ w' = w.drew) := by
  rw [run_indexAt_slice (h := Tryd.underlying44), if_neg (by omega)]
  exact bp .i64 i 3 .index
set_option maxRecDepth 100000 in
theorem boom_ok (w : World) (k : Int) (hk : k ≤ 2) (A B g : Nat) (hA : w.heap[A]? = some (.cells #[.int .i64 k] 3 (0, 0))) (hB : w.heap[B]? = some (.cells #[.slice (some ⟨g, 0, none⟩) 3 3] 44 (0, 0))) (hg : w.heap[g]? = some (.cells #[.int .i64 1, .int .i64 2, .int .i64 3] 3 (0, 0))) :
    Calls Tryd.prog 21 #[.pointer (some ⟨A, 0, none⟩), .pointer (some ⟨B, 0, none⟩)] w fun e w' => e = .returned (.tuple #[]) ∧ Below w.heap.size w w' := by
  have kA := cell1 hA
  have kB := cell1 hB
  have g0 : w.cell? ⟨g, 0, none⟩ = some (.int .i64 1) := by simp [World.cell?, hg]
  have g1 : w.cell? ⟨g, 1, none⟩ = some (.int .i64 2) := by simp [World.cell?, hg]
  have g2 : w.cell? ⟨g, 2, none⟩ = some (.int .i64 3) := by simp [World.cell?, hg]
  clear hA hB hg
  by_cases h0 : 0 ≤ k
  · have hc : k = 0 ∨ k = 1 ∨ k = 2 := by omega
    rcases hc with rfl | rfl | rfl
    all_goals
      go_enter Tryd.func21, Tryd.ntmps21
      go_wp2
      first | go_end0 | skip
      all_goals exact ⟨rfl, by first | exact Below.refl _ _ | exact (Below.refl _ _).drew⟩
  · go_enter Tryd.func21, Tryd.ntmps21
    go_wp2
    go_end0
    exact ⟨rfl, Below.refl _ _⟩
set_option maxRecDepth 100000 in
theorem boom_bad (w : World) (k : Int) (hk : 2 < k) (A B g : Nat) (hA : w.heap[A]? = some (.cells #[.int .i64 k] 3 (0, 0))) (hB : w.heap[B]? = some (.cells #[.slice (some ⟨g, 0, none⟩) 3 3] 44 (0, 0))) :
    ∃ u pv, Calls Tryd.prog 21 #[.pointer (some ⟨A, 0, none⟩), .pointer (some ⟨B, 0, none⟩)] w fun e w' => e = .panicked [{ v := .iface u pv, recovered := false }] ∧ Below w.heap.size w w' := by
  have kA := cell1 hA
  have kB := cell1 hB
  obtain ⟨s, w', hrun, hw⟩ := out3 (w := w) g k hk
  have h0 : 0 ≤ k := by omega
  unfold boundsValue at hrun
  obtain ⟨u, hu⟩ : ∃ u, Tryd.prog.rt.boundsError = u := ⟨_, rfl⟩
  obtain ⟨pv, hpv⟩ : ∃ pv, Value.agg #[.int .i64 (IntKind.i64.wrap k), .int .i64 3, .bool s, .int .u8 ((0 : Nat) : Int)] = pv := ⟨_, rfl⟩
  rw [hpv, hu] at hrun
  refine ⟨u, pv, ?_⟩
  have hb : Below w.heap.size w w' := by rcases hw with rfl | rfl; exact Below.refl _ _; exact (Below.refl _ _).drew
  clear hA hB hw hu hpv
  go_enter Tryd.func21, Tryd.ntmps21
  go_wp2
  first | exact ⟨rfl, hb⟩ | simp [bodyPost, hb]
theorem boom_any (w : World) (k : Int) (g : Nat) :
    Calls Tryd.prog 14 #[.slice (some ⟨g, 0, none⟩) 3 3, .int .i64 k] w fun e w' => e = .returned (.func (.func 21) #[] #[.pointer (some ⟨w.heap.size + 1, 0, none⟩), .pointer (some ⟨w.heap.size, 0, none⟩)]) ∧ w' = (w.alloc (.cells #[.slice (some ⟨g, 0, none⟩) 3 3] 44)).alloc (.cells #[.int .i64 k] 3) := by
  have hmf : ∀ (fn : Fn) (first cap : Array Value) (w : World), (Instr.makeFunc fn first cap).run Tryd.prog w = .ok (.func fn first cap) w := fun _ _ _ _ => rfl
  go_enter Tryd.func14, Tryd.ntmps14
  go_wp2
  go_ret
  exact ⟨rfl, rfl⟩
theorem bg_ok (w : World) (k : Int) (hk : k ≤ 2) (g : Nat) (s : ByteArray) (hg : w.heap[g]? = some (.cells #[.int .i64 1, .int .i64 2, .int .i64 3] 3 (0, 0))) :
    Calls Tryd.prog 13 #[.string s, .func (.func 21) #[] #[.pointer (some ⟨w.heap.size + 1, 0, none⟩), .pointer (some ⟨w.heap.size, 0, none⟩)]] ((w.alloc (.cells #[.slice (some ⟨g, 0, none⟩) 3 3] 44)).alloc (.cells #[.int .i64 k] 3)) fun e w' => e = .returned .nilIface ∧ Below w.heap.size w w' := by
  have s1 := al_size w (.cells #[.slice (some ⟨g, 0, none⟩) 3 3] 44)
  refine (guard_ok _ _ _ s (fun w => by kernel_rfl) (boom_ok _ k hk _ _ g (al_keep (by rw [← s1]; exact heap_alloc_new _ _)) (al_keep (al_keep (heap_alloc_new _ _))) (al_keep (al_keep (al_keep hg))))).mono ?_
  rintro e w' ⟨he, hb⟩
  exact ⟨he, keepE (keepE (al_bel w _) (al_bel _ _)) hb⟩
theorem bg_bad (w : World) (k : Int) (hk : 2 < k) (g : Nat) (s : ByteArray) :
    Calls Tryd.prog 13 #[.string s, .func (.func 21) #[] #[.pointer (some ⟨w.heap.size + 1, 0, none⟩), .pointer (some ⟨w.heap.size, 0, none⟩)]] ((w.alloc (.cells #[.slice (some ⟨g, 0, none⟩) 3 3] 44)).alloc (.cells #[.int .i64 k] 3)) fun e w' => ∃ b, e = .returned (.iface 32 (.pointer (some ⟨b, 0, none⟩))) ∧ ErrAt w' [.src s] (some 2) (.iface 32 (.pointer (some ⟨b, 0, none⟩))) ∧ Below w.heap.size w w' := by
  have s1 := al_size w (.cells #[.slice (some ⟨g, 0, none⟩) 3 3] 44)
  obtain ⟨u, pv, hc⟩ := boom_bad (((w.alloc (.cells #[.slice (some ⟨g, 0, none⟩) 3 3] 44)).alloc (.cells #[.int .i64 k] 3)).alloc (.cells #[.bool false] 4)) k hk (w.heap.size + 1) w.heap.size g (al_keep (by rw [← s1]; exact heap_alloc_new _ _)) (al_keep (al_keep (heap_alloc_new _ _)))
  refine (guard_bad _ _ _ s u pv (fun w => by kernel_rfl) hc).mono ?_
  rintro e w' ⟨b, he, hE, hb⟩
  exact ⟨b, he, hE, keepE (keepE (al_bel w _) (al_bel _ _)) hb⟩
theorem of_two (w : World) (s : ByteArray) (v : Value) (h : ErrAt w [.src s] (some 2) v) : Calls Tryd.prog 10 #[v] w fun e w' => e = .returned (.int .i64 2) ∧ Below w.heap.size w w' := of_any w _ _ _ h
set_option maxHeartbeats 1000000 in
set_option maxRecDepth 100000 in
theorem guard_walk (s : ByteArray) (k : Int) (w : World) (hs : s.size ≤ maxLen) (hg : w.cell? ⟨0, 0, none⟩ = some (rT 25)) :
    Calls Tryd.prog 4 #[.string s, .int .i64 k] w fun e w' => e = .returned (.bool true) ∧ Below w.heap.size w w' := by
  have HBg := Lib.hid (begun9_any w hg)
  have HG := Lib.hid hg
  clear hg
  by_cases hl : 50 < s.size
  · go_enter Tryd.func4, Tryd.ntmps4
    go_upto_region 7 with (go_at_call 6; refine HBg.out.mono ?_; rintro e w2 ⟨rfl, hb⟩; have HB2 := Lib.hid hb; clear hb)
    obtain ⟨w3, hw3⟩ : ∃ W, w2.alloc (.cells #[.int .i64 1, .int .i64 2, .int .i64 3] 3) = W := ⟨_, rfl⟩
    have h3 : w3.heap[w2.heap.size]? = some (.cells #[.int .i64 1, .int .i64 2, .int .i64 3] 3 (0, 0)) := hw3 ▸ heap_alloc_new w2 _
    have HB3 : Hid (Below w.heap.size w w3) := Lib.hid (hw3 ▸ keepE HB2.out (al_bel w2 _))
    obtain ⟨g, hgq⟩ : ∃ q, w2.heap.size = q := ⟨_, rfl⟩
    rw [hw3]
    rw [hgq] at h3 ⊢
    clear hw3 hgq
    by_cases hk : k ≤ 2
    · have hk2 : ¬ 2 < k := by omega
      have HGd := Lib.hid (bg_ok w3 k hk g (s.extract 0 50) h3)
      clear h3
      go_upto_region 9 with (first | (go_at_call 14; refine (boom_any _ _ _).mono ?_; rintro e w4 ⟨rfl, hw4⟩; have HW4 := Lib.hid hw4; clear hw4) | (go_at_call 13; rw [HW4.out]; refine HGd.out.mono ?_; rintro e w5 ⟨rfl, hb⟩; have HB5 := Lib.hid (keepE HB3.out hb); clear hb))
      go_upto_region 10 with (go_at_call 13; refine (guard_nil _ _).mono ?_; rintro e w6 ⟨b2, rfl, he, hb⟩; have HE6 := Lib.hid he; have HB6 := Lib.hid (keepE HB5.out hb); clear he hb)
      have n1 := nilNe
      have n2 := neqN
      have HOf := Lib.hid (of_two w6 _ _ HE6.out)
      go_wp2_with (go_at_call 10; refine HOf.out.mono ?_; rintro e w7 ⟨rfl, hb⟩; have HB7 := Lib.hid (keepE HB6.out hb); clear hb)
      go_ret
      exact ⟨rfl, HB7.out⟩
    · have hk2 : 2 < k := by omega
      have HGd := Lib.hid (bg_bad w3 k hk2 g (s.extract 0 50))
      clear h3
      go_upto_region 9 with (first | (go_at_call 14; refine (boom_any _ _ _).mono ?_; rintro e w4 ⟨rfl, hw4⟩; have HW4 := Lib.hid hw4; clear hw4) | (go_at_call 13; rw [HW4.out]; refine HGd.out.mono ?_; rintro e w5 ⟨b1, rfl, he, hb⟩; have HE5 := Lib.hid he; have HB5 := Lib.hid (keepE HB3.out hb); clear he hb))
      go_upto_region 10 with (go_at_call 13; refine (guard_nil _ _).mono ?_; rintro e w6 ⟨b2, rfl, he, hb⟩; have HE6 := Lib.hid he; have HE5b := Lib.hid (HE5.out.below hb); have HB6 := Lib.hid (keepE HB5.out hb); clear he hb)
      have n1 := nilNe
      have HOf : Hid (∀ W, Below w6.heap.size w6 W → ∀ b, b = b1 ∨ b = b2 → Calls Tryd.prog 10 #[.iface 32 (.pointer (some ⟨b, 0, none⟩))] W fun e w' => e = .returned (.int .i64 2) ∧ Below w6.heap.size w6 w') := Lib.hid (fun W hW b hb => by
        rcases hb with rfl | rfl
        · exact (of_two W _ _ (HE5b.out.below hW)).mono (fun e w' ⟨he, hb⟩ => ⟨he, keepE hW hb⟩)
        · exact (of_two W _ _ (HE6.out.below hW)).mono (fun e w' ⟨he, hb⟩ => ⟨he, keepE hW hb⟩))
      have HSr : Hid (∀ W, Below w6.heap.size w6 W → Calls Tryd.prog 11 #[.iface 32 (.pointer (some ⟨b1, 0, none⟩))] W fun e w' => e = .returned (.string (s.extract 0 50)) ∧ Below w6.heap.size w6 w') := Lib.hid (fun W hW => (osrc_any W _ _ _ (HE5b.out.below hW) (glob_keep HG.out (keepE HB6.out hW))).mono (fun e w' ⟨he, hb⟩ => ⟨he, keepE hW hb⟩))
      have HBx := Lib.hid (Below.refl w6.heap.size w6)
      go_wp2_with (first | (go_at_call 10; refine (HOf.out _ HBx.out _ (by first | exact .inl rfl | exact .inr rfl)).mono ?_; rintro e w7 ⟨rfl, hb⟩; have HBx := Lib.hid hb; clear hb) | (go_at_call 11; refine (HSr.out _ HBx.out).mono ?_; rintro e w8 ⟨rfl, hb⟩; have HBx := Lib.hid hb; clear hb))
      go_ret
      exact ⟨rfl, keepE HB6.out HBx.out⟩
  · go_enter Tryd.func4, Tryd.ntmps4
    go_upto_region 7 with (go_at_call 6; refine HBg.out.mono ?_; rintro e w2 ⟨rfl, hb⟩; have HB2 := Lib.hid hb; clear hb)
    obtain ⟨w3, hw3⟩ : ∃ W, w2.alloc (.cells #[.int .i64 1, .int .i64 2, .int .i64 3] 3) = W := ⟨_, rfl⟩
    have h3 : w3.heap[w2.heap.size]? = some (.cells #[.int .i64 1, .int .i64 2, .int .i64 3] 3 (0, 0)) := hw3 ▸ heap_alloc_new w2 _
    have HB3 : Hid (Below w.heap.size w w3) := Lib.hid (hw3 ▸ keepE HB2.out (al_bel w2 _))
    obtain ⟨g, hgq⟩ : ∃ q, w2.heap.size = q := ⟨_, rfl⟩
    rw [hw3]
    rw [hgq] at h3 ⊢
    clear hw3 hgq
    by_cases hk : k ≤ 2
    · have hk2 : ¬ 2 < k := by omega
      have HGd := Lib.hid (bg_ok w3 k hk g (s) h3)
      clear h3
      go_upto_region 9 with (first | (go_at_call 14; refine (boom_any _ _ _).mono ?_; rintro e w4 ⟨rfl, hw4⟩; have HW4 := Lib.hid hw4; clear hw4) | (go_at_call 13; rw [HW4.out]; refine HGd.out.mono ?_; rintro e w5 ⟨rfl, hb⟩; have HB5 := Lib.hid (keepE HB3.out hb); clear hb))
      go_upto_region 10 with (go_at_call 13; refine (guard_nil _ _).mono ?_; rintro e w6 ⟨b2, rfl, he, hb⟩; have HE6 := Lib.hid he; have HB6 := Lib.hid (keepE HB5.out hb); clear he hb)
      have n1 := nilNe
      have n2 := neqN
      have HOf := Lib.hid (of_two w6 _ _ HE6.out)
      go_wp2_with (go_at_call 10; refine HOf.out.mono ?_; rintro e w7 ⟨rfl, hb⟩; have HB7 := Lib.hid (keepE HB6.out hb); clear hb)
      go_ret
      exact ⟨rfl, HB7.out⟩
    · have hk2 : 2 < k := by omega
      have HGd := Lib.hid (bg_bad w3 k hk2 g (s))
      clear h3
      go_upto_region 9 with (first | (go_at_call 14; refine (boom_any _ _ _).mono ?_; rintro e w4 ⟨rfl, hw4⟩; have HW4 := Lib.hid hw4; clear hw4) | (go_at_call 13; rw [HW4.out]; refine HGd.out.mono ?_; rintro e w5 ⟨b1, rfl, he, hb⟩; have HE5 := Lib.hid he; have HB5 := Lib.hid (keepE HB3.out hb); clear he hb))
      go_upto_region 10 with (go_at_call 13; refine (guard_nil _ _).mono ?_; rintro e w6 ⟨b2, rfl, he, hb⟩; have HE6 := Lib.hid he; have HE5b := Lib.hid (HE5.out.below hb); have HB6 := Lib.hid (keepE HB5.out hb); clear he hb)
      have n1 := nilNe
      have HOf : Hid (∀ W, Below w6.heap.size w6 W → ∀ b, b = b1 ∨ b = b2 → Calls Tryd.prog 10 #[.iface 32 (.pointer (some ⟨b, 0, none⟩))] W fun e w' => e = .returned (.int .i64 2) ∧ Below w6.heap.size w6 w') := Lib.hid (fun W hW b hb => by
        rcases hb with rfl | rfl
        · exact (of_two W _ _ (HE5b.out.below hW)).mono (fun e w' ⟨he, hb⟩ => ⟨he, keepE hW hb⟩)
        · exact (of_two W _ _ (HE6.out.below hW)).mono (fun e w' ⟨he, hb⟩ => ⟨he, keepE hW hb⟩))
      have HSr : Hid (∀ W, Below w6.heap.size w6 W → Calls Tryd.prog 11 #[.iface 32 (.pointer (some ⟨b1, 0, none⟩))] W fun e w' => e = .returned (.string (s)) ∧ Below w6.heap.size w6 w') := Lib.hid (fun W hW => (osrc_any W _ _ _ (HE5b.out.below hW) (glob_keep HG.out (keepE HB6.out hW))).mono (fun e w' ⟨he, hb⟩ => ⟨he, keepE hW hb⟩))
      have HBx := Lib.hid (Below.refl w6.heap.size w6)
      go_wp2_with (first | (go_at_call 10; refine (HOf.out _ HBx.out _ (by first | exact .inl rfl | exact .inr rfl)).mono ?_; rintro e w7 ⟨rfl, hb⟩; have HBx := Lib.hid hb; clear hb) | (go_at_call 11; refine (HSr.out _ HBx.out).mono ?_; rintro e w8 ⟨rfl, hb⟩; have HBx := Lib.hid hb; clear hb))
      go_ret
      exact ⟨rfl, keepE HB6.out HBx.out⟩
end Go.Proofs.YtfpgobbkeocokaaDoor
