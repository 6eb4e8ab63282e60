/- Contracts: Hear, Bytes of package source. -/
import Derived.Test.YtpdkjifalgeodaaSn
namespace Go.Proofs.Ytpdkjifalgeodaa
open Go.RowKit Go.Extern.Stop Go.Stop Go.Extern Go.Lib
def noPolls (d : DefL) (y : Bool) : DefL := if y then { d with polls := 0 } else d
theorem noPolls_hears (d : DefL) (y : Bool) : (noPolls d y).hears = d.hears := by unfold noPolls; split <;> rfl
theorem three_new (w : World) (A B C : Obj) : ∃ W, ((w.alloc A).alloc B).alloc C = W ∧ W.heap[w.heap.size]? = some A ∧ W.heap[w.heap.size + 1]? = some B ∧ W.heap[w.heap.size + 2]? = some C ∧ W.heap.size = w.heap.size + 3 ∧ Below w.heap.size w W := by
  have s1 := al_size w A
  have s2 := al_size (w.alloc A) B
  have s3 := al_size ((w.alloc A).alloc B) C
  refine ⟨_, rfl, al_keep (heap_alloc2_old w A B), al_keep (heap_alloc2_new w A B), ?_, by omega, keepE (keepE (al_bel w A) (al_bel _ B)) (al_bel _ C)⟩
  have := heap_alloc_new ((w.alloc A).alloc B) C
  rwa [s2, s1] at this
theorem but_in {w W w' : World} {b : Nat} (hB : Below w.heap.size w W) (h : ButL W.heap.size [b] W w') : ButL w.heap.size [b] w w' := (ButL.of_below hB).but h hB.size (fun k hk => .inl hk)
set_option maxHeartbeats 1000000 in
set_option maxRecDepth 100000 in
theorem hear_core (o : Value) (ho : o = .nilIface ∨ ∃ t x, o = .iface t x) (f : ByteArray) (p : Option Addr) (m c : Nat) (w : World) (r : Bool) (R : World → Prop)
    (HT : ∀ W, W = (w.alloc (.cells #[.string f] 9)).alloc (.cells #[.slice p m c] 29) → Calls Try.prog 30 #[o, .func (.func 31) #[] #[.pointer (some ⟨w.heap.size, 0, none⟩), .pointer (some ⟨w.heap.size + 1, 0, none⟩)]] W fun e w' => e = .returned (.bool r) ∧ R w') :
    Calls Try.prog 13 #[o, .string f, .slice p m c] w fun e w' => e = .returned (.bool r) ∧ R w' := by
  obtain ⟨W, hW, hA, hB, hz, hb⟩ := two_new w (.cells #[.string f] 9) (.cells #[.slice p m c] 29)
  have HT2 := Lib.hid (HT W hW.symm)
  have HW := Lib.hid hW
  have hmf := mfn
  clear HT hA hB hz hb hW
  rcases ho with rfl | ⟨t, x, rfl⟩
  all_goals
    go_enter Try.func13, Try.ntmps13
    go_upto_region 1 with (fail)
    rw [HW.out]
    go_wp2_with (go_at_call 30; refine HT2.out.mono ?_; rintro e w2 ⟨rfl, hr⟩; have HR := Lib.hid hr; clear hr)
    go_ret
    exact ⟨rfl, HR.out⟩
set_option maxHeartbeats 1000000 in
set_option maxRecDepth 100000 in
theorem bytes_core (o : Value) (ho : o = .nilIface ∨ ∃ t x, o = .iface t x) (s : Int) (p : Option Addr) (m c : Nat) (en : Bool) (w : World) (r : Bool) (R : World → Prop)
    (HT : ∀ W, W = ((w.alloc (.cells #[.int .i64 s] 3)).alloc (.cells #[.slice p m c] 29)).alloc (.cells #[.bool en] 4) → Calls Try.prog 30 #[o, .func (.func 33) #[] #[.pointer (some ⟨w.heap.size, 0, none⟩), .pointer (some ⟨w.heap.size + 1, 0, none⟩), .pointer (some ⟨w.heap.size + 2, 0, none⟩)]] W fun e w' => e = .returned (.bool r) ∧ R w') :
    Calls Try.prog 14 #[o, .int .i64 s, .slice p m c, .bool en] w fun e w' => e = .returned (.bool r) ∧ R w' := by
  obtain ⟨W, hW, hA, hB, hC, hz, hb⟩ := three_new w (.cells #[.int .i64 s] 3) (.cells #[.slice p m c] 29) (.cells #[.bool en] 4)
  have HT2 := Lib.hid (HT W hW.symm)
  have HW := Lib.hid hW
  have hmf := mfn
  clear HT hA hB hC hz hb hW
  rcases ho with rfl | ⟨t, x, rfl⟩
  all_goals
    go_enter Try.func14, Try.ntmps14
    go_upto_region 1 with (fail)
    rw [HW.out]
    go_wp2_with (go_at_call 30; refine HT2.out.mono ?_; rintro e w2 ⟨rfl, hr⟩; have HR := Lib.hid hr; clear hr)
    go_ret
    exact ⟨rfl, HR.out⟩
theorem hear_any (d : DefL) (n h : Int) (b : Nat) (v : Value) (f : ByteArray) (p : Option Addr) (m c : Nat) (xs : List Int) (w : World) (hO : OpAt w d n h b v) (h0 : 0 ≤ h) (h1 : h < 1000) (hx : BytS w p m c xs) (hm : m ≤ 1000000) :
    Calls Try.prog 13 #[v, .string f, .slice p m c] w fun e w' => e = .returned (.bool d.hears) ∧ (∃ h', 0 ≤ h' ∧ h' ≤ h + 1 ∧ OpAt w' (noPolls d (d.hears && decide (0 < m))) n h' b v) ∧ ButL w.heap.size [b] w w' := by
  refine hear_core v (by obtain ⟨t, e⟩ := hO.iface; exact .inr ⟨t, _, e⟩) f p m c w d.hears (fun w' => (∃ h', 0 ≤ h' ∧ h' ≤ h + 1 ∧ OpAt w' (noPolls d (d.hears && decide (0 < m))) n h' b v) ∧ ButL w.heap.size [b] w w') (fun W hW => ?_)
  obtain ⟨W', hW', hA, hB, hz, hb⟩ := two_new w (.cells #[.string f] 9) (.cells #[.slice p m c] 29)
  rw [← hW] at hW'
  subst hW'
  have hbl := hO.lt
  rcases hO with ⟨hh, rfl, hc⟩ | ⟨hh, rfl, hc⟩
  · rw [hh]
    refine (tell_op _ _ _ W).mono ?_
    rintro e w' ⟨he, hb2⟩
    exact ⟨he, ⟨h, h0, by omega, .inl ⟨by rw [noPolls_hears]; exact hh, rfl, ((keepE hb hb2).block _ hbl).trans hc⟩⟩, ButL.of_below (keepE hb hb2)⟩
  · rw [hh]
    have key : ∀ W2, Below W.heap.size W W2 → W2.heap[b]? = some (.cells (heC d n h) 158 (0, 0)) ∧ BytS W2 p m c xs ∧ W2.heap[w.heap.size]? = some (.cells #[.string f] 9 (0, 0)) ∧ W2.heap[w.heap.size + 1]? = some (.cells #[.slice p m c] 29 (0, 0)) := fun W2 h2 =>
      ⟨((keepE hb h2).block _ hbl).trans hc, hx.below (fun k hk => (keepE hb h2).block k hk), (h2.block _ (by omega)).trans hA, (h2.block _ (by omega)).trans hB⟩
    by_cases hm0 : 0 < m
    · rw [show (true && decide (0 < m)) = true from by simpa using hm0]
      refine (tell_he 31 _ b (heC { d with polls := 0 } n (h + 1)) 158 W (by omega) (fun w => by kernel_rfl) (fun W2 h2 => ?_)).mono ?_
      · obtain ⟨k1, k2, k3, k4⟩ := key W2 h2
        exact hearC_pos d n h b f p m c xs _ _ W2 k1 h0 h1 k2 hm hm0 k3 k4
      · rintro e w' ⟨he, hc2, hb2⟩
        exact ⟨he, ⟨h + 1, by omega, by omega, .inr ⟨by rw [noPolls_hears]; exact hh, rfl, hc2⟩⟩, but_in hb hb2⟩
    · obtain rfl : m = 0 := by omega
      rw [show (true && decide (0 < 0)) = false from by decide]
      refine (tell_he_bad 31 _ b (heC d n (h + 1)) 158 W (by omega) (fun w => by kernel_rfl) (fun W2 h2 => ?_)).mono ?_
      · obtain ⟨k1, k2, k3, k4⟩ := key W2 h2
        exact hearC_zero d n h b f p c xs _ _ W2 k1 h0 h1 k2 k3 k4
      · rintro e w' ⟨he, hc2, hb2⟩
        exact ⟨he, ⟨h + 1, by omega, by omega, .inr ⟨by rw [noPolls_hears]; exact hh, rfl, hc2⟩⟩, but_in hb hb2⟩
theorem bytes_any (d : DefL) (n h : Int) (b : Nat) (v : Value) (s : Int) (p : Option Addr) (m c : Nat) (xs : List Int) (en : Bool) (w : World) (hO : OpAt w d n h b v) (h0 : 0 ≤ h) (h1 : h < 1000) (hx : BytS w p m c xs) (hm : m ≤ 1000000) :
    Calls Try.prog 14 #[v, .int .i64 s, .slice p m c, .bool en] w fun e w' => e = .returned (.bool d.hears) ∧ (∃ h', 0 ≤ h' ∧ h' ≤ h + 1 ∧ OpAt w' (noPolls d (d.hears && en)) n h' b v) ∧ ButL w.heap.size [b] w w' := by
  refine bytes_core v (by obtain ⟨t, e⟩ := hO.iface; exact .inr ⟨t, _, e⟩) s p m c en w d.hears (fun w' => (∃ h', 0 ≤ h' ∧ h' ≤ h + 1 ∧ OpAt w' (noPolls d (d.hears && en)) n h' b v) ∧ ButL w.heap.size [b] w w') (fun W hW => ?_)
  obtain ⟨W', hW', hA, hB, hC, hz, hb⟩ := three_new w (.cells #[.int .i64 s] 3) (.cells #[.slice p m c] 29) (.cells #[.bool en] 4)
  rw [← hW] at hW'
  subst hW'
  have hbl := hO.lt
  rcases hO with ⟨hh, rfl, hc⟩ | ⟨hh, rfl, hc⟩
  · rw [hh]
    refine (tell_op _ _ _ W).mono ?_
    rintro e w' ⟨he, hb2⟩
    exact ⟨he, ⟨h, h0, by omega, .inl ⟨by rw [noPolls_hears]; exact hh, rfl, ((keepE hb hb2).block _ hbl).trans hc⟩⟩, ButL.of_below (keepE hb hb2)⟩
  · rw [hh]
    refine (tell_he 33 _ b (heC (if en then { d with polls := 0 } else d) n (h + 1)) 158 W (by omega) (fun w => by kernel_rfl) (fun W2 h2 => ?_)).mono ?_
    · exact bytesC_any d n h b s en p m c xs _ _ _ W2 (((keepE hb h2).block _ hbl).trans hc) h0 h1 (hx.below (fun k hk => (keepE hb h2).block k hk)) hm ((h2.block _ (by omega)).trans hA) ((h2.block _ (by omega)).trans hB) ((h2.block _ (by omega)).trans hC)
    · rintro e w' ⟨he, hc2, hb2⟩
      exact ⟨he, ⟨h + 1, by omega, by omega, .inr ⟨by rw [noPolls_hears]; exact hh, rfl, hc2⟩⟩, but_in hb hb2⟩
theorem hear_nil (f : ByteArray) (p : Option Addr) (m c : Nat) (w : World) : Calls Try.prog 13 #[.nilIface, .string f, .slice p m c] w fun e w' => e = .returned (.bool false) ∧ Below w.heap.size w w' := by
  refine hear_core .nilIface (.inl rfl) f p m c w false (fun w' => Below w.heap.size w w') (fun W hW => ?_)
  refine (tell_nil _ _ W).mono ?_
  rintro e w' ⟨he, hb⟩
  exact ⟨he, keepE (by rw [hW]; exact keepE (al_bel w _) (al_bel _ _)) hb⟩
theorem bytes_nil (s : Int) (p : Option Addr) (m c : Nat) (en : Bool) (w : World) : Calls Try.prog 14 #[.nilIface, .int .i64 s, .slice p m c, .bool en] w fun e w' => e = .returned (.bool false) ∧ Below w.heap.size w w' := by
  refine bytes_core .nilIface (.inl rfl) s p m c en w false (fun w' => Below w.heap.size w w') (fun W hW => ?_)
  refine (tell_nil _ _ W).mono ?_
  rintro e w' ⟨he, hb⟩
  exact ⟨he, keepE (by rw [hW]; exact keepE (keepE (al_bel w _) (al_bel _ _)) (al_bel _ _)) hb⟩
end Go.Proofs.Ytpdkjifalgeodaa
