/- Contracts: tell, Hear, Bytes. -/
import Derived.Test.YtpdkjifalgeodaaSm
namespace Go.Proofs.Ytpdkjifalgeodaa
open Go.RowKit Go.Extern.Stop Go.Stop Go.Extern Go.Lib
set_option maxHeartbeats 1000000 in
set_option maxRecDepth 100000 in
theorem tellC_back (K : Nat) (caps : Array Value) (A B : Nat) (t : TypeId) (x : Value) (w : World) (R : World → Prop) (hA : w.heap[A]? = some (.cells #[.func (.func K) #[] caps] 89 (0, 0))) (hB : w.heap[B]? = some (.cells #[.iface t x] 86 (0, 0)))
    (hE : ∀ w, (callFunc K (#[.iface t x] ++ caps)).run Try.prog w = .ok (.enter K (#[.iface t x] ++ caps)) w) (hK : Calls Try.prog K (#[.iface t x] ++ caps) w fun e w' => e = .returned (.tuple #[]) ∧ R w') :
    Calls Try.prog 42 #[.pointer (some ⟨A, 0, none⟩), .pointer (some ⟨B, 0, none⟩)] w fun e w' => e = .returned (.tuple #[]) ∧ R w' := by
  have kA := cell1 hA
  have kB := cell1 hB
  clear hA hB
  go_enter Try.func42, Try.ntmps42
  go_wp2
  refine hK.mono ?_
  rintro e w2 ⟨rfl, hr⟩
  have HR := Lib.hid hr
  clear hr hK hE
  go_wp2
  go_end0
  exact ⟨rfl, HR.out⟩
set_option maxHeartbeats 1000000 in
set_option maxRecDepth 100000 in
theorem tellC_bad (K : Nat) (caps : Array Value) (A B : Nat) (t : TypeId) (x : Value) (w : World) (R : World → Prop) (hA : w.heap[A]? = some (.cells #[.func (.func K) #[] caps] 89 (0, 0))) (hB : w.heap[B]? = some (.cells #[.iface t x] 86 (0, 0)))
    (hE : ∀ w, (callFunc K (#[.iface t x] ++ caps)).run Try.prog w = .ok (.enter K (#[.iface t x] ++ caps)) w) (hK : Calls Try.prog K (#[.iface t x] ++ caps) w fun e w' => Boom e ∧ R w') :
    Calls Try.prog 42 #[.pointer (some ⟨A, 0, none⟩), .pointer (some ⟨B, 0, none⟩)] w fun e w' => Boom e ∧ R w' := by
  have kA := cell1 hA
  have kB := cell1 hB
  clear hA hB
  go_enter Try.func42, Try.ntmps42
  go_wp2
  refine hK.mono ?_
  rintro e w2 ⟨⟨u, pv, rfl⟩, hr⟩
  exact ⟨rfl, ⟨_, _, rfl⟩, hr⟩
theorem asNH (x : TypeId) (w : World) : (Instr.typeAssert .nilIface x 86 true).run Try.prog w = .ok (.tuple #[.nilIface, .bool false]) w := by kernel_rfl
set_option maxHeartbeats 1000000 in
set_option maxRecDepth 100000 in
/-- tell at one that hears: what the call keeps of the world in which it is made (R), and true. -/
theorem tell_core (K : Nat) (caps : Array Value) (v : Value) (w : World) (R : World → World → Prop)
    (HG : ∀ W, W = (w.alloc (.cells #[.func (.func K) #[] caps] 89)).alloc (.cells #[.iface 154 v] 86) → Calls Try.prog 25 #[.string ⟨#[]⟩, .func (.func 42) #[] #[.pointer (some ⟨w.heap.size, 0, none⟩), .pointer (some ⟨w.heap.size + 1, 0, none⟩)]] W fun e w2 => (∃ ev, e = .returned ev) ∧ R w w2) :
    Calls Try.prog 30 #[.iface 154 v, .func (.func K) #[] caps] w fun e w' => e = .returned (.bool true) ∧ R w w' := by
  obtain ⟨W, hW, hA, hB, hz, hb⟩ := two_new w (.cells #[.func (.func K) #[] caps] 89) (.cells #[.iface 154 v] 86)
  have HG2 := Lib.hid (HG W hW.symm)
  have HW := Lib.hid hW
  have hmf := mfn
  have a1 := asHH
  clear HG hA hB hz hb hW
  go_enter Try.func30, Try.ntmps30
  go_upto_region 2 with (fail)
  rw [HW.out]
  go_wp2_with (go_at_call 25; refine HG2.out.mono ?_; rintro e w2 ⟨⟨ev, rfl⟩, hr⟩; have HR := Lib.hid hr; clear hr)
  go_ret
  exact ⟨rfl, HR.out⟩
set_option maxHeartbeats 1000000 in
set_option maxRecDepth 100000 in
theorem tell_op (K : Nat) (caps : Array Value) (v : Value) (w : World) :
    Calls Try.prog 30 #[.iface 159 v, .func (.func K) #[] caps] w fun e w' => e = .returned (.bool false) ∧ Below w.heap.size w w' := by
  have HB : Hid (Below w.heap.size w ((w.alloc (.cells #[.func (.func K) #[] caps] 89)).alloc (.cells #[.nilIface] 86))) := Lib.hid (keepE (al_bel w _) (al_bel _ _))
  have hmf := mfn
  have a1 := asOH
  go_enter Try.func30, Try.ntmps30
  go_wp2
  go_ret
  exact ⟨rfl, HB.out⟩
set_option maxHeartbeats 1000000 in
set_option maxRecDepth 100000 in
theorem tell_nil (K : Nat) (caps : Array Value) (w : World) :
    Calls Try.prog 30 #[.nilIface, .func (.func K) #[] caps] w fun e w' => e = .returned (.bool false) ∧ Below w.heap.size w w' := by
  have HB : Hid (Below w.heap.size w ((w.alloc (.cells #[.func (.func K) #[] caps] 89)).alloc (.cells #[.nilIface] 86))) := Lib.hid (keepE (al_bel w _) (al_bel _ _))
  have a1 := asNH
  go_enter Try.func30, Try.ntmps30
  go_wp2
  go_ret
  exact ⟨rfl, HB.out⟩
theorem two_out {w W w3 : World} {b : Nat} (hB : Below w.heap.size w W) (hz : W.heap.size = w.heap.size + 2) (h : ButL (W.alloc gbox).heap.size [b] (W.alloc gbox) w3) (v : Value) : ButL w.heap.size [b] w (w3.setCell ⟨W.heap.size, 0, none⟩ v) :=
  guard_but (ButL.of_below hB) (by omega) h (fun k hk => .inl hk) v
theorem two_out_bad {w W w3 : World} {b : Nat} (hB : Below w.heap.size w W) (hz : W.heap.size = w.heap.size + 2) (h : ButL (W.alloc gbox).heap.size [b] (W.alloc gbox) w3) (o : Obj) : ButL w.heap.size [b] w (w3.alloc o) :=
  (((ButL.of_below hB).alloc (by omega) gbox).but h (by rw [al_size]; omega) (fun k hk => .inl hk)).alloc (by have := h.size; rw [al_size] at this; omega) o
/-- tell at one that hears, with a call that comes back and leaves the question's block so. -/
theorem tell_he (K : Nat) (caps : Array Value) (b : Nat) (cs : Array Value) (t : TypeId) (w : World) (hbl : b < w.heap.size) (hE : ∀ w, (callFunc K (#[.iface 154 (.pointer (some ⟨b, 0, none⟩))] ++ caps)).run Try.prog w = .ok (.enter K (#[.iface 154 (.pointer (some ⟨b, 0, none⟩))] ++ caps)) w)
    (hK : ∀ W, Below w.heap.size w W → Calls Try.prog K (#[.iface 154 (.pointer (some ⟨b, 0, none⟩))] ++ caps) W fun e w' => e = .returned (.tuple #[]) ∧ w'.heap[b]? = some (.cells cs t (0, 0)) ∧ ButL W.heap.size [b] W w') :
    Calls Try.prog 30 #[.iface 154 (.pointer (some ⟨b, 0, none⟩)), .func (.func K) #[] caps] w fun e w' => e = .returned (.bool true) ∧ w'.heap[b]? = some (.cells cs t (0, 0)) ∧ ButL w.heap.size [b] w w' := by
  refine tell_core K caps _ w (fun w w' => w'.heap[b]? = some (.cells cs t (0, 0)) ∧ ButL w.heap.size [b] w w') (fun W hW => ?_)
  obtain ⟨W', hW', hA, hB, hz, hb⟩ := two_new w (.cells #[.func (.func K) #[] caps] 89) (.cells #[.iface 154 (.pointer (some ⟨b, 0, none⟩))] 86)
  rw [← hW] at hW'
  subst hW'
  have hG := guard_ok 42 _ W ⟨#[]⟩ _ (fun w => by kernel_rfl) (tellC_back K caps w.heap.size (w.heap.size + 1) _ _ (W.alloc gbox) _ (al_keep hA) (al_keep hB) hE (hK _ (keepE hb (al_bel W gbox))))
    (fun w' ⟨_, hbt⟩ => (hbt.block _ (by rw [al_size]; omega) (by rw [List.mem_singleton]; omega)).trans (heap_alloc_new W _))
  refine hG.mono ?_
  rintro e w2 ⟨he, w3, ⟨hc, hbt⟩, rfl⟩
  exact ⟨⟨_, he⟩, (setN (by omega)).trans hc, two_out hb hz hbt _⟩
theorem tell_he_bad (K : Nat) (caps : Array Value) (b : Nat) (cs : Array Value) (t : TypeId) (w : World) (hbl : b < w.heap.size) (hE : ∀ w, (callFunc K (#[.iface 154 (.pointer (some ⟨b, 0, none⟩))] ++ caps)).run Try.prog w = .ok (.enter K (#[.iface 154 (.pointer (some ⟨b, 0, none⟩))] ++ caps)) w)
    (hK : ∀ W, Below w.heap.size w W → Calls Try.prog K (#[.iface 154 (.pointer (some ⟨b, 0, none⟩))] ++ caps) W fun e w' => Boom e ∧ w'.heap[b]? = some (.cells cs t (0, 0)) ∧ ButL W.heap.size [b] W w') :
    Calls Try.prog 30 #[.iface 154 (.pointer (some ⟨b, 0, none⟩)), .func (.func K) #[] caps] w fun e w' => e = .returned (.bool true) ∧ w'.heap[b]? = some (.cells cs t (0, 0)) ∧ ButL w.heap.size [b] w w' := by
  refine tell_core K caps _ w (fun w w' => w'.heap[b]? = some (.cells cs t (0, 0)) ∧ ButL w.heap.size [b] w w') (fun W hW => ?_)
  obtain ⟨W', hW', hA, hB, hz, hb⟩ := two_new w (.cells #[.func (.func K) #[] caps] 89) (.cells #[.iface 154 (.pointer (some ⟨b, 0, none⟩))] 86)
  rw [← hW] at hW'
  subst hW'
  have hG := guard_bad 42 _ W ⟨#[]⟩ _ (fun w => by kernel_rfl) (tellC_bad K caps w.heap.size (w.heap.size + 1) _ _ (W.alloc gbox) _ (al_keep hA) (al_keep hB) hE (hK _ (keepE hb (al_bel W gbox))))
    (fun w' ⟨_, hbt⟩ => (hbt.block _ (by rw [al_size]; omega) (by rw [List.mem_singleton]; omega)).trans (heap_alloc_new W _))
  refine hG.mono ?_
  rintro e w2 ⟨w3, ⟨hc, hbt⟩, rfl, he⟩
  exact ⟨⟨_, he⟩, al_keep hc, two_out_bad hb hz hbt _⟩
end Go.Proofs.Ytpdkjifalgeodaa
