/- Contracts: outcome.guard, outcome.Guard around a call that comes back, and one that panics, whatever the call keeps (R). -/
import Derived.Test.YtpdkjifalgeodaaSa
import Derived.Recover
import Derived.Defers
import Derived.Laws.Pointers
namespace Go.Proofs.Ytpdkjifalgeodaa
open Go.RowKit Go.Lib
theorem catch_idle (p : Addr) (w : World) (hc : w.cell? p = some (.bool true)) :
    CallsD Try.prog 47 #[.pointer (some p)] .returning w fun e u' w' => e = .returned (.tuple #[]) ∧ u' = .returning ∧ w' = w := by
  refine callsD_of_wpS Try.func47 rfl fun c₀ cs hu => ?_
  apply wpS_seq
  apply wpS_region
  simp [wpOpsS, go_sem, recoverD, hu, Try.ntmps47, Exit.thenS, hc]
  refine wpS_cond (t := false) (by simp [Act.eval, Array.replicate]) ?_
  simp only [Bool.false_eq_true, if_false]
  refine wpS_of_wp (wp_skip ?_)
  cases c₀
  simp_all [bodyPostS, results, Try.results47]
theorem catch_panicking (p : Addr) (u : TypeId) (pv : Value) (older : List PanicEntry) (w : World) (hc : w.cell? p = some (.bool false)) :
    CallsD Try.prog 47 #[.pointer (some p)] (.panicking ({ v := .iface u pv, recovered := false } :: older)) w fun e u' w' =>
      e = .returned (.tuple #[]) ∧ u' = .panicking ({ v := .iface u pv, recovered := true } :: older) ∧ w' = w := by
  refine callsD_of_wpS Try.func47 rfl fun c₀ cs hu => ?_
  apply wpS_seq
  apply wpS_region
  simp [wpOpsS, go_sem, recoverD, hu, Try.ntmps47, Exit.thenS, hc]
  refine wpS_cond (t := true) (by simp [Act.eval, Array.replicate]) ?_
  simp only [if_true]
  apply wpS_region
  simp [wpOpsS, go_sem, recoverD, hu, bodyPostS, results, Try.results47]
theorem guard_back (K : Nat) (caps : Array Value) (w : World) (R : World → Prop) (hE : ∀ w, (callFunc K caps).run Try.prog w = .ok (.enter K caps) w) (hK : Calls Try.prog K caps (w.alloc (.cells #[.bool false] 4)) fun e w' => e = .returned (.tuple #[]) ∧ R w')
    (hR : ∀ w', R w' → w'.heap[w.heap.size]? = some (.cells #[.bool false] 4 (0, 0))) :
    Calls Try.prog 41 #[.func (.func K) #[] caps] w fun e w'' => e = .returned (.bool true) ∧ ∃ w', R w' ∧ w'' = w'.setCell ⟨w.heap.size, 0, none⟩ (.bool true) := by
  have hmf : ∀ (fn : Fn) (first cap : Array Value) (w : World), (Instr.makeFunc fn first cap).run Try.prog w = .ok (.func fn first cap) w := fun _ _ _ _ => rfl
  go_enter_defers Try.func41, Try.ntmps41
  go_wp2
  refine hK.mono ?_
  rintro e w2 ⟨rfl, hr⟩
  have hb := hR _ hr
  have HR := Lib.hid hr
  have k0 : w2.cell? ⟨w.heap.size, 0, none⟩ = some (.bool false) := by simp [World.cell?, hb]
  have f0 : w2.frozen? ⟨w.heap.size, 0, none⟩ = false := by simp [World.frozen?, hb]
  have k1 : (w2.setCell ⟨w.heap.size, 0, none⟩ (.bool true)).cell? ⟨w.heap.size, 0, none⟩ = some (.bool true) := World.cell?_setCell_same _ _ _ (by rw [k0])
  have HK1 := Lib.hid k1
  clear hr hb k1 hK hR
  go_wp2
  refine leaves_cons (f := 47) (args := #[.pointer (some ⟨w.heap.size, 0, none⟩)]) (by simp) (by simp [go_sem]) ?_
  refine (catch_idle ⟨w.heap.size, 0, none⟩ _ HK1.out).mono ?_
  rintro e u' w'' ⟨rfl, rfl, rfl⟩
  have k1 := HK1.out
  simp [Leaves, settle, results, Try.results41, go_sem, k1]
  exact ⟨_, HR.out, rfl⟩
theorem guard_panics (K : Nat) (caps : Array Value) (w : World) (R : World → Prop) (hE : ∀ w, (callFunc K caps).run Try.prog w = .ok (.enter K caps) w) (hK : Calls Try.prog K caps (w.alloc (.cells #[.bool false] 4)) fun e w' => (∃ u pv, e = .panicked [{ v := .iface u pv, recovered := false }]) ∧ R w')
    (hR : ∀ w', R w' → w'.heap[w.heap.size]? = some (.cells #[.bool false] 4 (0, 0))) :
    Calls Try.prog 41 #[.func (.func K) #[] caps] w fun e w'' => e = .returned (.bool false) ∧ R w'' := by
  have hmf : ∀ (fn : Fn) (first cap : Array Value) (w : World), (Instr.makeFunc fn first cap).run Try.prog w = .ok (.func fn first cap) w := fun _ _ _ _ => rfl
  go_enter_defers Try.func41, Try.ntmps41
  go_wp2
  refine hK.mono ?_
  rintro e w2 ⟨⟨u, pv, rfl⟩, hr⟩
  have hb := hR _ hr
  have HR := Lib.hid hr
  have k0 : w2.cell? ⟨w.heap.size, 0, none⟩ = some (.bool false) := by simp [World.cell?, hb]
  clear hr hb hK hR
  go_wp2
  refine leaves_cons (f := 47) (args := #[.pointer (some ⟨w.heap.size, 0, none⟩)]) (by simp) (by simp [go_sem]) ?_
  refine (catch_panicking ⟨w.heap.size, 0, none⟩ u pv [] _ k0).mono ?_
  rintro e u' w'' ⟨rfl, rfl, rfl⟩
  simp [Leaves, settle, results, Try.results41, go_sem, k0]
  exact HR.out
theorem fnE (K : Nat) (caps : Array Value) (w : World) : (binOp .eql 1 (.func (.func K) #[] caps) .nilFunc).run Try.prog w = .ok (.bool false) w := by kernel_rfl
/-- The box that guard makes: what the call is run over. -/
def gbox : Obj := .cells #[.bool false] 4
theorem guard_ok (K : Nat) (caps : Array Value) (w : World) (s : ByteArray) (R : World → Prop) (hE : ∀ w, (callFunc K caps).run Try.prog w = .ok (.enter K caps) w)
    (hK : Calls Try.prog K caps (w.alloc gbox) fun e w' => e = .returned (.tuple #[]) ∧ R w')
    (hR : ∀ w', R w' → w'.heap[w.heap.size]? = some (.cells #[.bool false] 4 (0, 0))) :
    Calls Try.prog 25 #[.string s, .func (.func K) #[] caps] w fun e w'' => e = .returned .nilIface ∧ ∃ w', R w' ∧ w'' = w'.setCell ⟨w.heap.size, 0, none⟩ (.bool true) := by
  have HG := Lib.hid (guard_back K caps w R hE hK hR)
  have f1 := fnE K caps
  clear hE hK hR
  go_enter Try.func25, Try.ntmps25
  go_wp2_with (go_at_call 41; refine HG.out.mono ?_; rintro e w4 ⟨rfl, hw⟩; have HW := Lib.hid hw; clear hw)
  go_ret
  exact ⟨rfl, HW.out⟩
theorem guard_bad (K : Nat) (caps : Array Value) (w : World) (s : ByteArray) (R : World → Prop) (hE : ∀ w, (callFunc K caps).run Try.prog w = .ok (.enter K caps) w)
    (hK : Calls Try.prog K caps (w.alloc gbox) fun e w' => (∃ u pv, e = .panicked [{ v := .iface u pv, recovered := false }]) ∧ R w')
    (hR : ∀ w', R w' → w'.heap[w.heap.size]? = some (.cells #[.bool false] 4 (0, 0))) :
    Calls Try.prog 25 #[.string s, .func (.func K) #[] caps] w fun e w'' => ∃ w', R w' ∧ w'' = w'.alloc (.cells #[.string s, .iface 43 (.int .i64 2)] 79) ∧ e = .returned (.iface 76 (.pointer (some ⟨w'.heap.size, 0, none⟩))) := by
  have HG := Lib.hid (guard_panics K caps w R hE hK hR)
  have f1 := fnE K caps
  clear hE hK hR
  go_enter Try.func25, Try.ntmps25
  go_wp2_with (first | (go_at_call 41; refine HG.out.mono ?_; rintro e w4 ⟨rfl, hw⟩; have HW := Lib.hid hw; clear hw) | (go_at_call 28; refine (wrap_at w4 s _ _).mono ?_; rintro e w5 ⟨rfl, he⟩; have HE := Lib.hid he; clear he))
  go_ret
  exact ⟨w4, HW.out, HE.out, rfl⟩
/-! ### Of what was there, nothing but these blocks has turned. -/
structure ButL (B : Nat) (S : List Nat) (W w : World) : Prop where
  os : w.os = W.os
  tape : w.tape = W.tape
  output : w.output = W.output
  size : W.heap.size ≤ w.heap.size
  block : ∀ k, k < B → k ∉ S → w.heap[k]? = W.heap[k]?
theorem ButL.of_below {B : Nat} {S : List Nat} {W w : World} (h : Below B W w) : ButL B S W w := ⟨h.os, h.tape, h.output, h.size, fun k hk _ => h.block k hk⟩
theorem ButL.toBelow {B : Nat} {W w : World} (h : ButL B [] W w) : Below B W w := ⟨h.os, h.tape, h.output, h.size, fun k hk => h.block k hk (by simp)⟩
theorem ButL.set {B : Nat} {S : List Nat} {W w : World} (h : ButL B S W w) {b : Nat} (hb : b ∈ S ∨ B ≤ b) (j : Nat) (v : Value) : ButL B S W (w.setCell ⟨b, j, none⟩ v) where
  os := h.os
  tape := h.tape
  output := h.output
  size := by have := h.size; simpa [World.setCell] using this
  block := fun k hk hn => by
    have : (w.setCell ⟨b, j, none⟩ v).heap[k]? = w.heap[k]? := by
      simp only [World.setCell, Array.getElem?_modify]
      rw [if_neg (fun e => by subst e; rcases hb with hb | hb; exact hn hb; omega)]
    rw [this]
    exact h.block k hk hn
theorem ButL.trans {B : Nat} {S : List Nat} {W w1 w2 : World} (h : ButL B S W w1) (hB : B ≤ w1.heap.size) (h2 : Below w1.heap.size w1 w2) : ButL B S W w2 :=
  ⟨h2.os.trans h.os, h2.tape.trans h.tape, h2.output.trans h.output, Nat.le_trans h.size h2.size, fun k hk hn => (h2.block k (Nat.lt_of_lt_of_le hk hB)).trans (h.block k hk hn)⟩
theorem ButL.but {B B1 : Nat} {S S1 : List Nat} {W w1 w2 : World} (h : ButL B S W w1) (h2 : ButL B1 S1 w1 w2) (hB : B ≤ B1) (hS : ∀ b ∈ S1, b ∈ S ∨ B ≤ b) : ButL B S W w2 :=
  ⟨h2.os.trans h.os, h2.tape.trans h.tape, h2.output.trans h.output, Nat.le_trans h.size h2.size, fun k hk hn => (h2.block k (Nat.lt_of_lt_of_le hk hB) (fun hm => by rcases hS k hm with h | h; exact hn h; omega)).trans (h.block k hk hn)⟩
theorem ButL.drew {B : Nat} {S : List Nat} {W w : World} (h : ButL B S W w) : ButL B S W w.drew := ⟨h.os, h.tape, h.output, h.size, h.block⟩
theorem ButL.alloc {B : Nat} {S : List Nat} {W w : World} (h : ButL B S W w) (hB : B ≤ w.heap.size) (o : Obj) : ButL B S W (w.alloc o) := h.trans hB (al_bel w o)
theorem ButL.below {B B0 : Nat} {S : List Nat} {W0 W w : World} (h : ButL B S W w) (h0 : Below B0 W0 W) (hB : B0 ≤ B) (hS : ∀ b ∈ S, B0 ≤ b) : Below B0 W0 w :=
  ⟨h.os.trans h0.os, h.tape.trans h0.tape, h.output.trans h0.output, Nat.le_trans h0.size h.size, fun k hk => (h.block k (by omega) (fun hm => by have := hS k hm; omega)).trans (h0.block k hk)⟩
theorem set1 {w : World} {b : Nat} {x y : Value} {e : TypeId} {fr : Nat × Nat} (h : w.heap[b]? = some (.cells #[x] e fr)) : (w.setCell ⟨b, 0, none⟩ y).heap[b]? = some (.cells #[y] e fr) := by
  simp [World.setCell, Array.getElem?_modify, h]
theorem setN {w : World} {b c j : Nat} {y : Value} (h : c ≠ b) : (w.setCell ⟨b, j, none⟩ y).heap[c]? = w.heap[c]? := by
  simp only [World.setCell, Array.getElem?_modify]
  rw [if_neg (fun e => h e.symm)]
theorem set_size (w : World) (p : Addr) (y : Value) : (w.setCell p y).heap.size = w.heap.size := by simp [World.setCell]
theorem cell1 {w : World} {b : Nat} {x : Value} {e : TypeId} {fr : Nat × Nat} (h : w.heap[b]? = some (.cells #[x] e fr)) : w.cell? ⟨b, 0, none⟩ = some x := by simp [World.cell?, h]
theorem cellJ {w : World} {b j : Nat} {cs : Array Value} {x : Value} {e : TypeId} {fr : Nat × Nat} (h : w.heap[b]? = some (.cells cs e fr)) (hx : cs[j]? = some x) : w.cell? ⟨b, j, none⟩ = some x := by simp [World.cell?, h, hx]
theorem freeJ {w : World} {b : Nat} {cs : Array Value} {e : TypeId} (h : w.heap[b]? = some (.cells cs e (0, 0))) (j : Nat) : w.frozen? ⟨b, j, none⟩ = false := by simp [World.frozen?, h]
theorem setJ {w : World} {b j : Nat} {cs : Array Value} {y : Value} {e : TypeId} {fr : Nat × Nat} (h : w.heap[b]? = some (.cells cs e fr)) : (w.setCell ⟨b, j, none⟩ y).heap[b]? = some (.cells (cs.setIfInBounds j y) e fr) := by
  simp [World.setCell, Array.getElem?_modify, h]
end Go.Proofs.Ytpdkjifalgeodaa
