/- Contracts: errors.is, errors.Is of errors wrapped so. -/
import Derived.Test.YtfpgobbkeocokaaDoorOa
import Derived.Lib.IfaceEq
import Derived.Stop.IfaceNil
namespace Go.Proofs.YtfpgobbkeocokaaDoor
open Go.RowKit Go.Extern.Stop Go.Stop Go.Extern Go.Lib
theorem keepE {W w1 w2 : World} (h : Below W.heap.size W w1) (h2 : Below w1.heap.size w1 w2) : Below W.heap.size W w2 := h.trans (h2.mono h.size)
theorem eqlC (d c : Int) (w : World) : (binOp .eql 25 (.iface 26 (.int .i64 d)) (.iface 26 (.int .i64 c))).run Tryd.prog w = .ok (.bool (d == c)) w := run_eql_iface_int w d c Tryd.underlying25 (by kernel_rfl) Tryd.underlying26
theorem eqlO (x : Value) (c : Int) (w : World) : (binOp .eql 25 (.iface 29 x) (.iface 26 (.int .i64 c))).run Tryd.prog w = .ok (.bool false) w := run_eql_iface_types _ _ _ _ Tryd.underlying25 (by decide) w
theorem eqlS (x : Value) (c : Int) (w : World) : (binOp .eql 25 (.iface 32 x) (.iface 26 (.int .i64 c))).run Tryd.prog w = .ok (.bool false) w := run_eql_iface_types _ _ _ _ Tryd.underlying25 (by decide) w
theorem eqlT (x : Value) (c : Int) (w : World) : (binOp .eql 25 (.iface 35 x) (.iface 26 (.int .i64 c))).run Tryd.prog w = .ok (.bool false) w := run_eql_iface_types _ _ _ _ Tryd.underlying25 (by decide) w
theorem nilE (t : TypeId) (x : Value) (w : World) : (binOp .eql 25 (.iface t x) .nilIface).run Tryd.prog w = .ok (.bool false) w := run_eql_iface_nil w _ (by kernel_rfl) _ _
theorem nilN (w : World) : (binOp .eql 25 .nilIface .nilIface).run Tryd.prog w = .ok (.bool true) w := by kernel_rfl
set_option maxHeartbeats 1000000 in
set_option maxRecDepth 100000 in
theorem is_any (w : World) (L : List Lay) (k : Option Int) (c : Int) (v : Value) (h : ErrAt w L k v) :
    Calls Tryd.prog 32 #[v, .iface 26 (.int .i64 c), .bool true] w fun e w' => e = .returned (.bool (decide (k = some c))) ∧ Below w.heap.size w w' := by
  have HE := Lib.hid h
  clear h
  go_enter Tryd.func32, Tryd.ntmps32
  go_wp2
  go_loopw [0] (fun v wr => ∃ L, ErrAt wr L k v ∧ Below w.heap.size w wr) (fun v wr => depE wr v)
  case atStart => exact ⟨L, HE.out, Below.refl _ _⟩
  case round =>
    obtain ⟨L, hE, hB⟩ := hrel
    have HB := Lib.hid hB
    clear hB
    have n1 := nilE
    have n2 := nilN
    cases L with
    | nil =>
      cases k with
      | some d =>
        obtain rfl := hE
        have e1 := eqlC d c
        have a1 := noIsC
        have a2 := noUnC
        have a3 := noUsC
        by_cases hdc : d = c
        · subst hdc
          have hq : (d == d) = true := by simp
          go_wp2
          go_ret
          exact ⟨by simp, HB.out⟩
        · have hq : (d == c) = false := by simpa using hdc
          go_wp2
          go_ret
          exact ⟨by simp [hdc], HB.out⟩
      | none =>
        obtain rfl := hE
        have e1 := fun x => eqlO x c
        have a1 := noIsO
        have a2 := hasUnO
        have m1 := metUnO
        go_wp2_with (go_at_call 52; refine (unO _ _ (.inl rfl)).mono ?_; rintro e w2 ⟨rfl, hb2⟩; have HB2 := Lib.hid hb2; clear hb2)
        go_ret
        exact ⟨by simp, keepE HB.out HB2.out⟩
    | cons y L =>
      have hdep := ErrAt.dep hE
      have HDep := Lib.hid hdep
      clear hdep
      cases y with
      | src s =>
        obtain ⟨b, u, rfl, hb, hu⟩ := hE
        obtain ⟨t, x, rfl⟩ := hu.iface
        have e1 := fun x => eqlS x c
        have a1 := noIsS
        have a2 := hasUnS
        have m1 := metUnS
        have HU := Lib.hid (unS _ _ _ _ hb)
        have HUu := Lib.hid hu
        clear hb hu
        go_wp2_with (go_at_call 54; refine HU.out.mono ?_; rintro e w2 ⟨rfl, rfl⟩)
        go_roundw
        case rel => exact ⟨L, HUu.out, HB.out⟩
        case measure => rw [HDep.out, HUu.out.dep]; simp
      | txt l c2 =>
        obtain ⟨b, u, rfl, hb, hu⟩ := hE
        obtain ⟨t, x, rfl⟩ := hu.iface
        have e1 := fun x => eqlT x c
        have a1 := noIsT
        have a2 := hasUnT
        have m1 := metUnT
        have HU := Lib.hid (unT _ _ _ _ _ hb)
        have HUu := Lib.hid hu
        clear hb hu
        go_wp2_with (go_at_call 56; refine HU.out.mono ?_; rintro e w2 ⟨rfl, rfl⟩)
        go_roundw
        case rel => exact ⟨L, HUu.out, HB.out⟩
        case measure => rw [HDep.out, HUu.out.dep]; simp
      | own =>
        obtain ⟨u, rfl, hu⟩ := hE
        obtain ⟨t, x, rfl⟩ := hu.iface
        have e1 := fun x => eqlO x c
        have a1 := noIsO
        have a2 := hasUnO
        have m1 := metUnO
        have HUu := Lib.hid hu
        clear hu
        go_wp2_with (go_at_call 52; refine (unO _ _ (.inr ⟨_, _, rfl⟩)).mono ?_; rintro e w2 ⟨rfl, hb2⟩; have HB2 := Lib.hid hb2; clear hb2)
        go_roundw
        case rel => exact ⟨L, HUu.out.below HB2.out, keepE HB.out HB2.out⟩
        case measure => rw [HDep.out, (HUu.out.below HB2.out).dep]; simp
end Go.Proofs.YtfpgobbkeocokaaDoor
