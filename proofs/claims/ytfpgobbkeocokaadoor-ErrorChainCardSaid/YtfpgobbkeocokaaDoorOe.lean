/- Contracts: errors.as, errors.As. -/
import Derived.Test.YtfpgobbkeocokaaDoorOd
namespace Go.Proofs.YtfpgobbkeocokaaDoor
open Go.RowKit Go.Extern.Stop Go.Stop Go.Extern Go.Lib Go.Extern.Rtype
def firstS : List Lay → Option ByteArray
  | [] => none
  | .src s :: _ => some s
  | .txt _ _ :: L => firstS L
  | .own :: L => firstS L
def firstT : List Lay → Option (Int × Int)
  | [] => none
  | .txt l c :: _ => some (l, c)
  | .src _ :: L => firstT L
  | .own :: L => firstT L
def AsS (w : World) (q : Nat) (L : List Lay) (r : Bool) (w' : World) : Prop :=
  match firstS L with
  | none => r = false ∧ Below w.heap.size w w'
  | some s => ∃ b u w2, r = true ∧ Below w.heap.size w w2 ∧ w2.heap[b]? = some (.cells #[.string s, u] 34 (0, 0)) ∧ w' = w2.setCell ⟨q, 0, none⟩ (.pointer (some ⟨b, 0, none⟩))
def AsT (w : World) (q : Nat) (L : List Lay) (r : Bool) (w' : World) : Prop :=
  match firstT L with
  | none => r = false ∧ Below w.heap.size w w'
  | some (l, c) => ∃ b u w2, r = true ∧ Below w.heap.size w w2 ∧ w2.heap[b]? = some (.cells #[.int .i64 l, .int .i64 c, u] 37 (0, 0)) ∧ w' = w2.setCell ⟨q, 0, none⟩ (.pointer (some ⟨b, 0, none⟩))
theorem AsS.none {w w' : World} {q : Nat} {L : List Lay} (h : firstS L = Option.none) (hb : Below w.heap.size w w') : AsS w q L false w' := by unfold AsS; rw [h]; exact ⟨rfl, hb⟩
theorem AsT.none {w w' : World} {q : Nat} {L : List Lay} (h : firstT L = Option.none) (hb : Below w.heap.size w w') : AsT w q L false w' := by unfold AsT; rw [h]; exact ⟨rfl, hb⟩
theorem AsS.some {w w2 : World} {q b : Nat} {u : Value} {s : ByteArray} {L : List Lay} (h : firstS L = Option.some s) (hb : Below w.heap.size w w2) (hc : w2.heap[b]? = Option.some (.cells #[.string s, u] 34 (0, 0))) : AsS w q L true (w2.setCell ⟨q, 0, Option.none⟩ (.pointer (Option.some ⟨b, 0, Option.none⟩))) := by unfold AsS; rw [h]; exact ⟨b, u, w2, rfl, hb, hc, rfl⟩
theorem AsT.some {w w2 : World} {q b : Nat} {u : Value} {l c : Int} {L : List Lay} (h : firstT L = Option.some (l, c)) (hb : Below w.heap.size w w2) (hc : w2.heap[b]? = Option.some (.cells #[.int .i64 l, .int .i64 c, u] 37 (0, 0))) : AsT w q L true (w2.setCell ⟨q, 0, Option.none⟩ (.pointer (Option.some ⟨b, 0, Option.none⟩))) := by unfold AsT; rw [h]; exact ⟨b, u, w2, rfl, hb, hc, rfl⟩
theorem AsS.lift {w0 w w' : World} {q : Nat} {L : List Lay} {r : Bool} (h : AsS w q L r w') (h0 : Below w0.heap.size w0 w) : AsS w0 q L r w' := by
  unfold AsS at *
  split at h
  · exact ⟨h.1, keepE h0 h.2⟩
  · obtain ⟨b, u, w2, h1, h2, h3⟩ := h
    exact ⟨b, u, w2, h1, keepE h0 h2, h3⟩
theorem AsT.lift {w0 w w' : World} {q : Nat} {L : List Lay} {r : Bool} (h : AsT w q L r w') (h0 : Below w0.heap.size w0 w) : AsT w0 q L r w' := by
  unfold AsT at *
  split at h
  · exact ⟨h.1, keepE h0 h.2⟩
  · obtain ⟨b, u, w2, h1, h2, h3⟩ := h
    exact ⟨b, u, w2, h1, keepE h0 h2, h3⟩
theorem cell1 {w : World} {b : Nat} {x : Value} {e : TypeId} {fr : Nat × Nat} (h : w.heap[b]? = some (.cells #[x] e fr)) : w.cell? ⟨b, 0, none⟩ = some x := by simp [World.cell?, h]
theorem free1 {w : World} {b : Nat} {xs : Array Value} {e : TypeId} (h : w.heap[b]? = some (.cells xs e (0, 0))) (j : Nat) : w.frozen? ⟨b, j, none⟩ = false := by simp [World.frozen?, h]
/-- What errors.as keeps beside it: its own Value in a box, the target. -/
theorem box_cells (w : World) (a b c : Value) (t : TypeId) {w' : World} (hb : Below (w.alloc (.cells #[a, b, c] t)).heap.size (w.alloc (.cells #[a, b, c] t)) w') :
    w'.cell? ⟨w.heap.size, 0, none⟩ = some a ∧ w'.cell? ⟨w.heap.size, 1, none⟩ = some b ∧ w'.cell? ⟨w.heap.size, 2, none⟩ = some c := by
  have h0 := heap_alloc_new w (.cells #[a, b, c] t)
  have hl : w.heap.size < (w.alloc (.cells #[a, b, c] t)).heap.size := by show w.heap.size < (w.heap.push _).size; simp
  have h1 := (hb.block _ hl).trans h0
  refine ⟨?_, ?_, ?_⟩ <;> simp [World.cell?, h1]
set_option maxHeartbeats 2000000 in
set_option maxRecDepth 100000 in
theorem as_S (w : World) (L0 : List Lay) (k : Option Int) (v : Value) (h : ErrAt w L0 k v) (q ta : Nat) (hq : w.heap[q]? = some (.cells #[.pointer none] 32 (0, 0))) (hta : w.heap[ta]? = some (.cells #[.pointer (some ⟨q, 0, none⟩)] 55 (0, 0))) :
    Calls Tryd.prog 26 #[v, .iface 55 (.pointer (some ⟨q, 0, none⟩)), .agg #[hT 55, .pointer (some ⟨ta, 0, none⟩), .int .u64 150], rT 32] w (fun e w' => ∃ r, e = .returned (.bool r) ∧ AsS w q L0 r w') := by
  obtain ⟨w1, hw1⟩ : ∃ x, w.alloc (.cells #[hT 55, .pointer (some ⟨ta, 0, none⟩), .int .u64 150] 64) = x := ⟨_, rfl⟩
  have hb1 : Below w.heap.size w w1 := hw1 ▸ (Below.refl _ _).alloc (Nat.le_refl _) _
  have HE := Lib.hid (h.below hb1)
  have HBox : Hid (∀ w', Below w1.heap.size w1 w' → w'.cell? ⟨w.heap.size, 0, none⟩ = some (hT 55) ∧ w'.cell? ⟨w.heap.size, 1, none⟩ = some (.pointer (some ⟨ta, 0, none⟩)) ∧ w'.cell? ⟨w.heap.size, 2, none⟩ = some (.int .u64 150)) := Lib.hid (fun w' hb => by
    subst hw1
    exact box_cells w _ _ _ _ hb)
  have HTa : Hid (∀ w', Below w1.heap.size w1 w' → w'.heap[ta]? = some (.cells #[.pointer (some ⟨q, 0, none⟩)] 55 (0, 0)) ∧ w'.heap[q]? = some (.cells #[.pointer none] 32 (0, 0))) := Lib.hid (fun w' hb => by
    have h2 := keepE hb1 hb
    exact ⟨(h2.block _ (Array.getElem?_eq_some_iff.1 hta).1).trans hta, (h2.block _ (Array.getElem?_eq_some_iff.1 hq).1).trans hq⟩)
  have HB1 := Lib.hid hb1
  have HW1 := Lib.hid hw1
  clear h hq hta hb1 hw1
  go_enter Tryd.func26, Tryd.ntmps26
  go_wp2
  rw [show (w.alloc (.cells #[.pointer (some ⟨1, 55, none⟩), .pointer (some ⟨ta, 0, none⟩), .int .u64 150] 64)) = w1 from HW1.out]
  go_loopw [0] (fun v wr => ∃ L, ErrAt wr L k v ∧ firstS L = firstS L0 ∧ Below w1.heap.size w1 wr) (fun v wr => depE wr v)
  case atStart => exact ⟨L0, HE.out, rfl, Below.refl _ _⟩
  case round =>
    obtain ⟨L, hE, hF, hB⟩ := hrel
    obtain ⟨kb0, kb1, kb2⟩ := HBox.out _ hB
    obtain ⟨hta, hq⟩ := HTa.out _ hB
    have kta : wr.cell? ⟨ta, 0, none⟩ = some (.pointer (some ⟨q, 0, none⟩)) := by simp [World.cell?, hta]
    have HB := Lib.hid hB
    have HF := Lib.hid hF
    have HQ := Lib.hid hq
    clear hB hF hta hq
    have n1 := nilE
    have n2 := nilN
    have m0 := metAs
    cases L with
    | nil =>
      cases k with
      | some d =>
        obtain rfl := hE
        have t1 := toAny1 d
        have t2 := fun w => asgS 26 w (.inl rfl)
        have a1 := noAsC
        have a2 := noUnC
        have a3 := noUsC
        go_wp2
        go_ret
        exact ⟨_, rfl, AsS.none HF.out.symm (keepE HB1.out HB.out)⟩
      | none =>
        obtain rfl := hE
        have t1 := toAny2
        have t2 := fun w => asgS 29 w (.inr (.inl rfl))
        have a1 := noAsO
        have a2 := hasUnO
        have m1 := metUnO
        go_wp2_with (go_at_call 52; refine (unO _ _ (.inl rfl)).mono ?_; rintro e w2 ⟨rfl, hb2⟩; have HB2 := Lib.hid hb2; clear hb2)
        go_ret
        exact ⟨_, rfl, AsS.none HF.out.symm (keepE HB1.out (keepE HB.out HB2.out))⟩
    | cons y L =>
      have hdep := ErrAt.dep hE
      have HDep := Lib.hid hdep
      clear hdep
      cases y with
      | src s =>
        obtain ⟨b, u, rfl, hb, hu⟩ := hE
        have HBl := Lib.hid hb
        have t1 := toAny3
        have t2 := asgYS
        have t3 := voES
        have t4 := fun w => veS ⟨ta, 0, none⟩ ⟨q, 0, none⟩ w
        have hb8 : Below wr.heap.size wr (wr.alloc (.cells #[.pointer (some ⟨b, 0, none⟩)] 32)) := (Below.refl _ _).alloc (Nat.le_refl _) _
        have hq8 := (hb8.block _ (Array.getElem?_eq_some_iff.1 HQ.out).1).trans HQ.out
        have hbl8 := (hb8.block _ (Array.getElem?_eq_some_iff.1 hb).1).trans hb
        have hx8 := heap_alloc_new wr (.cells #[.pointer (some ⟨b, 0, none⟩)] 32)
        have t4 := veS ⟨ta, 0, none⟩ ⟨q, 0, none⟩ wr kta
        have t5 := vsS ⟨wr.heap.size, 0, none⟩ ⟨q, 0, none⟩ (some ⟨b, 0, none⟩) (.pointer none) (wr.alloc (.cells #[.pointer (some ⟨b, 0, none⟩)] 32)) (cell1 hx8) (cell1 hq8) (free1 hq8 0)
        have HB8 := Lib.hid hb8
        have HBL8 := Lib.hid hbl8
        clear hb hu hb8 hq8 hbl8 hx8 n1 n2
        go_wp2
        go_ret
        exact ⟨_, rfl, AsS.some HF.out.symm (keepE HB1.out (keepE HB.out HB8.out)) HBL8.out⟩
      | txt l c2 =>
        obtain ⟨b, u, rfl, hb, hu⟩ := hE
        obtain ⟨t, x, rfl⟩ := hu.iface
        have t1 := toAny4
        have t2 := fun w => asgS 35 w (.inr (.inr rfl))
        have a1 := noAsT
        have a2 := hasUnT
        have m1 := metUnT
        have HU := Lib.hid (unT _ _ _ _ _ hb)
        have HUu := Lib.hid hu
        clear hb hu
        go_wp2_with (go_at_call 56; refine HU.out.mono ?_; rintro e w2 ⟨rfl, rfl⟩)
        go_roundw
        case rel => exact ⟨L, HUu.out, HF.out, HB.out⟩
        case measure => rw [HDep.out, HUu.out.dep]; simp
      | own =>
        obtain ⟨u, rfl, hu⟩ := hE
        obtain ⟨t, x, rfl⟩ := hu.iface
        have t1 := toAny2
        have t2 := fun w => asgS 29 w (.inr (.inl rfl))
        have a1 := noAsO
        have a2 := hasUnO
        have m1 := metUnO
        have HUu := Lib.hid hu
        clear hu
        go_wp2_with (go_at_call 52; refine (unO _ _ (.inr ⟨_, _, rfl⟩)).mono ?_; rintro e w2 ⟨rfl, hb2⟩; have HB2 := Lib.hid hb2; clear hb2)
        go_roundw
        case rel => exact ⟨L, HUu.out.below HB2.out, HF.out, keepE HB.out HB2.out⟩
        case measure => rw [HDep.out, (HUu.out.below HB2.out).dep]; simp
set_option maxHeartbeats 2000000 in
set_option maxRecDepth 100000 in
theorem as_T (w : World) (L0 : List Lay) (k : Option Int) (v : Value) (h : ErrAt w L0 k v) (q ta : Nat) (hq : w.heap[q]? = some (.cells #[.pointer none] 35 (0, 0))) (hta : w.heap[ta]? = some (.cells #[.pointer (some ⟨q, 0, none⟩)] 52 (0, 0))) :
    Calls Tryd.prog 26 #[v, .iface 52 (.pointer (some ⟨q, 0, none⟩)), .agg #[hT 52, .pointer (some ⟨ta, 0, none⟩), .int .u64 150], rT 35] w (fun e w' => ∃ r, e = .returned (.bool r) ∧ AsT w q L0 r w') := by
  obtain ⟨w1, hw1⟩ : ∃ x, w.alloc (.cells #[hT 52, .pointer (some ⟨ta, 0, none⟩), .int .u64 150] 64) = x := ⟨_, rfl⟩
  have hb1 : Below w.heap.size w w1 := hw1 ▸ (Below.refl _ _).alloc (Nat.le_refl _) _
  have HE := Lib.hid (h.below hb1)
  have HBox : Hid (∀ w', Below w1.heap.size w1 w' → w'.cell? ⟨w.heap.size, 0, none⟩ = some (hT 52) ∧ w'.cell? ⟨w.heap.size, 1, none⟩ = some (.pointer (some ⟨ta, 0, none⟩)) ∧ w'.cell? ⟨w.heap.size, 2, none⟩ = some (.int .u64 150)) := Lib.hid (fun w' hb => by
    subst hw1
    exact box_cells w _ _ _ _ hb)
  have HTa : Hid (∀ w', Below w1.heap.size w1 w' → w'.heap[ta]? = some (.cells #[.pointer (some ⟨q, 0, none⟩)] 52 (0, 0)) ∧ w'.heap[q]? = some (.cells #[.pointer none] 35 (0, 0))) := Lib.hid (fun w' hb => by
    have h2 := keepE hb1 hb
    exact ⟨(h2.block _ (Array.getElem?_eq_some_iff.1 hta).1).trans hta, (h2.block _ (Array.getElem?_eq_some_iff.1 hq).1).trans hq⟩)
  have HB1 := Lib.hid hb1
  have HW1 := Lib.hid hw1
  clear h hq hta hb1 hw1
  go_enter Tryd.func26, Tryd.ntmps26
  go_wp2
  rw [show (w.alloc (.cells #[.pointer (some ⟨1, 52, none⟩), .pointer (some ⟨ta, 0, none⟩), .int .u64 150] 64)) = w1 from HW1.out]
  go_loopw [0] (fun v wr => ∃ L, ErrAt wr L k v ∧ firstT L = firstT L0 ∧ Below w1.heap.size w1 wr) (fun v wr => depE wr v)
  case atStart => exact ⟨L0, HE.out, rfl, Below.refl _ _⟩
  case round =>
    obtain ⟨L, hE, hF, hB⟩ := hrel
    obtain ⟨kb0, kb1, kb2⟩ := HBox.out _ hB
    obtain ⟨hta, hq⟩ := HTa.out _ hB
    have kta : wr.cell? ⟨ta, 0, none⟩ = some (.pointer (some ⟨q, 0, none⟩)) := by simp [World.cell?, hta]
    have HB := Lib.hid hB
    have HF := Lib.hid hF
    have HQ := Lib.hid hq
    clear hB hF hta hq
    have n1 := nilE
    have n2 := nilN
    have m0 := metAs
    cases L with
    | nil =>
      cases k with
      | some d =>
        obtain rfl := hE
        have t1 := toAny1 d
        have t2 := fun w => asgT 26 w (.inl rfl)
        have a1 := noAsC
        have a2 := noUnC
        have a3 := noUsC
        go_wp2
        go_ret
        exact ⟨_, rfl, AsT.none HF.out.symm (keepE HB1.out HB.out)⟩
      | none =>
        obtain rfl := hE
        have t1 := toAny2
        have t2 := fun w => asgT 29 w (.inr (.inl rfl))
        have a1 := noAsO
        have a2 := hasUnO
        have m1 := metUnO
        go_wp2_with (go_at_call 52; refine (unO _ _ (.inl rfl)).mono ?_; rintro e w2 ⟨rfl, hb2⟩; have HB2 := Lib.hid hb2; clear hb2)
        go_ret
        exact ⟨_, rfl, AsT.none HF.out.symm (keepE HB1.out (keepE HB.out HB2.out))⟩
    | cons y L =>
      have hdep := ErrAt.dep hE
      have HDep := Lib.hid hdep
      clear hdep
      cases y with
      | txt l c2 =>
        obtain ⟨b, u, rfl, hb, hu⟩ := hE
        have HBl := Lib.hid hb
        have t1 := toAny4
        have t2 := asgYT
        have t3 := voET
        have t4 := fun w => veT ⟨ta, 0, none⟩ ⟨q, 0, none⟩ w
        have hb8 : Below wr.heap.size wr (wr.alloc (.cells #[.pointer (some ⟨b, 0, none⟩)] 35)) := (Below.refl _ _).alloc (Nat.le_refl _) _
        have hq8 := (hb8.block _ (Array.getElem?_eq_some_iff.1 HQ.out).1).trans HQ.out
        have hbl8 := (hb8.block _ (Array.getElem?_eq_some_iff.1 hb).1).trans hb
        have hx8 := heap_alloc_new wr (.cells #[.pointer (some ⟨b, 0, none⟩)] 35)
        have t4 := veT ⟨ta, 0, none⟩ ⟨q, 0, none⟩ wr kta
        have t5 := vsT ⟨wr.heap.size, 0, none⟩ ⟨q, 0, none⟩ (some ⟨b, 0, none⟩) (.pointer none) (wr.alloc (.cells #[.pointer (some ⟨b, 0, none⟩)] 35)) (cell1 hx8) (cell1 hq8) (free1 hq8 0)
        have HB8 := Lib.hid hb8
        have HBL8 := Lib.hid hbl8
        clear hb hu hb8 hq8 hbl8 hx8 n1 n2
        go_wp2
        go_ret
        exact ⟨_, rfl, AsT.some HF.out.symm (keepE HB1.out (keepE HB.out HB8.out)) HBL8.out⟩
      | src s =>
        obtain ⟨b, u, rfl, hb, hu⟩ := hE
        obtain ⟨t, x, rfl⟩ := hu.iface
        have t1 := toAny3
        have t2 := fun w => asgT 32 w (.inr (.inr rfl))
        have a1 := noAsS
        have a2 := hasUnS
        have m1 := metUnS
        have HU := Lib.hid (unS _ _ _ _ hb)
        have HUu := Lib.hid hu
        clear hb hu
        go_wp2_with (go_at_call 54; refine HU.out.mono ?_; rintro e w2 ⟨rfl, rfl⟩)
        go_roundw
        case rel => exact ⟨L, HUu.out, HF.out, HB.out⟩
        case measure => rw [HDep.out, HUu.out.dep]; simp
      | own =>
        obtain ⟨u, rfl, hu⟩ := hE
        obtain ⟨t, x, rfl⟩ := hu.iface
        have t1 := toAny2
        have t2 := fun w => asgT 29 w (.inr (.inl rfl))
        have a1 := noAsO
        have a2 := hasUnO
        have m1 := metUnO
        have HUu := Lib.hid hu
        clear hu
        go_wp2_with (go_at_call 52; refine (unO _ _ (.inr ⟨_, _, rfl⟩)).mono ?_; rintro e w2 ⟨rfl, hb2⟩; have HB2 := Lib.hid hb2; clear hb2)
        go_roundw
        case rel => exact ⟨L, HUu.out.below HB2.out, HF.out, keepE HB.out HB2.out⟩
        case measure => rw [HDep.out, (HUu.out.below HB2.out).dep]; simp
end Go.Proofs.YtfpgobbkeocokaaDoor
