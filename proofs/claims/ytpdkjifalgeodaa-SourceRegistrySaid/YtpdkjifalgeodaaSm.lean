/- Contracts: the closures of Hear and Bytes, tell. -/
import Derived.Test.YtpdkjifalgeodaaSlh
namespace Go.Proofs.Ytpdkjifalgeodaa
open Go.RowKit Go.Extern.Stop Go.Stop Go.Extern Go.Lib
theorem metHH (n : Nat) (v : Value) (w : World) : (Go.method (n + 1) 154 v "Hear").run Try.prog w = .ok (92, v) w := by kernel_rfl
theorem metHB (n : Nat) (v : Value) (w : World) : (Go.method (n + 1) 154 v "Bytes").run Try.prog w = .ok (91, v) w := by kernel_rfl
theorem asHH (v : Value) (x : TypeId) (w : World) : (Instr.typeAssert (.iface 154 v) x 86 true).run Try.prog w = .ok (.tuple #[.iface 154 v, .bool true]) w := run_typeAssert_hasB Try.underlying86 (by kernel_rfl) v x w
theorem asOH (v : Value) (x : TypeId) (w : World) : (Instr.typeAssert (.iface 159 v) x 86 true).run Try.prog w = .ok (.tuple #[.nilIface, .bool false]) w := run_typeAssert_lacksB Try.underlying86 (by kernel_rfl) (by kernel_rfl) v x w
theorem naH (n : Nat) (a : Addr) (w : World) : (nilAhead (n + 1) 154 (.pointer (some a)) "Hear").run Try.prog w = .ok (some false) w := by kernel_rfl
theorem naB (n : Nat) (a : Addr) (w : World) : (nilAhead (n + 1) 154 (.pointer (some a)) "Bytes").run Try.prog w = .ok (some false) w := by kernel_rfl
/-- How the question's block reads behind Hear. -/
def heardD (d : DefL) (m : Nat) : DefL := if m = 0 then d else { d with polls := 0 }
theorem ne_of_ty {w : World} {a b : Nat} {x y : Array Value} {t u : TypeId} {f g : Nat × Nat} (ha : w.heap[a]? = some (.cells x t f)) (hb : w.heap[b]? = some (.cells y u g)) (h : t ≠ u) : a ≠ b := by
  rintro rfl
  rw [ha] at hb
  injection hb with hb
  injection hb with _ e _
  exact h e
theorem own_first {w W w2 : World} {g b m : Nat} {xs : List Int} {cs : Array Value} {t : TypeId} (hbl : Below W.heap.size W w2) (hgs : W.heap.size ≤ g) (hgc : w2.heap[g]? = some (.cells (xs.map (Value.int .u8)).toArray 5 (0, 0))) (hl : xs.length = m) (hm : 0 < m) (hb : w.heap[b]? = some (.cells cs t (0, 0))) (hw : W.heap = w.heap := by rfl) (ho : W.os = w.os := by rfl) (ht : W.tape = w.tape := by rfl) (hu : W.output = w.output := by rfl) :
    Hid (∃ x, w2.cell? ⟨g, 0, none⟩ = some (.int .u8 x) ∧ g ≠ b ∧ w2.heap[b]? = some (.cells cs t (0, 0)) ∧ Below w.heap.size w w2) := by
  have hlt : b < W.heap.size := by rw [hw]; exact lt_of hb
  obtain ⟨x, hx⟩ : ∃ x, xs[0]? = some x := ⟨_, List.getElem?_eq_getElem (by omega)⟩
  exact Lib.hid ⟨x, cellJ hgc (by rw [List.getElem?_toArray, List.getElem?_map, hx]; rfl), by omega, (hbl.block b hlt).trans (by rw [hw]; exact hb), ⟨hbl.os.trans ho, hbl.tape.trans ht, hbl.output.trans hu, by rw [← hw]; exact hbl.size, fun k hk => (hbl.block k (by rw [hw]; exact hk)).trans (by rw [hw])⟩⟩
set_option maxHeartbeats 2000000 in
set_option maxRecDepth 100000 in
theorem hearC_pos (d : DefL) (n h : Int) (b : Nat) (f : ByteArray) (p : Option Addr) (m c : Nat) (xs : List Int) (A B : Nat) (w : World) (hb : w.heap[b]? = some (.cells (heC d n h) 158 (0, 0))) (h0 : 0 ≤ h) (h1 : h < 1000) (hx : BytS w p m c xs) (hm : m ≤ 1000000) (hm0 : 0 < m)
    (hA : w.heap[A]? = some (.cells #[.string f] 9 (0, 0))) (hB : w.heap[B]? = some (.cells #[.slice p m c] 29 (0, 0))) :
    Calls Try.prog 31 #[.iface 154 (.pointer (some ⟨b, 0, none⟩)), .pointer (some ⟨A, 0, none⟩), .pointer (some ⟨B, 0, none⟩)] w fun e w' => e = .returned (.tuple #[]) ∧ w'.heap[b]? = some (.cells (heC { d with polls := 0 } n (h + 1)) 158 (0, 0)) ∧ ButL w.heap.size [b] w w' := by
  have kA := cell1 hA
  have kB := cell1 hB
  have HO : Hid (∀ W : World, W.heap = w.heap → Calls Try.prog 32 #[.slice p m c] W fun e w' => ∃ g, e = .returned (.slice (some ⟨g, 0, none⟩) m m) ∧ W.heap.size ≤ g ∧ w'.heap[g]? = some (.cells (xs.map (Value.int .u8)).toArray 5 (0, 0)) ∧ Below W.heap.size W w') := Lib.hid (fun W e => own_any p m c xs W (hx.below (fun k _ => by rw [e])) hm)
  have HL := Lib.hid hx.1
  have HBb := Lib.hid hb
  have H01 := Lib.hid (And.intro h0 (And.intro h1 hm0))
  have hmf := mfn
  have m1 := metHH
  have m2 := naH
  have HS0 : Hid (∀ W, ButL w.heap.size [b] w W → W.cell? ⟨A, 0, none⟩ = some (.string f) ∧ W.cell? ⟨B, 0, none⟩ = some (.slice p m c)) := Lib.hid (fun W hW => ⟨cell1 ((hW.block A (lt_of hA) (by rw [List.mem_singleton]; exact ne_of_ty hA hb (by decide))).trans hA), cell1 ((hW.block B (lt_of hB) (by rw [List.mem_singleton]; exact ne_of_ty hB hb (by decide))).trans hB)⟩)
  clear hA hB hx hb h0 h1 hm hm0
  go_enter Try.func31, Try.ntmps31
  go_region_held3 (fun W => W.cell? ⟨A, 0, none⟩ = some (.string f) ∧ W.cell? ⟨B, 0, none⟩ = some (.slice p m c)) (first | with_reducible exact HS0.out _ (ButL.of_below (Below.refl _ _).drew) | with_reducible exact HS0.out _ HB2.out | with_reducible exact HS0.out _ HB3.out) (first
    | (go_at_call 32; refine (HO.out _ ?_).mono ?_; rfl; rintro e w2 ⟨g, rfl, hgs, hgc, hbl⟩; have HX : Hid (∃ x, w2.cell? ⟨g, 0, none⟩ = some (.int .u8 x) ∧ g ≠ b ∧ w2.heap[b]? = some (.cells (heC d n h) 158 (0, 0)) ∧ Below w.heap.size w w2) := own_first hbl hgs hgc HL.out H01.out.2.2 HBb.out; have HB2 : Hid (ButL w.heap.size [b] w w2) := Lib.hid (by obtain ⟨_, _, _, _, h4⟩ := HX.out; exact ButL.of_below h4); clear hgs hgc hbl)
    | (go_at_call 92; obtain ⟨x, hx0, hx1, hx2, hx3⟩ := HX.out; refine (lhear_pos d n h b f g m x _ hx2 H01.out.1 H01.out.2.1 H01.out.2.2 hx0 hx1).mono ?_; rintro e w3 ⟨rfl, hc3, hb3⟩; have HC3 := Lib.hid hc3; have HB3 := Lib.hid (ButL.but (S := [b]) (ButL.of_below hx3) hb3 hx3.size (fun k hk => .inl hk)); clear hc3 hb3))
  all_goals
    go_end0
    exact ⟨rfl, HC3.out, HB3.out⟩
theorem own_zero {w W w2 : World} {b : Nat} {cs : Array Value} {t : TypeId} (hbl : Below W.heap.size W w2) (hb : w.heap[b]? = some (.cells cs t (0, 0))) (hw : W.heap = w.heap := by rfl) (ho : W.os = w.os := by rfl) (ht : W.tape = w.tape := by rfl) (hu : W.output = w.output := by rfl) :
    w2.heap[b]? = some (.cells cs t (0, 0)) ∧ Below w.heap.size w w2 := by
  have hlt : b < W.heap.size := by rw [hw]; exact lt_of hb
  exact ⟨(hbl.block b hlt).trans (by rw [hw]; exact hb), ⟨hbl.os.trans ho, hbl.tape.trans ht, hbl.output.trans hu, by rw [← hw]; exact hbl.size, fun k hk => (hbl.block k (by rw [hw]; exact hk)).trans (by rw [hw])⟩⟩
set_option maxHeartbeats 2000000 in
set_option maxRecDepth 100000 in
theorem hearC_zero (d : DefL) (n h : Int) (b : Nat) (f : ByteArray) (p : Option Addr) (c : Nat) (xs : List Int) (A B : Nat) (w : World) (hb : w.heap[b]? = some (.cells (heC d n h) 158 (0, 0))) (h0 : 0 ≤ h) (h1 : h < 1000) (hx : BytS w p 0 c xs)
    (hA : w.heap[A]? = some (.cells #[.string f] 9 (0, 0))) (hB : w.heap[B]? = some (.cells #[.slice p 0 c] 29 (0, 0))) :
    Calls Try.prog 31 #[.iface 154 (.pointer (some ⟨b, 0, none⟩)), .pointer (some ⟨A, 0, none⟩), .pointer (some ⟨B, 0, none⟩)] w fun e w' => Boom e ∧ w'.heap[b]? = some (.cells (heC d n (h + 1)) 158 (0, 0)) ∧ ButL w.heap.size [b] w w' := by
  have kA := cell1 hA
  have kB := cell1 hB
  have HO : Hid (∀ W : World, W.heap = w.heap → Calls Try.prog 32 #[.slice p 0 c] W fun e w' => ∃ g, e = .returned (.slice (some ⟨g, 0, none⟩) 0 0) ∧ W.heap.size ≤ g ∧ w'.heap[g]? = some (.cells (xs.map (Value.int .u8)).toArray 5 (0, 0)) ∧ Below W.heap.size W w') := Lib.hid (fun W e => own_any p 0 c xs W (hx.below (fun k _ => by rw [e])) (by omega))
  have HBb := Lib.hid hb
  have H01 := Lib.hid (And.intro h0 h1)
  have hmf := mfn
  have m1 := metHH
  have m2 := naH
  have HS0 : Hid (∀ W, ButL w.heap.size [b] w W → W.cell? ⟨A, 0, none⟩ = some (.string f) ∧ W.cell? ⟨B, 0, none⟩ = some (.slice p 0 c)) := Lib.hid (fun W hW => ⟨cell1 ((hW.block A (lt_of hA) (by rw [List.mem_singleton]; exact ne_of_ty hA hb (by decide))).trans hA), cell1 ((hW.block B (lt_of hB) (by rw [List.mem_singleton]; exact ne_of_ty hB hb (by decide))).trans hB)⟩)
  clear hA hB hx hb h0 h1
  go_enter Try.func31, Try.ntmps31
  refine wp_region_held_drew (S := fun W => W.cell? ⟨A, 0, none⟩ = some (.string f) ∧ W.cell? ⟨B, 0, none⟩ = some (.slice p 0 c)) (by kernel_rfl) (HS0.out _ (ButL.of_below (Below.refl _ _).drew)) (fun hHeld => ?_)
  try simp only [Act.put, List.setIfInBounds_toArray, List.set_cons_zero, List.set_cons_succ]
  refine wpAnyH_take (i := 0) (oi := { dst := some 4, op := Op.move (Operand.tmp 0), type := 86, pos := "source.go:103", after := #[], guard := none }) (v := ?_) rfl (by kernel_rfl) (by kernel_rfl) (by kernel_rfl) (fun _ _ _ h => h) (Or.inl ⟨by rfl, ?_⟩) (by assumption) ?_
  rotate_left 1
  · (intro w hSw; (try dsimp only at hSw); go_simp; all_goals (with_reducible rfl))
  try simp only [Act.put, List.setIfInBounds_toArray, List.set_cons_zero, List.set_cons_succ]
  refine wpAnyH_take (i := 1) (oi := { dst := some 5, op := Op.load 9 (Operand.tmp 1), type := 9, pos := "source.go:103", after := #[], guard := none }) (v := ?_) rfl (by kernel_rfl) (by kernel_rfl) (by kernel_rfl) (fun _ _ _ h => h) (Or.inl ⟨by rfl, ?_⟩) (by assumption) ?_
  rotate_left 1
  · (intro w hSw; (try dsimp only at hSw); go_simp; all_goals (with_reducible rfl))
  try simp only [Act.put, List.setIfInBounds_toArray, List.set_cons_zero, List.set_cons_succ]
  refine wpAnyH_take (i := 2) (oi := { dst := some 6, op := Op.load 29 (Operand.tmp 2), type := 29, pos := "source.go:103", after := #[], guard := none }) (v := ?_) rfl (by kernel_rfl) (by kernel_rfl) (by kernel_rfl) (fun _ _ _ h => h) (Or.inl ⟨by rfl, ?_⟩) (by assumption) ?_
  rotate_left 1
  · (intro w hSw; (try dsimp only at hSw); go_simp; all_goals (with_reducible rfl))
  try simp only [Act.put, List.setIfInBounds_toArray, List.set_cons_zero, List.set_cons_succ]
  refine wpAnyH_take (i := 4) (oi := { dst := some 8, op := Op.makeFunc (Fn.method "Hear") #[Operand.tmp 4] #[], type := 87, pos := "source.go:103", after := #[{ on := 0, ground := Ground.data }], guard := none }) (v := ?_) rfl (by kernel_rfl) (by kernel_rfl) (by kernel_rfl) (fun _ _ _ h => h) (Or.inl ⟨by rfl, ?_⟩) (by assumption) ?_
  rotate_left 1
  · (intro w hSw; (try dsimp only at hSw); go_simp; all_goals (with_reducible rfl))
  try simp only [Act.put, List.setIfInBounds_toArray, List.set_cons_zero, List.set_cons_succ]
  refine wpAnyH_take (i := 5) (oi := { dst := some 9, op := Op.nilCheck (Operand.tmp 8), type := 87, pos := "source.go:103", after := #[{ on := 4, ground := Ground.data }], guard := none }) (v := ?_) rfl (by kernel_rfl) (by kernel_rfl) (by kernel_rfl) (fun _ _ _ h => h) (Or.inl ⟨by rfl, ?_⟩) (by assumption) ?_
  rotate_left 1
  · (intro w hSw; (try dsimp only at hSw); go_simp; all_goals (with_reducible rfl))
  try simp only [Act.put, List.setIfInBounds_toArray, List.set_cons_zero, List.set_cons_succ]
  refine wpAnyH_take (i := 6) (oi := { dst := some 10, op := Op.move (Operand.tmp 4), type := 86, pos := "source.go:103", after := #[{ on := 0, ground := Ground.data }, { on := 4, ground := Ground.data }, { on := 5, ground := Ground.data }], guard := none }) (v := ?_) rfl (by kernel_rfl) (by kernel_rfl) (by kernel_rfl) (fun _ _ _ h => h) (Or.inl ⟨by rfl, ?_⟩) (by assumption) ?_
  rotate_left 1
  · (intro w hSw; (try dsimp only at hSw); go_simp; all_goals (with_reducible rfl))
  try simp only [Act.put, List.setIfInBounds_toArray, List.set_cons_zero, List.set_cons_succ]
  refine wpAnyH_ready (rs := [3]) (by kernel_rfl) (by simp) ?_
  refine AllReadyH.cons (o := { dst := some 7, op := Op.call { callee := Callee.value (Operand.func 32), args := #[Operand.tmp 6], argTypes := #[29] }, type := 29, pos := "source.go:103", after := #[{ on := 2, ground := Ground.data }], guard := none }) rfl (fun K hK => ?_) AllReadyH.nil
  go_simp
  go_at_call 32
  refine (HO.out _ ?_).mono ?_
  · rfl
  rintro e w2 ⟨g, rfl, hgs, hgc, hbl⟩
  have HX : Hid (w2.heap[b]? = some (.cells (heC d n h) 158 (0, 0)) ∧ Below w.heap.size w w2) := Lib.hid (own_zero hbl HBb.out)
  clear hgs hgc hbl
  try go_wp2_with fail
  refine hK.out _ _ ?_ (fun hHeld => ?_)
  · ((try dsimp only); exact HS0.out _ (ButL.of_below HX.out.2))
  clear hK K
  try simp only [Act.put, List.setIfInBounds_toArray, List.set_cons_zero, List.set_cons_succ]
  refine wpAnyH_ready (rs := [7]) (by kernel_rfl) (by simp) ?_
  refine AllReadyH.cons (o := { dst := some 11, op := Op.call { callee := Callee.invoke (Operand.tmp 10) "Hear", args := #[Operand.tmp 5, Operand.tmp 7], argTypes := #[9, 29] }, type := 0, pos := "source.go:103", after := #[{ on := 6, ground := Ground.data }, { on := 1, ground := Ground.data }, { on := 3, ground := Ground.data }, { on := 3, ground := Ground.chain }], guard := none }) rfl (fun K hK => ?_) AllReadyH.nil
  go_simp
  go_at_call 92
  refine (lhear_zero d n h b f g _ HX.out.1 H01.out.1 H01.out.2).mono ?_
  rintro e w3 ⟨⟨u, pv, rfl⟩, hc3, hb3⟩
  exact ⟨rfl, ⟨_, _, rfl⟩, hc3, ButL.but (S := [b]) (ButL.of_below HX.out.2) hb3 HX.out.2.size (fun k hk => .inl hk)⟩
set_option maxHeartbeats 2000000 in
set_option maxRecDepth 100000 in
theorem bytesC_any (d : DefL) (n h : Int) (b : Nat) (s : Int) (en : Bool) (p : Option Addr) (m c : Nat) (xs : List Int) (A B E : Nat) (w : World) (hb : w.heap[b]? = some (.cells (heC d n h) 158 (0, 0))) (h0 : 0 ≤ h) (h1 : h < 1000) (hx : BytS w p m c xs) (hm : m ≤ 1000000)
    (hA : w.heap[A]? = some (.cells #[.int .i64 s] 3 (0, 0))) (hB : w.heap[B]? = some (.cells #[.slice p m c] 29 (0, 0))) (hE : w.heap[E]? = some (.cells #[.bool en] 4 (0, 0))) :
    Calls Try.prog 33 #[.iface 154 (.pointer (some ⟨b, 0, none⟩)), .pointer (some ⟨A, 0, none⟩), .pointer (some ⟨B, 0, none⟩), .pointer (some ⟨E, 0, none⟩)] w fun e w' => e = .returned (.tuple #[]) ∧ w'.heap[b]? = some (.cells (heC (if en then { d with polls := 0 } else d) n (h + 1)) 158 (0, 0)) ∧ ButL w.heap.size [b] w w' := by
  have kA := cell1 hA
  have kB := cell1 hB
  have kE := cell1 hE
  have HO : Hid (∀ W : World, W.heap = w.heap → Calls Try.prog 32 #[.slice p m c] W fun e w' => ∃ g, e = .returned (.slice (some ⟨g, 0, none⟩) m m) ∧ W.heap.size ≤ g ∧ w'.heap[g]? = some (.cells (xs.map (Value.int .u8)).toArray 5 (0, 0)) ∧ Below W.heap.size W w') := Lib.hid (fun W e => own_any p m c xs W (hx.below (fun k _ => by rw [e])) hm)
  have HBb := Lib.hid hb
  have H01 := Lib.hid (And.intro h0 h1)
  have hmf := mfn
  have m1 := metHB
  have m2 := naB
  have HS0 : Hid (∀ W, ButL w.heap.size [b] w W → W.cell? ⟨A, 0, none⟩ = some (.int .i64 s) ∧ W.cell? ⟨B, 0, none⟩ = some (.slice p m c) ∧ W.cell? ⟨E, 0, none⟩ = some (.bool en)) := Lib.hid (fun W hW => ⟨cell1 ((hW.block A (lt_of hA) (by rw [List.mem_singleton]; exact ne_of_ty hA hb (by decide))).trans hA), cell1 ((hW.block B (lt_of hB) (by rw [List.mem_singleton]; exact ne_of_ty hB hb (by decide))).trans hB), cell1 ((hW.block E (lt_of hE) (by rw [List.mem_singleton]; exact ne_of_ty hE hb (by decide))).trans hE)⟩)
  clear hA hB hE hx hb h0 h1 hm
  go_enter Try.func33, Try.ntmps33
  go_region_held3 (fun W => W.cell? ⟨A, 0, none⟩ = some (.int .i64 s) ∧ W.cell? ⟨B, 0, none⟩ = some (.slice p m c) ∧ W.cell? ⟨E, 0, none⟩ = some (.bool en)) (first | with_reducible exact HS0.out _ (ButL.of_below (Below.refl _ _).drew) | with_reducible exact HS0.out _ HB2.out | with_reducible exact HS0.out _ HB3.out) (first
    | (go_at_call 32; refine (HO.out _ ?_).mono ?_; rfl; rintro e w2 ⟨g, rfl, hgs, hgc, hbl⟩; have HX : Hid (w2.heap[b]? = some (.cells (heC d n h) 158 (0, 0)) ∧ Below w.heap.size w w2) := Lib.hid (own_zero hbl HBb.out); have HB2 : Hid (ButL w.heap.size [b] w w2) := Lib.hid (by exact ButL.of_below HX.out.2); clear hgs hgc hbl)
    | (go_at_call 91; obtain ⟨hx2, hx3⟩ := HX.out; refine (lbytes_any d n h b s g m en _ hx2 H01.out.1 H01.out.2).mono ?_; rintro e w3 ⟨rfl, hc3, hb3⟩; have HC3 := Lib.hid hc3; have HB3 := Lib.hid (ButL.but (S := [b]) (ButL.of_below hx3) hb3 hx3.size (fun k hk => .inl hk)); clear hc3 hb3))
  all_goals
    go_end0
    exact ⟨rfl, HC3.out, HB3.out⟩
end Go.Proofs.Ytpdkjifalgeodaa
