/- Errors as they lie: a code, wrapped by sources; Wrap; the laws' own Is, Code, Source. -/
import Derived.Test.YtpdkjifalgeodaaRows
import Derived.WalkKit
import Derived.ProofKit
import Derived.LaidEql
import Derived.Stop.Asserts
import Derived.Stop.IfaceNil
import Derived.RowKitTokens
import Derived.Lib.Hide
namespace Go.Proofs.Ytpdkjifalgeodaa
open Go.RowKit Go.Extern.Stop Go.Stop Go.Extern Go.Lib
/-- An error: a code, wrapped for these sources, the outermost first. -/
def ErrS (w : World) : List ByteArray → Int → Value → Prop
  | [], c, v => v = .iface 43 (.int .i64 c)
  | s :: L, c, v => ∃ b u, v = .iface 76 (.pointer (some ⟨b, 0, none⟩)) ∧ w.heap[b]? = some (.cells #[.string s, u] 79 (0, 0)) ∧ ErrS w L c u
theorem ErrS.iface {w : World} {c : Int} {v : Value} : ∀ {L : List ByteArray}, ErrS w L c v → ∃ t u, v = .iface t u
  | [], h => ⟨_, _, h⟩
  | s :: L, ⟨b, u, h, _⟩ => ⟨_, _, h⟩
theorem ErrS.same {w w' : World} {c : Int} (hh : ∀ b, b < w.heap.size → w'.heap[b]? = w.heap[b]?) : ∀ {L : List ByteArray} {v : Value}, ErrS w L c v → ErrS w' L c v
  | [], v, h => h
  | s :: L, v, ⟨b, u, h, hb, hu⟩ => ⟨b, u, h, (hh b (Array.getElem?_eq_some_iff.1 hb).1).trans hb, ErrS.same hh hu⟩
theorem ErrS.below {w w' : World} {c : Int} {L : List ByteArray} {v : Value} (h : ErrS w L c v) (hb : Below w.heap.size w w') : ErrS w' L c v := h.same hb.block
theorem ErrS.alloc {w : World} {c : Int} {L : List ByteArray} {v : Value} (h : ErrS w L c v) (o : Obj) : ErrS (w.alloc o) L c v := h.below ((Below.refl _ _).alloc (Nat.le_refl _) o)
theorem keepE {W w1 w2 : World} (h : Below W.heap.size W w1) (h2 : Below w1.heap.size w1 w2) : Below W.heap.size W w2 := h.trans (h2.mono h.size)
theorem al_bel (w : World) (x : Obj) : Below w.heap.size w (w.alloc x) := (Below.refl _ _).alloc (Nat.le_refl _) x
theorem al_keep {w : World} {b : Nat} {o x : Obj} (h : w.heap[b]? = some o) : (w.alloc x).heap[b]? = some o := ((al_bel w x).block b (Array.getElem?_eq_some_iff.1 h).1).trans h
theorem al_size (w : World) (x : Obj) : (w.alloc x).heap.size = w.heap.size + 1 := by show (w.heap.push _).size = _; simp
theorem lt_of {w : World} {b : Nat} {o : Obj} (h : w.heap[b]? = some o) : b < w.heap.size := (Array.getElem?_eq_some_iff.1 h).1
/-! ### nil, and not. -/
theorem nilE (t : TypeId) (x : Value) (w : World) : (binOp .eql 35 (.iface t x) .nilIface).run Try.prog w = .ok (.bool false) w := run_eql_iface_nil w _ (by kernel_rfl) _ _
theorem nilN (w : World) : (binOp .eql 35 .nilIface .nilIface).run Try.prog w = .ok (.bool true) w := by kernel_rfl
theorem nilNe (t : TypeId) (x : Value) (w : World) : (binOp .neq 35 (.iface t x) .nilIface).run Try.prog w = .ok (.bool true) w := run_neq_iface_nil w _ (by kernel_rfl) _ _
theorem neqN (w : World) : (binOp .neq 35 .nilIface .nilIface).run Try.prog w = .ok (.bool false) w := by kernel_rfl
/-! ### Assertions on errors. -/
theorem asCC (v : Value) (x : TypeId) (w : World) : (Instr.typeAssert (.iface 43 v) x 43 true).run Try.prog w = .ok (.tuple #[v, .bool true]) w := by kernel_rfl
theorem asSC (v : Value) (x : TypeId) (w : World) : (Instr.typeAssert (.iface 76 v) x 43 true).run Try.prog w = .ok (.tuple #[.int .i64 0, .bool false]) w := by kernel_rfl
theorem asCS (v : Value) (x : TypeId) (w : World) : (Instr.typeAssert (.iface 43 v) x 76 true).run Try.prog w = .ok (.tuple #[.pointer none, .bool false]) w := by kernel_rfl
theorem asSS (v : Value) (x : TypeId) (w : World) : (Instr.typeAssert (.iface 76 v) x 76 true).run Try.prog w = .ok (.tuple #[v, .bool true]) w := by kernel_rfl
theorem asSW (v : Value) (x : TypeId) (w : World) : (Instr.typeAssert (.iface 76 v) x 81 true).run Try.prog w = .ok (.tuple #[.iface 76 v, .bool true]) w := run_typeAssert_hasB Try.underlying81 (by kernel_rfl) v x w
theorem asCW (v : Value) (x : TypeId) (w : World) : (Instr.typeAssert (.iface 43 v) x 81 true).run Try.prog w = .ok (.tuple #[.nilIface, .bool false]) w := run_typeAssert_lacksB Try.underlying81 (by kernel_rfl) (by kernel_rfl) v x w
theorem metUn (n : Nat) (v : Value) (w : World) : (Go.method (n + 1) 76 v "Unwrap").run Try.prog w = .ok (89, v) w := by kernel_rfl
theorem unS (b : Nat) (s : ByteArray) (u : Value) (w : World) (h : w.heap[b]? = some (.cells #[.string s, u] 79 (0, 0))) :
    Calls Try.prog 89 #[.pointer (some ⟨b, 0, none⟩)] w fun e w' => e = .returned u ∧ w = w' := by
  have k1 : w.cell? ⟨b, 1, none⟩ = some u := by simp [World.cell?, h]
  clear h
  go_enter Try.func89, Try.ntmps89
  go_wp2
  go_ret
  exact ⟨rfl, rfl⟩
set_option maxHeartbeats 1000000 in
set_option maxRecDepth 100000 in
theorem is0_any (w : World) (L0 : List ByteArray) (k c : Int) (v : Value) (h : ErrS w L0 k v) (hl : L0.length < 15) :
    Calls Try.prog 29 #[v, .int .i64 c] w fun e w' => e = .returned (.bool (decide (k = c))) ∧ w = w' := by
  have HE := Lib.hid h
  clear h
  go_enter Try.func29, Try.ntmps29
  go_wp2
  go_loopw [0, 5] (fun v iv wr => ∃ (i : Nat) (L : List ByteArray), iv = .int .i64 i ∧ wr = w ∧ ErrS w L k v ∧ i + L.length < 15) (fun _ iv _ => 20 - (intOf iv).toNat)
  case atStart => exact ⟨0, L0, rfl, rfl, HE.out, by omega⟩
  case round =>
    obtain ⟨i, L, rfl, rfl, hE, hlen⟩ := hrel
    have n1 := nilNe
    have hi2 : (i : Int) < 20 := by omega
    cases L with
    | nil =>
      obtain rfl := hE
      have t1 := asCC
      have t2 := asCW
      by_cases hk : k = c
      · subst hk
        have hq : (k == k) = true := by simp
        go_wp2
        go_ret
        exact ⟨by simp, rfl⟩
      · have hq : (k == c) = false := by simpa using hk
        go_wp2
        go_ret
        exact ⟨by simp [hk], rfl⟩
    | cons s L =>
      obtain ⟨b, u, rfl, hb, hu⟩ := hE
      obtain ⟨t, x, rfl⟩ := hu.iface
      have t1 := asSC
      have t2 := asSW
      have m1 := metUn
      have HU := Lib.hid (unS _ _ _ _ hb)
      have HUu := Lib.hid hu
      have HL : Hid (i + (L.length + 1) < 15) := Lib.hid hlen
      clear hb hu hlen
      go_wp2_with (go_at_call 89; refine HU.out.mono ?_; rintro e w2 ⟨rfl, rfl⟩)
      go_roundw
      case rel => exact ⟨i + 1, L, by go_num, trivial, HUu.out, by have := HL.out; omega⟩
      case measure => have := HL.out; simp [intOf]; omega
set_option maxHeartbeats 1000000 in
set_option maxRecDepth 100000 in
theorem src0_any (w : World) (s : ByteArray) (L : List ByteArray) (k : Int) (v : Value) (h : ErrS w (s :: L) k v) :
    Calls Try.prog 12 #[v] w fun e w' => e = .returned (.string s) ∧ w = w' := by
  obtain ⟨b, u, rfl, hb, _⟩ := h
  have k1 : w.cell? ⟨b, 0, none⟩ = some (.string s) := by simp [World.cell?, hb]
  have t1 := asSS
  have n1 := nilNe
  clear hb
  go_enter Try.func12, Try.ntmps12
  go_wp2
  refine wp_loop_rounds 1 ?_
  rw [rounds_succ]
  go_wp2
  go_ret
  exact ⟨rfl, rfl⟩
def codesL : List Int := [1, 3, 4, 7, 5, 6, 8, 9, 10, 11]
/-- The code that the laws' own Code tells of a code. -/
def codeV (k : Int) : Int := if k ∈ codesL then k else 2
theorem codeV_at {k : Int} {i : Nat} (hi : i < 10) (h : k = codesL.getD i 0) : codeV k = k := by
  subst h
  revert hi
  revert i
  decide
theorem codeV_none {k : Int} (h : ∀ i, i < 10 → ¬ k = codesL.getD i 0) : codeV k = 2 := by
  unfold codeV
  rw [if_neg]
  intro hm
  simp only [codesL, List.mem_cons, List.not_mem_nil, or_false] at hm
  have g := fun i hi => h i hi
  rcases hm with e | e | e | e | e | e | e | e | e | e
  · exact h 0 (by decide) e
  · exact h 1 (by decide) e
  · exact h 2 (by decide) e
  · exact h 3 (by decide) e
  · exact h 4 (by decide) e
  · exact h 5 (by decide) e
  · exact h 6 (by decide) e
  · exact h 7 (by decide) e
  · exact h 8 (by decide) e
  · exact h 9 (by decide) e
theorem code0_nil (w : World) : Calls Try.prog 11 #[.nilIface] w fun e w' => e = .returned (.int .i64 0) ∧ w = w' := by
  have n1 := nilN
  go_enter Try.func11, Try.ntmps11
  go_wp2
  go_ret
  exact ⟨rfl, rfl⟩
set_option maxHeartbeats 1000000 in
set_option maxRecDepth 100000 in
theorem code0_any (w : World) (L : List ByteArray) (k : Int) (v : Value) (h : ErrS w L k v) (hl : L.length < 15) :
    Calls Try.prog 11 #[v] w fun e w' => e = .returned (.int .i64 (codeV k)) ∧ Below w.heap.size w w' := by
  obtain ⟨t, x, rfl⟩ := h.iface
  have hcell : ∀ j : Nat, j < 10 → (w.alloc (.cells #[.int .i64 1, .int .i64 3, .int .i64 4, .int .i64 7, .int .i64 5, .int .i64 6, .int .i64 8, .int .i64 9, .int .i64 10, .int .i64 11] 43)).cell? ⟨w.heap.size, j, none⟩ = some (.int .i64 (codesL.getD j 0)) := fun j hj => by
    rw [World.cell?_alloc_new]
    match j, hj with
    | 0, _ => rfl
    | 1, _ => rfl
    | 2, _ => rfl
    | 3, _ => rfl
    | 4, _ => rfl
    | 5, _ => rfl
    | 6, _ => rfl
    | 7, _ => rfl
    | 8, _ => rfl
    | 9, _ => rfl
  have HC := Lib.hid hcell
  have HI : Hid (∀ c o, Calls Try.prog 29 #[.iface t x, .int .i64 c] (w.alloc o) fun e w' => e = .returned (.bool (decide (k = c))) ∧ w.alloc o = w') := Lib.hid (fun c o => is0_any (w.alloc o) L k c _ (h.alloc o) hl)
  have n1 := nilE
  clear hcell h hl
  go_enter Try.func11, Try.ntmps11
  go_wp2
  go_loopw [4] (fun iv wr => ∃ i : Nat, i ≤ 10 ∧ iv = .int .i64 i ∧ wr = w.alloc (.cells #[.int .i64 1, .int .i64 3, .int .i64 4, .int .i64 7, .int .i64 5, .int .i64 6, .int .i64 8, .int .i64 9, .int .i64 10, .int .i64 11] 43) ∧ ∀ j, j < i → ¬ k = codesL.getD j 0) (fun iv _ => 10 - (intOf iv).toNat)
  case atStart => exact ⟨0, by omega, rfl, rfl, fun j hj => by omega⟩
  case round =>
    obtain ⟨i, hi, rfl, rfl, hno⟩ := hrel
    have HN := Lib.hid hno
    clear hno
    by_cases hlt : i < 10
    · have hc := HC.out i hlt
      by_cases hk : k = codesL.getD i 0
      · have HV := Lib.hid (codeV_at hlt hk)
        have HK := Lib.hid hk
        have hd : decide (k = codesL.getD i 0) = true := by simpa using hk
        clear hk
        rw [← HK.out] at hc hd
        go_wp2_with (go_at_call 29; refine (HI.out _ _).mono ?_; rintro e w2 ⟨rfl, hw⟩; obtain rfl := hw)
        go_ret
        exact ⟨by rw [HV.out]; rfl, (Below.refl _ _).alloc (Nat.le_refl _) _⟩
      · have hd : decide (k = codesL.getD i 0) = false := by simpa using hk
        have HK := Lib.hid hk
        clear hk
        generalize hg : codesL.getD i 0 = q at hc hd
        go_wp2_with (go_at_call 29; refine (HI.out _ _).mono ?_; rintro e w2 ⟨rfl, hw⟩; obtain rfl := hw)
        go_roundw
        case rel => exact ⟨i + 1, by omega, by go_num, trivial, fun j hj => by
          by_cases hji : j < i
          · exact HN.out j hji
          · obtain rfl : j = i := by omega
            exact HK.out⟩
        case measure => simp [intOf]; omega
    · obtain rfl : i = 10 := by omega
      have HV := Lib.hid (codeV_none (k := k) HN.out)
      go_wp2
      go_ret
      exact ⟨by rw [HV.out]; rfl, (Below.refl _ _).alloc (Nat.le_refl _) _⟩
theorem wrap_nil (w : World) (s : ByteArray) : Calls Try.prog 28 #[.string s, .nilIface] w fun e w' => e = .returned .nilIface ∧ w = w' := by
  have n2 := nilN
  go_enter Try.func28, Try.ntmps28
  go_wp2
  go_ret
  exact ⟨rfl, rfl⟩
theorem wrap_at (w : World) (s : ByteArray) (t : TypeId) (x : Value) :
    Calls Try.prog 28 #[.string s, .iface t x] w fun e w' => e = .returned (.iface 76 (.pointer (some ⟨w.heap.size, 0, none⟩))) ∧ w' = w.alloc (.cells #[.string s, .iface t x] 79) := by
  have n1 := nilE
  go_enter Try.func28, Try.ntmps28
  go_wp2
  go_ret
  exact ⟨rfl, rfl⟩
theorem ErrS.wrap {w : World} {L : List ByteArray} {k : Int} {v : Value} (h : ErrS w L k v) (s : ByteArray) : ErrS (w.alloc (.cells #[.string s, v] 79)) (s :: L) k (.iface 76 (.pointer (some ⟨w.heap.size, 0, none⟩))) :=
  ⟨w.heap.size, v, rfl, heap_alloc_new w _, h.alloc _⟩
end Go.Proofs.Ytpdkjifalgeodaa
