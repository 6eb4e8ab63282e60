/- Errors as they lie in memory: wrapped by sources, places, the law's own; what assertions and method sets say of their types. -/
import Derived.Test.YtfpgobbkeocokaaDoorRows
import Derived.WalkKit
import Derived.LaidEql
import Derived.Stop.Asserts
import Derived.RowKitTokens
import Derived.Lib.Hide
namespace Go.Proofs.YtfpgobbkeocokaaDoor
open Go.RowKit Go.Extern.Stop Go.Stop Go.Extern Go.Lib
inductive Lay where
  | src (s : ByteArray)
  | txt (l c : Int)
  | own
/-- An error wrapped so, the outermost first; inmost a code, or the law's own around nothing. -/
def ErrAt (w : World) : List Lay → Option Int → Value → Prop
  | [], some c, v => v = .iface 26 (.int .i64 c)
  | [], none, v => v = .iface 29 (.agg #[.nilIface])
  | .src s :: L, k, v => ∃ b u, v = .iface 32 (.pointer (some ⟨b, 0, none⟩)) ∧ w.heap[b]? = some (.cells #[.string s, u] 34 (0, 0)) ∧ ErrAt w L k u
  | .txt l c :: L, k, v => ∃ b u, v = .iface 35 (.pointer (some ⟨b, 0, none⟩)) ∧ w.heap[b]? = some (.cells #[.int .i64 l, .int .i64 c, u] 37 (0, 0)) ∧ ErrAt w L k u
  | .own :: L, k, v => ∃ u, v = .iface 29 (.agg #[u]) ∧ ErrAt w L k u
theorem ErrAt.iface {w : World} {k : Option Int} {v : Value} : ∀ {L : List Lay}, ErrAt w L k v → ∃ t u, v = .iface t u
  | [], h => by
    cases k with
    | none => exact ⟨_, _, h⟩
    | some c => exact ⟨_, _, h⟩
  | .src s :: L, ⟨b, u, h, _⟩ => ⟨_, _, h⟩
  | .txt l c :: L, ⟨b, u, h, _⟩ => ⟨_, _, h⟩
  | .own :: L, ⟨u, h, _⟩ => ⟨_, _, h⟩
theorem ErrAt.same {w w' : World} {k : Option Int} (hh : ∀ b, b < w.heap.size → w'.heap[b]? = w.heap[b]?) : ∀ {L : List Lay} {v : Value}, ErrAt w L k v → ErrAt w' L k v
  | [], v, h => by
    cases k with
    | none => exact h
    | some c => exact h
  | .src s :: L, v, ⟨b, u, h, hb, hu⟩ => ⟨b, u, h, (hh b (Array.getElem?_eq_some_iff.1 hb).1).trans hb, ErrAt.same hh hu⟩
  | .txt l c :: L, v, ⟨b, u, h, hb, hu⟩ => ⟨b, u, h, (hh b (Array.getElem?_eq_some_iff.1 hb).1).trans hb, ErrAt.same hh hu⟩
  | .own :: L, v, ⟨u, h, hu⟩ => ⟨u, h, ErrAt.same hh hu⟩
theorem ErrAt.below {w w' : World} {k : Option Int} {L : List Lay} {v : Value} (h : ErrAt w L k v) (hb : Below w.heap.size w w') : ErrAt w' L k v := h.same hb.block
theorem tyNe : (26 : Nat) ≠ 29 ∧ (26 : Nat) ≠ 32 ∧ (26 : Nat) ≠ 35 ∧ (29 : Nat) ≠ 32 ∧ (29 : Nat) ≠ 35 ∧ (32 : Nat) ≠ 35 := by decide
/-- How deep an error is wrapped. -/
theorem ErrAt.det {w : World} {k k' : Option Int} : ∀ {L L' : List Lay} {v : Value}, ErrAt w L k v → ErrAt w L' k' v → L.length = L'.length
  | [], [], _, _, _ => rfl
  | [], .src s :: L', v, h, ⟨b, u, h2, _⟩ => by cases k <;> (rw [h] at h2; injection h2 with h2; exact absurd h2 (by decide))
  | [], .txt l c :: L', v, h, ⟨b, u, h2, _⟩ => by cases k <;> (rw [h] at h2; injection h2 with h2; exact absurd h2 (by decide))
  | [], .own :: L', v, h, ⟨u, h2, hu⟩ => by
    cases k with
    | some c => rw [h] at h2; injection h2 with h2; exact absurd h2 (by decide)
    | none =>
      rw [h] at h2
      injection h2 with _ h2
      injection h2 with h2
      injection h2 with h2
      injection h2 with h2
      obtain ⟨t, x, e⟩ := hu.iface
      rw [e] at h2
      cases h2
  | .src s :: L, [], v, ⟨b, u, h2, _⟩, h => by cases k' <;> (rw [h] at h2; injection h2 with h2; exact absurd h2 (by decide))
  | .txt l c :: L, [], v, ⟨b, u, h2, _⟩, h => by cases k' <;> (rw [h] at h2; injection h2 with h2; exact absurd h2 (by decide))
  | .own :: L, [], v, ⟨u, h2, hu⟩, h => by
    cases k' with
    | some c => rw [h] at h2; injection h2 with h2; exact absurd h2 (by decide)
    | none =>
      rw [h] at h2
      injection h2 with _ h2
      injection h2 with h2
      injection h2 with h2
      injection h2 with h2
      obtain ⟨t, x, e⟩ := hu.iface
      rw [e] at h2
      cases h2
  | .src s :: L, .src s' :: L', v, ⟨b, u, h, hb, hu⟩, ⟨b', u', h', hb', hu'⟩ => by
    rw [h] at h'; injection h' with _ h'; injection h' with h'; injection h' with h'; injection h' with h' _
    subst h'
    rw [hb] at hb'; injection hb' with hb'; injection hb' with hb'
    have : u = u' := by have e := congrArg Array.toList hb'; simp only [List.cons.injEq] at e; exact e.2.1
    subst this
    exact congrArg (· + 1) (ErrAt.det hu hu')
  | .txt l c :: L, .txt l' c' :: L', v, ⟨b, u, h, hb, hu⟩, ⟨b', u', h', hb', hu'⟩ => by
    rw [h] at h'; injection h' with _ h'; injection h' with h'; injection h' with h'; injection h' with h' _
    subst h'
    rw [hb] at hb'; injection hb' with hb'; injection hb' with hb'
    have : u = u' := by have e := congrArg Array.toList hb'; simp only [List.cons.injEq] at e; exact e.2.2.1
    subst this
    exact congrArg (· + 1) (ErrAt.det hu hu')
  | .own :: L, .own :: L', v, ⟨u, h, hu⟩, ⟨u', h', hu'⟩ => by
    rw [h] at h'; injection h' with _ h'; injection h' with h'; injection h' with h'; injection h' with h'
    subst h'
    exact congrArg (· + 1) (ErrAt.det hu hu')
  | .src s :: L, .txt l c :: L', v, ⟨b, u, h, _⟩, ⟨b', u', h2, _⟩ => by rw [h] at h2; injection h2 with h2; exact absurd h2 (by decide)
  | .src s :: L, .own :: L', v, ⟨b, u, h, _⟩, ⟨u', h2, _⟩ => by rw [h] at h2; injection h2 with h2; exact absurd h2 (by decide)
  | .txt l c :: L, .src s :: L', v, ⟨b, u, h, _⟩, ⟨b', u', h2, _⟩ => by rw [h] at h2; injection h2 with h2; exact absurd h2 (by decide)
  | .txt l c :: L, .own :: L', v, ⟨b, u, h, _⟩, ⟨u', h2, _⟩ => by rw [h] at h2; injection h2 with h2; exact absurd h2 (by decide)
  | .own :: L, .src s :: L', v, ⟨u, h, _⟩, ⟨b', u', h2, _⟩ => by rw [h] at h2; injection h2 with h2; exact absurd h2 (by decide)
  | .own :: L, .txt l c :: L', v, ⟨u, h, _⟩, ⟨b', u', h2, _⟩ => by rw [h] at h2; injection h2 with h2; exact absurd h2 (by decide)
open Classical in
noncomputable def depE (w : World) (v : Value) : Nat := if h : ∃ n, ∃ L k, ErrAt w L k v ∧ L.length = n then Classical.choose h else 0
theorem ErrAt.dep {w : World} {k : Option Int} {L : List Lay} {v : Value} (h : ErrAt w L k v) : depE w v = L.length := by
  have hx : ∃ n, ∃ L k, ErrAt w L k v ∧ L.length = n := ⟨_, L, k, h, rfl⟩
  unfold depE
  rw [dif_pos hx]
  obtain ⟨L', k', h', e⟩ := Classical.choose_spec hx
  rw [← e]
  exact h'.det h
/-! ### What the assertions of errors.Is and errors.As find. -/
theorem noIsC (v : Value) (x : TypeId) (w : World) : (Instr.typeAssert (.iface 26 v) x 87 true).run Tryd.prog w = .ok (.tuple #[.nilIface, .bool false]) w := run_typeAssert_lacksB Tryd.underlying87 (by kernel_rfl) (by kernel_rfl) v x w
theorem noIsO (v : Value) (x : TypeId) (w : World) : (Instr.typeAssert (.iface 29 v) x 87 true).run Tryd.prog w = .ok (.tuple #[.nilIface, .bool false]) w := run_typeAssert_lacksB Tryd.underlying87 (by kernel_rfl) (by kernel_rfl) v x w
theorem noIsS (v : Value) (x : TypeId) (w : World) : (Instr.typeAssert (.iface 32 v) x 87 true).run Tryd.prog w = .ok (.tuple #[.nilIface, .bool false]) w := run_typeAssert_lacksB Tryd.underlying87 (by kernel_rfl) (by kernel_rfl) v x w
theorem noIsT (v : Value) (x : TypeId) (w : World) : (Instr.typeAssert (.iface 35 v) x 87 true).run Tryd.prog w = .ok (.tuple #[.nilIface, .bool false]) w := run_typeAssert_lacksB Tryd.underlying87 (by kernel_rfl) (by kernel_rfl) v x w
theorem noAsC (v : Value) (x : TypeId) (w : World) : (Instr.typeAssert (.iface 26 v) x 80 true).run Tryd.prog w = .ok (.tuple #[.nilIface, .bool false]) w := run_typeAssert_lacksB Tryd.underlying80 (by kernel_rfl) (by kernel_rfl) v x w
theorem noAsO (v : Value) (x : TypeId) (w : World) : (Instr.typeAssert (.iface 29 v) x 80 true).run Tryd.prog w = .ok (.tuple #[.nilIface, .bool false]) w := run_typeAssert_lacksB Tryd.underlying80 (by kernel_rfl) (by kernel_rfl) v x w
theorem noAsS (v : Value) (x : TypeId) (w : World) : (Instr.typeAssert (.iface 32 v) x 80 true).run Tryd.prog w = .ok (.tuple #[.nilIface, .bool false]) w := run_typeAssert_lacksB Tryd.underlying80 (by kernel_rfl) (by kernel_rfl) v x w
theorem noAsT (v : Value) (x : TypeId) (w : World) : (Instr.typeAssert (.iface 35 v) x 80 true).run Tryd.prog w = .ok (.tuple #[.nilIface, .bool false]) w := run_typeAssert_lacksB Tryd.underlying80 (by kernel_rfl) (by kernel_rfl) v x w
theorem noUnC (v : Value) (x : TypeId) (w : World) : (Instr.typeAssert (.iface 26 v) x 57 true).run Tryd.prog w = .ok (.tuple #[.nilIface, .bool false]) w := run_typeAssert_lacksB Tryd.underlying57 (by kernel_rfl) (by kernel_rfl) v x w
theorem noUsC (v : Value) (x : TypeId) (w : World) : (Instr.typeAssert (.iface 26 v) x 83 true).run Tryd.prog w = .ok (.tuple #[.nilIface, .bool false]) w := run_typeAssert_lacksB Tryd.underlying83 (by kernel_rfl) (by kernel_rfl) v x w
theorem hasUnO (v : Value) (x : TypeId) (w : World) : (Instr.typeAssert (.iface 29 v) x 57 true).run Tryd.prog w = .ok (.tuple #[.iface 29 v, .bool true]) w := run_typeAssert_hasB Tryd.underlying57 (by kernel_rfl) v x w
theorem hasUnS (v : Value) (x : TypeId) (w : World) : (Instr.typeAssert (.iface 32 v) x 57 true).run Tryd.prog w = .ok (.tuple #[.iface 32 v, .bool true]) w := run_typeAssert_hasB Tryd.underlying57 (by kernel_rfl) v x w
theorem hasUnT (v : Value) (x : TypeId) (w : World) : (Instr.typeAssert (.iface 35 v) x 57 true).run Tryd.prog w = .ok (.tuple #[.iface 35 v, .bool true]) w := run_typeAssert_hasB Tryd.underlying57 (by kernel_rfl) v x w
theorem metUnO (n : Nat) (v : Value) (w : World) : (Go.method (n + 1) 29 v "Unwrap").run Tryd.prog w = .ok (52, v) w := by kernel_rfl
theorem metUnS (n : Nat) (v : Value) (w : World) : (Go.method (n + 1) 32 v "Unwrap").run Tryd.prog w = .ok (54, v) w := by kernel_rfl
theorem metUnT (n : Nat) (v : Value) (w : World) : (Go.method (n + 1) 35 v "Unwrap").run Tryd.prog w = .ok (56, v) w := by kernel_rfl
/-! ### Unwrap, each of the three. -/
theorem unS (b : Nat) (s : ByteArray) (u : Value) (w : World) (h : w.heap[b]? = some (.cells #[.string s, u] 34 (0, 0))) :
    Calls Tryd.prog 54 #[.pointer (some ⟨b, 0, none⟩)] w fun e w' => e = .returned u ∧ w = w' := by
  have k1 : w.cell? ⟨b, 1, none⟩ = some u := by simp [World.cell?, h]
  clear h
  go_enter Tryd.func54, Tryd.ntmps54
  go_wp2
  go_ret
  exact ⟨rfl, rfl⟩
theorem unT (b : Nat) (l c : Int) (u : Value) (w : World) (h : w.heap[b]? = some (.cells #[.int .i64 l, .int .i64 c, u] 37 (0, 0))) :
    Calls Tryd.prog 56 #[.pointer (some ⟨b, 0, none⟩)] w fun e w' => e = .returned u ∧ w = w' := by
  have k1 : w.cell? ⟨b, 2, none⟩ = some u := by simp [World.cell?, h]
  clear h
  go_enter Tryd.func56, Tryd.ntmps56
  go_wp2
  go_ret
  exact ⟨rfl, rfl⟩
theorem unO (u : Value) (w : World) (hu : u = .nilIface ∨ ∃ t x, u = .iface t x) :
    Calls Tryd.prog 52 #[.agg #[u]] w fun e w' => e = .returned u ∧ Below w.heap.size w w' := by
  rcases hu with rfl | ⟨t, x, rfl⟩
  all_goals
    go_enter Tryd.func52, Tryd.ntmps52
    go_wp2
    go_ret
    exact ⟨rfl, (Below.refl _ _).alloc (Nat.le_refl _) _⟩
end Go.Proofs.YtfpgobbkeocokaaDoor
