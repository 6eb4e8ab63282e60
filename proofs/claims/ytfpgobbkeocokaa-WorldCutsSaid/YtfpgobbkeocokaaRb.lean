/- A slice of bytes of the call's own, nil or a row, appended to from whatever source. -/
import Derived.Test.YtfpgobbkeocokaaRa
import Derived.OwnWalk
namespace Go.Rb
open Go.RowKit Go.Ev
/-- A slice of bytes that reads as l: nil, or a row in a block from B on. -/
def RB (B : Nat) (w : World) (v : Value) (l : List UInt8) : Prop :=
  (v = .slice none 0 0 ∧ l = []) ∨ ∃ b cap, v = .slice (some ⟨b, 0, none⟩) l.length cap ∧ B ≤ b ∧ cap ≤ 9223372036854775807 ∧ RowB 5 w b cap l
theorem RB.nil (B : Nat) (w : World) : RB B w (.slice none 0 0) [] := .inl ⟨rfl, rfl⟩
theorem RB.alloc {B : Nat} {w : World} {v : Value} {l : List UInt8} (h : RB B w v l) (o : Obj) : RB B (w.alloc o) v l := by
  rcases h with h | ⟨b, cap, h1, h2, h3, h4⟩
  · exact .inl h
  · exact .inr ⟨b, cap, h1, h2, h3, h4.alloc o⟩
theorem RB.below {B : Nat} {w w' : World} {v : Value} {l : List UInt8} (h : RB B w v l) (hb : Below w.heap.size w w') : RB B w' v l := by
  rcases h with h | ⟨b, cap, h1, h2, h3, h4⟩
  · exact .inl h
  · refine .inr ⟨b, cap, h1, h2, h3, h4.below hb ?_⟩
    obtain ⟨_, _, _, hh, _⟩ := h4
    exact (Array.getElem?_eq_some_iff.1 hh).1
theorem RB.shape {B : Nat} {w : World} {v : Value} {l : List UInt8} (h : RB B w v l) : ∃ p c, v = .slice p l.length c ∧ l.length ≤ c ∧ c ≤ 9223372036854775807 := by
  rcases h with ⟨rfl, rfl⟩ | ⟨b, cap, h1, _, h3, _, _, _, _, _, _, h4, _⟩
  · exact ⟨none, 0, rfl, Nat.le_refl _, by decide⟩
  · exact ⟨_, cap, h1, h4, h3⟩
theorem RB.str {B : Nat} {w : World} {v : Value} {l : List UInt8} (h : RB B w v l) {P : Program} {src dst : TypeId} (hs : P.underlying src = some (.slice 5)) (he : P.underlying 5 = some (.int .u8)) (hd : P.underlying dst = some .string) :
    (convert src dst v).run P w = .ok (.string ⟨l.toArray⟩) w := by
  rcases h with ⟨rfl, rfl⟩ | ⟨b, cap, rfl, _, _, h4⟩
  · rw [run_convert_bytes_string w src dst 5 none 0 0 hs he hd]
    rfl
  · exact h4.str cap hs he hd
theorem run_append_rb {P : Program} {ts : Array TypeId} {ty t u : TypeId} {d : TypeDesc} {i : TypeInfo} {w : World} {B : Nat} {l m : List UInt8} {s v : Value}
    (h0 : ts[0]? = some t) (h1 : ts[1]? = some u) (ht : P.underlying t = some (.slice 5)) (hu : P.underlying u = some d) (hd : ∀ k, d ≠ .int k)
    (hi : P.info? 5 = some i) (hz0 : i.zero = some (.int .u8 0)) (hz1 : i.size = 1) (hz2 : i.bytes = 1)
    (hr : RB B w s l) (hs : Src P w v m) (hB : B ≤ w.heap.size) (hbd : l.length + m.length ≤ 1000000) :
    ∃ s' w', (Builtin.append_ ts ty #[s, v]).run P w = .ok s' w' ∧ RB B w' s' (l ++ m) ∧ Below B w w' := by
  rcases hr with ⟨rfl, rfl⟩ | ⟨b, cap, rfl, hb, hcap, hrow⟩
  · have hsrc := hs.read
    rw [← hz1] at hsrc
    by_cases hm : m = []
    · subst hm
      have hrun := append_fits (P := P) (w := w) (ty := ty) (base := none) (sLen := 0) (sCap := 0) h0 h1 ht hu hd hi hs.len (hsrc w rfl) (Nat.le_refl _)
      exact ⟨_, _, hrun, .inl ⟨rfl, rfl⟩, Below.refl _ _⟩
    · have hml : 0 < m.length := List.length_pos_iff.2 hm
      simp only [List.length_nil, Nat.zero_add] at hbd
      have hold : (Builtin.firstCells i.size 0 (.slice none 0 0)).run P w.drew = .ok ([] : List Value).toArray w.drew := run_firstCells_none w.drew i.size 0 0 0
      have hrun := append_grows (P := P) (w := w) (ty := ty) (base := none) (sLen := 0) (sCap := 0) (us := []) h0 h1 ht hu hd hi hz0 hs.len (hsrc w.drew rfl) hold (by omega) (by rw [hz2]; omega) (by omega)
      have hge := grownCap_ge w (0 + m.length) 0 5
      have hmx := grownCap_le_maxLen w (0 + m.length) 0 5 (by unfold maxLen; omega)
      unfold maxLen at hmx
      simp only [Nat.zero_add] at hrun hge hmx
      refine ⟨_, _, hrun, .inr ⟨w.heap.size, grownCap w m.length 0 5, by simp, hB, by omega, ⟨_, 0, 0, heap_alloc_new w.drew _, .inr rfl, ?_, by simpa using hge, fun j c hj => ?_⟩⟩, (Below.refl _ _).drew.alloc hB _⟩
      · simp [vbytes, Builtin.zeroCells, Value.cells]
        omega
      · have hjl := (List.getElem?_eq_some_iff.1 hj).1
        simp at hjl hj
        rw [Array.getElem?_append_left (by simp [vbytes]; omega), Array.getElem?_append_right (by simp)]
        simp [vbytes, hj]
  · obtain ⟨b', cap', w', e1, e2, e3, e4, e5, _⟩ := run_append_row (P := P) (ts := ts) (ty := ty) h0 h1 ht hu hd hi hz0 hz1 hz2 hrow hs hb hcap hbd
    exact ⟨_, w', e1, .inr ⟨b', cap', by rw [List.length_append], e4, e5, e2⟩, e3⟩
theorem wpList_append_rb {P : Program} {ops : Array Oper} {rest : List Oper} {o : Oper} {a : Act} {w : World} {Q : Exit → Act → World → Prop} (hgd : o.guard = none) (s x : Operand) (t u : TypeId)
    (ho : o.op = .call { callee := .builtin .append, args := #[s, x], argTypes := #[t, u] }) {d : TypeDesc} {i : TypeInfo}
    (ht : P.underlying t = some (.slice 5)) (hu : P.underlying u = some d) (hd : ∀ k, d ≠ .int k) (hi : P.info? 5 = some i) (hz0 : i.zero = some (.int .u8 0)) (hz1 : i.size = 1) (hz2 : i.bytes = 1)
    {B : Nat} {l m : List UInt8} {sv v : Value} (hs : a.eval s = sv) (hx : a.eval x = v) (hr : RB B w sv l) (hv : Src P w v m) (hB : B ≤ w.heap.size) (hbd : l.length + m.length ≤ 1000000)
    (h : ∀ s' w', RB B w' s' (l ++ m) → Below B w w' → wpList P ops Q rest (a.put o.dst s') w') : wpList P ops Q (o :: rest) a w :=
  wpList_plain hgd fun _ hK => by
    obtain ⟨s', w', e1, e2, e3⟩ := run_append_rb (P := P) (ts := #[t, u]) (ty := o.type) (t := t) (u := u) rfl rfl ht hu hd hi hz0 hz1 hz2 hr hv hB hbd
    unfold Oper.wp execOp
    simp only [ho, resolve, invoke, builtin, Sem.run_bind, Sem.run_pure, Result.andThen_ok, List.map_toArray, List.map_cons, List.map_nil, hs, hx, e1]
    exact hK _ _ (h s' w' e2 e3)
/-- A literal's row as a source. -/
theorem Src.lit (P : Program) (w : World) (l : List UInt8) : Src P (w.alloc (.cells (vbytes l).toArray 5)) (.slice (some ⟨w.heap.size, 0, none⟩) l.length l.length) l := by
  refine Src.row (cap := l.length) ⟨_, 0, 0, heap_alloc_new w _, .inr rfl, by simp [vbytes], Nat.le_refl _, fun j c hj => ?_⟩
  rw [List.getElem?_toArray]
  simp only [vbytes, List.getElem?_map, hj, Option.map_some]
end Go.Rb
