/- An append of bytes within a walk; a made row of bytes. -/
import Derived.Test.YtmnkdfecclbgfaaRa
import Derived.Test.YtmnkdfecclbgfaaLf
import Derived.Test.YtmnkdfecclbgfaaTg
import Derived.OwnWalk
namespace Go.Rb
open Go.RowKit Go.Ev
theorem wpList_append_row {P : Program} {ops : Array Oper} {rest : List Oper} {o : Oper} {a : Act} {w : World} {Q : Exit → Act → World → Prop} (hgd : o.guard = none) (s x : Operand) (t u : TypeId)
    (ho : o.op = .call { callee := .builtin .append, args := #[s, x], argTypes := #[t, u] }) {d : TypeDesc} {i : TypeInfo}
    (ht : P.underlying t = some (.slice 5)) (hu : P.underlying u = some d) (hd : ∀ k, d ≠ .int k) (hi : P.info? 5 = some i) (hz0 : i.zero = some (.int .u8 0)) (hz1 : i.size = 1) (hz2 : i.bytes = 1)
    {b cap n N B : Nat} {l m : List UInt8} {v : Value} (hs : a.eval s = .slice (some ⟨b, 0, none⟩) n cap) (hn : l.length = n) (hx : a.eval x = v) (hr : RowB 5 w b cap l) (hv : Src P w v m) (hB : B ≤ b) (hcap : cap ≤ 9223372036854775807) (hN : n + m.length = N) (hbd : N ≤ 1000000)
    (h : ∀ b' cap' w', RowB 5 w' b' cap' (l ++ m) → Below B w w' → B ≤ b' → cap' ≤ 9223372036854775807 → N ≤ cap' → wpList P ops Q rest (a.put o.dst (.slice (some ⟨b', 0, none⟩) N cap')) w') : wpList P ops Q (o :: rest) a w :=
  wpList_plain hgd fun _ hK => by
    subst hn hN
    obtain ⟨b', cap', w', e1, e2, e3, e4, e5, e6⟩ := run_append_row (P := P) (ts := #[t, u]) (ty := o.type) (t := t) (u := u) rfl rfl ht hu hd hi hz0 hz1 hz2 hr hv hB hcap hbd
    unfold Oper.wp execOp
    simp only [ho, resolve, invoke, builtin, Sem.run_bind, Sem.run_pure, Result.andThen_ok, List.map_toArray, List.map_cons, List.map_nil, hs, hx, e1]
    exact hK _ _ (h b' cap' w' e2 e3 e4 e5 e6)
end Go.Rb
namespace Go.Proofs.Ytmnkdfecclbgfaa
open Go.RowKit Go.Rb Go.Tx
theorem info5 : (Try.prog.info? 5).map (fun i => (i.zero, i.size, i.bytes)) = some (some (.int .u8 0), 1, 1) := by kernel_rfl
theorem make_row (n : Nat) (hn : n ≤ 1000) (w : World) : ∃ o, (Instr.makeSlice 33 (.int .i64 n) (.int .i64 n)).run Try.prog w = .ok (.slice (some ⟨w.heap.size, 0, none⟩) n n) (w.alloc o) ∧ RowB 5 (w.alloc o) w.heap.size n (fillL 0 n) := by
  obtain ⟨i0, hi, hz0, hz1, hz2⟩ := info_parts info5
  have hr := run_make (P := Try.prog) w 33 5 i0 _ Try.underlying33 hi hz0 .i64 .i64 n n (by omega) (Int.le_refl _) (by rw [hz2]; omega) (by omega)
  refine ⟨_, hr, _, 0, 0, heap_alloc_new w _, .inr rfl, ?_, by rw [fillL_len 0 n (Nat.zero_le _)]; exact Nat.le_refl _, fun j c hj => ?_⟩
  · rw [size_madeCells, hz1]; simp
  · have hjl := (List.getElem?_eq_some_iff.1 hj).1
    rw [fillL_len 0 n (Nat.zero_le _)] at hjl
    have hc : c = 0 := by
      unfold fillL at hj
      simp only [List.replicate_zero, List.nil_append, Nat.sub_zero, List.getElem?_replicate, hjl, if_true, Option.some.injEq] at hj
      exact hj.symm
    subst hc
    rw [hz1]
    simp [madeCells, hjl, Value.cells, Nat.mod_one]
end Go.Proofs.Ytmnkdfecclbgfaa
