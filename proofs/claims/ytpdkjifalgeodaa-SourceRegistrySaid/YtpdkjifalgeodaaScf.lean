/- SourceRegistry: the registry's calls whatever its map; a name into a list. -/
import Derived.Test.YtpdkjifalgeodaaSce
import Derived.Deep.RegionLawGrows
namespace Go.Proofs.Ytpdkjifalgeodaa
open Go.RowKit Go.Extern.Stop Go.Stop Go.Extern Go.Lib Go.Tx
/-- A registry of the law's own. -/
structure RegS (B : Nat) (w : World) (K r : Nat) (D : DataW Value) : Prop where
  low : B ≤ r
  at_ : ∃ mp, RegAt w K r mp D ∧ ∀ m, mp = some m → B ≤ m
theorem RegS.below {B K r : Nat} {w w' : World} {D : DataW Value} (h : RegS B w K r D) (hb : Below w.heap.size w w') : RegS B w' K r D := by
  obtain ⟨h1, mp, h2, h3⟩ := h
  exact ⟨h1, mp, h2.below hb, h3⟩
theorem RegAt.lt_map {w : World} {K r m : Nat} {D : DataW Value} (h : RegAt w K r (some m) D) : m < w.heap.size := by
  obtain ⟨n, _, _, es, clock, ho, _⟩ := h.got
  exact lt_of ho
theorem RegS.new (B : Nat) (w : World) (hB : B ≤ w.heap.size) : RegS B (w.alloc (.cells #[.map none] 98)) 0 w.heap.size (.map []) := ⟨hB, none, RegAt.new w, fun m h => by cases h⟩
theorem RegS.isMap {B K r : Nat} {w : World} {D : DataW Value} (h : RegS B w K r D) : Go.Maps.IsMap D := by
  obtain ⟨_, mp, h2, _⟩ := h
  exact h2.isMap
theorem RegS.mono {B K K' r : Nat} {w : World} {D : DataW Value} (h : RegS B w K r D) (hK : K ≤ K') : RegS B w K' r D := by
  obtain ⟨h1, mp, h2, h3⟩ := h
  refine ⟨h1, mp, ⟨h2.cell, ?_⟩, h3⟩
  rcases h2.map with h | ⟨m, n, e, hne, hn, ho⟩
  · exact .inl h
  · exact .inr ⟨m, n, e, hne, by omega, ho⟩
/-- What a Put leaves: all that lies below B, and every block of cells that is no registry. -/
structure PutF (B : Nat) (w w' : World) : Prop where
  bel : Below B w w'
  size : w.heap.size ≤ w'.heap.size
  cells : ∀ (b : Nat) cs e fr, w.heap[b]? = some (.cells cs e fr) → e ≠ 98 → w'.heap[b]? = some (.cells cs e fr)
theorem PutF.of {B K r : Nat} {w w' : World} {S : List Nat} {mp : Option Nat} {D : DataW Value} (h : RegAt w K r mp D) (hr : B ≤ r) (hm : ∀ m, mp = some m → B ≤ m) (hB : B ≤ w.heap.size) (hb : ButL w.heap.size S w w') (hS : ∀ b ∈ S, b = r ∨ mp = some b) : PutF B w w' :=
  ⟨⟨hb.os, hb.tape, hb.output, hb.size, fun k hk => hb.block k (by omega) (fun hk' => by rcases hS k hk' with rfl | e; omega; have := hm k e; omega)⟩, hb.size, fun b cs e fr he hne => (hb.block b (lt_of he) (fun hk => by
    have := h.no he hne
    rcases hS b hk with rfl | e'
    · exact this.1 rfl
    · exact this.2 b e' rfl)).trans he⟩
theorem reg_put (d : DefL) (w : World) (B K r : Nat) (D : DataW Value) (h : RegS B w K r D) (hK : K < 1000) (hB : B ≤ w.heap.size) (hne : d.label.data.toList ≠ []) (hl : d.label.size ≤ maxLen) :
    Calls Try.prog 20 #[.pointer (some ⟨r, 0, none⟩), srcV d] w fun e w' => e = .returned (.tuple #[]) ∧ RegS B w' (K + 1) r (D.put (keyS d.label) (.held (srcV d))) ∧ PutF B w w' := by
  obtain ⟨h1, mp, h2, h3⟩ := h
  cases mp with
  | none =>
    refine (put_none d w K r D h2 hne hl).mono ?_
    rintro e w' ⟨he, m, hm, hR, hb⟩
    exact ⟨he, ⟨h1, some m, hR, fun m' e => by cases e; omega⟩, PutF.of h2 h1 h3 hB hb (fun b hb => .inl (List.mem_singleton.1 hb))⟩
  | some m =>
    refine (put_some d w K r m D h2 hK hne hl).mono ?_
    rintro e w' ⟨he, hR, hb⟩
    refine ⟨he, ⟨h1, some m, hR, h3⟩, PutF.of h2 h1 h3 hB hb (fun b hb => ?_)⟩
    rcases List.mem_cons.1 hb with rfl | hb
    · exact .inl rfl
    · rw [List.mem_singleton.1 hb]
      exact .inr rfl
theorem reg_get (w : World) (B K r : Nat) (D : DataW Value) (h : RegS B w K r D) (s : ByteArray) (hs : s.size ≤ maxLen) :
    Calls Try.prog 21 #[.pointer (some ⟨r, 0, none⟩), .string s] w fun e w' => e = .returned (.tuple #[getV D s, .bool (Go.Maps.has D (keyS s))]) ∧ w = w' := by
  obtain ⟨_, mp, h2, _⟩ := h
  cases mp with
  | none =>
    obtain rfl : D = .map [] := by
      rcases h2.map with ⟨_, e⟩ | ⟨m, n, e, _⟩
      · exact e
      · cases e
    exact get_none w K r _ h2 s
  | some m => exact get_any w K r m D h2 s hs
theorem StrC.put {B B0 : Nat} {w w' : World} {v : Value} {ws : List (List UInt8)} (h : StrC B w v ws) (hp : PutF B0 w w') : StrC B w' v ws := by
  refine ⟨h.1, ?_⟩
  rcases h.2 with h | ⟨g, cap, cur, a1, a2, a3, a4⟩
  · exact .inl h
  · exact .inr ⟨g, cap, cur, a1, a2, hp.cells g _ _ _ a3 (by decide), a4⟩
set_option maxHeartbeats 1000000 in
set_option maxRecDepth 100000 in
theorem names_none (w : World) (K r : Nat) (D : DataW Value) (h : RegAt w K r none D) :
    Calls Try.prog 23 #[.pointer (some ⟨r, 0, none⟩)] w fun e w' => ∃ v, e = .returned v ∧ StrC w.heap.size w' v [] ∧ Below w.heap.size w w' := by
  have HS := Lib.hid (callsIn_wide.1 (Try.slices_Sorted_keys_nil_39_40 w))
  have k1 := cell1 h.cell
  clear h
  go_enter Try.func23, Try.ntmps23
  go_wp2_with (first | (go_at_call 40; refine (keys40 _ _).mono ?_; rintro e w2 ⟨rfl, rfl⟩) | (go_at_call 39; refine HS.out.mono ?_; rintro e w3 ⟨v, ss, rfl, hp, hr, _, hb⟩; have HP := Lib.hid hp; have HR := Lib.hid hr; have HB := Lib.hid hb; clear hp hr hb))
  go_ret
  have hr := row_strC (ownsRow_base_a (base' := w.heap.size) HR.out (by rw [al_size]; omega))
  rw [HP.out, List.mergeSort_nil] at hr
  exact ⟨_, rfl, hr, keepE (al_bel w _) HB.out⟩
theorem reg_names (w : World) (B K r : Nat) (D : DataW Value) (L : List (List UInt8)) (h : RegS B w K r D) (hK : K < 1000) (hL : KeysAre D L) :
    Calls Try.prog 23 #[.pointer (some ⟨r, 0, none⟩)] w fun e w' => ∃ v, e = .returned v ∧ StrC w.heap.size w' v L ∧ Below w.heap.size w w' := by
  obtain ⟨_, mp, h2, _⟩ := h
  cases mp with
  | none =>
    obtain rfl : D = .map [] := by
      rcases h2.map with ⟨_, e⟩ | ⟨m, n, e, _⟩
      · exact e
      · cases e
    obtain rfl : L = [] := List.eq_nil_iff_forall_not_mem.2 (fun x hx => by have := (hL.2 x).1 hx; simp [Go.Maps.has] at this)
    exact names_none w K r _ h2
  | some m =>
    refine (names_any w K r m D h2 hK).mono ?_
    rintro e w' ⟨v, ss, he, hp, hs, hb⟩
    rw [h2.keys hL hp] at hs
    exact ⟨v, he, hs, hb⟩
/-! ### A name into a list. -/
theorem sl_front (w : World) (a : Option Addr) (n cap k : Nat) (hk : k ≤ cap) :
    (Instr.slice 23 (.slice a n cap) none (some (.int .i64 k)) (some (.int .i64 k))).run Try.prog w = .ok (.slice a k k) w := by
  have hz : (sizeOf (Try.prog.elem 23)).run Try.prog w = .ok 1 w := by kernel_rfl
  rw [run_slice_hm w 23 a n cap (by kernel_rfl) .i64 .i64 k k (by omega) (by omega) (by omega), hz]
  have ha : a.map (fun x => x.add 0) = a := by cases a <;> rfl
  simp [Result.andThen, sliced, ha]
theorem sl_back (w : World) (a : Option Addr) (n cap k : Nat) (hk : k ≤ n) (hn : n ≤ cap) :
    (Instr.slice 23 (.slice a n cap) (some (.int .i64 k)) none none).run Try.prog w = .ok (.slice (if cap = k then a else a.map (·.add k)) (n - k) (cap - k)) w := by
  have hz : (sizeOf (Try.prog.elem 23)).run Try.prog w = .ok 1 w := by kernel_rfl
  rw [run_slice_l w 23 a n cap (by kernel_rfl) .i64 k (by omega) (by omega), hz]
  simp [Result.andThen, sliced]
/-- Nothing is appended. -/
theorem step_append_zero {ops : Array Oper} {o : Oper} {a : Act} {w : World} {K : Act → World → Prop} {Q : Exit → Act → World → Prop} {E : Prop} (hgd : o.guard = none) (s x : Operand)
    (ho : o.op = .call { callee := .builtin .append, args := #[s, x], argTypes := #[23, 23] }) (p : Option Addr) (n cap : Nat) (hs : a.eval s = .slice p n cap) (hn : n ≤ cap) (q : Option Addr) (c : Nat) (hx : a.eval x = .slice q 0 c)
    (h : K (a.put o.dst (.slice p n cap)) w) : if Region.wanted o (yielded ops a.tmps) = true then Oper.wp Try.prog o a w K Q else E := by
  have hw : Region.wanted o (yielded ops a.tmps) = true := by simp [Region.wanted, hgd]
  rw [if_pos hw]
  have hi : (sizeOf 9).run Try.prog w = .ok 1 w := by kernel_rfl
  have hl : (loadCells (q.getD ⟨0, 0, none⟩) 0).run Try.prog w = .ok #[] w := rfl
  have hst : ∀ a : Addr, (storeCells a []).run Try.prog w = .ok () w := fun a => rfl
  have hrun : (Builtin.append_ #[23, 23] o.type #[.slice p n cap, .slice q 0 c]).run Try.prog w = .ok (.slice p n cap) w := by
    cases q <;> cases p <;> simp [Builtin.append_, run_underlying Try.underlying23, Builtin.lenOf, Builtin.firstCells, hi, hn, hst] at hl ⊢ <;> simp [hl, hst, Result.andThen]
  unfold Oper.wp
  simp only [execOp, ho, resolve, invoke, builtin, Sem.run_bind, Sem.run_pure, Result.andThen_ok, List.map_toArray, List.map_cons, List.map_nil, hs, hx, hrun]
  exact h
end Go.Proofs.Ytpdkjifalgeodaa
