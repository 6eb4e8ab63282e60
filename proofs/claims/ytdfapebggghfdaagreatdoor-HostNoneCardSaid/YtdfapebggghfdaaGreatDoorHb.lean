/- A host table in memory: its block, its two maps, the slices of texts in them; an append to one of these. -/
import Derived.Test.YtdfapebggghfdaaGreatDoorHa
import Derived.Test.YtdfapebggghfdaaGreatDoorMa
import Derived.Test.YtdfapebggghfdaaGreatDoorAt
namespace Go.Mp
open Go.Ev Go.RowKit
theorem MapAt.lookup2 {P : Program} {w : World} {b t key elem : Nat} {F : ByteArray → Option Value} (h : MapAt w b F) (ht : P.underlying t = some (.map key elem)) (hk : P.underlying key = some .string) {z : Value} (hz : (zeroValue elem).run P w = .ok z w) (k : ByteArray) :
    (Instr.lookup t (.map (some b)) (.string k) true).run P w = .ok (.tuple #[(F k).getD z, .bool (F k).isSome]) w := by
  obtain ⟨ms, c, h1, h2, h3⟩ := h
  have hf := find_str k ms.toList 0 h2
  rw [h3 k] at hf
  cases hF : F k with
  | none =>
    rw [hF] at hf
    simp only at hf
    simp only [Instr.lookup, pure_bind, Sem.run_bind, run_und ht, Result.andThen_ok, run_getObj h1 (by simp), checkKey_run hk rfl, findKey_run hk hf, hz, Sem.run_pure]
    rfl
  | some v =>
    rw [hF] at hf
    simp only at hf
    obtain ⟨j, m, _, _, _, _, h5, _⟩ := hf
    simp only [Instr.lookup, pure_bind, Sem.run_bind, run_und ht, Result.andThen_ok, run_getObj h1 (by simp), checkKey_run hk rfl, findKey_run hk h5, hz, Sem.run_pure]
    rfl
theorem wpList_mapUpdate_at' {P : Program} {w : World} {ops : Array Oper} {rest : List Oper} {o : Oper} {a : Act} {Q : Exit → Act → World → Prop}
    (hg : o.guard = none) (m x v : Operand) (t : TypeId) (hop : o.op = Op.mapUpdate t m x v) {key elem b : Nat} {F : ByteArray → Option Value} (ht : P.underlying t = some (.map key elem)) (hk : P.underlying key = some .string)
    (hm : a.eval m = .map (some b)) (hown : MapAt w b F) {k : ByteArray} {val : Value} (hx : a.eval x = .string k) (hv : a.eval v = val)
    (hK : ∀ w', MapAt w' b (upd F k val) → w'.heap.size = w.heap.size → (∀ j, j ≠ b → w'.heap[j]? = w.heap[j]?) → w'.os = w.os → w'.tape = w.tape → w'.output = w.output → wpList P ops Q rest (a.put o.dst undef) w') :
    wpList P ops Q (o :: rest) a w := by
  refine wpList_plain hg fun K' hK' => ?_
  obtain ⟨O, hrun, r1⟩ := hown.update ht hk k val
  unfold Oper.wp
  simp [execOp, hop, hm, hx, hv, hrun, Result.andThen]
  refine hK' _ _ (hK _ r1 (by simp) (fun j hj => ?_) rfl rfl rfl)
  simp only [Array.getElem?_setIfInBounds]
  rw [if_neg (fun e => hj e.symm)]
end Go.Mp
namespace Go.Tx
open Go.RowKit Go.Mp
abbrev nilV : Value := .slice none 0 0
/-- The block that the slice of k stands in. -/
def blk (F : ByteArray → Option Value) (k : List UInt8) : Option Nat := ((F ⟨k.toArray⟩).getD nilV).ownBlock
/-- Block p is a table of n rows, with the maps m1 (A: addresses by names) and m2 (C: names by addresses); its slices lie from block L on, no two of the first map in one block. -/
structure TB (L : Nat) (w : World) (p m1 m2 : Nat) (n : Nat) (A : List UInt8 → List (List UInt8)) (C : List UInt8 → Option (List (List UInt8))) (F G : ByteArray → Option Value) : Prop where
  pl : p < L
  l1 : m1 < L
  l2 : m2 < L
  n1 : p ≠ m1
  n2 : p ≠ m2
  n12 : m1 ≠ m2
  size : L ≤ w.heap.size
  blk : w.heap[p]? = some (.cells #[.int .i64 (n : Int), .map (some m1), .map (some m2)] 43 (0, 0))
  f : MapAt w m1 F
  g : MapAt w m2 G
  hF : ∀ k, StrC L w ((F ⟨k.toArray⟩).getD nilV) (A k)
  hG : ∀ k, match C k with
    | none => G ⟨k.toArray⟩ = none
    | some ws => ∃ v, G ⟨k.toArray⟩ = some v ∧ StrC L w v ws
  dF : ∀ k k' b, Go.Tx.blk F k = some b → Go.Tx.blk F k' = some b → k = k'
  dG : ∀ k k' b, Go.Tx.blk F k = some b → Go.Tx.blk G k' = some b → False
theorem TB.below {L : Nat} {w w' : World} {p m1 m2 n : Nat} {A : List UInt8 → List (List UInt8)} {C : List UInt8 → Option (List (List UInt8))} {F G : ByteArray → Option Value} (h : TB L w p m1 m2 n A C F G) (hb : Below w.heap.size w w') : TB L w' p m1 m2 n A C F G where
  pl := h.pl
  l1 := h.l1
  l2 := h.l2
  n1 := h.n1
  n2 := h.n2
  n12 := h.n12
  size := Nat.le_trans h.size hb.size
  blk := by rw [hb.block p (Nat.lt_of_lt_of_le h.pl h.size)]; exact h.blk
  f := h.f.same (hb.block m1 (Nat.lt_of_lt_of_le h.l1 h.size))
  g := h.g.same (hb.block m2 (Nat.lt_of_lt_of_le h.l2 h.size))
  hF := fun k => own_below (h.hF k) hb
  hG := fun k => by
    have := h.hG k
    split
    · rename_i e; rw [e] at this; exact this
    · rename_i ws e
      rw [e] at this
      obtain ⟨v, h1, h2⟩ := this
      exact ⟨v, h1, own_below h2 hb⟩
  dF := h.dF
  dG := h.dG
theorem TB.lt {L : Nat} {w : World} {p m1 m2 n : Nat} {A : List UInt8 → List (List UInt8)} {C : List UInt8 → Option (List (List UInt8))} {F G : ByteArray → Option Value} (h : TB L w p m1 m2 n A C F G) {k : List UInt8} {b : Nat} (hb : Go.Tx.blk F k = some b) : L ≤ b ∧ b < w.heap.size := World.ownsRow.lt (h.hF k) b hb
theorem bk (k : ByteArray) : (⟨k.data.toList.toArray⟩ : ByteArray) = k := by cases k; simp
/-- What a call may have turned: the table's block, its maps, and what lies from L on. -/
structure Out (L : Nat) (w w' : World) (p m1 m2 : Nat) : Prop where
  os : w'.os = w.os
  tape : w'.tape = w.tape
  output : w'.output = w.output
  size : w.heap.size ≤ w'.heap.size
  same : ∀ j, j < L → j ≠ p → j ≠ m1 → j ≠ m2 → w'.heap[j]? = w.heap[j]?
theorem Out.refl (L : Nat) (w : World) (p m1 m2 : Nat) : Out L w w p m1 m2 := ⟨rfl, rfl, rfl, Nat.le_refl _, fun _ _ _ _ _ => rfl⟩
theorem Out.trans {L : Nat} {w w' w'' : World} {p m1 m2 : Nat} (h : Out L w w' p m1 m2) (k : Out L w' w'' p m1 m2) : Out L w w'' p m1 m2 :=
  ⟨k.os.trans h.os, k.tape.trans h.tape, k.output.trans h.output, Nat.le_trans h.size k.size, fun j a b c d => (k.same j a b c d).trans (h.same j a b c d)⟩
theorem Out.below {L : Nat} {w w' w'' : World} {p m1 m2 : Nat} (h : Out L w w' p m1 m2) (hl : L ≤ w'.heap.size) (k : Below w'.heap.size w' w'') : Out L w w'' p m1 m2 :=
  h.trans ⟨k.os, k.tape, k.output, k.size, fun j a _ _ _ => k.block j (by omega)⟩
/-- Behind an append to the slice of k: everything else of the table is as it was. -/
theorem TB.grown {L : Nat} {w w' : World} {p m1 m2 n : Nat} {A : List UInt8 → List (List UInt8)} {C : List UInt8 → Option (List (List UInt8))} {F G : ByteArray → Option Value} (h : TB L w p m1 m2 n A C F G) {k : List UInt8} {r : Option Nat} (hr : r = none ∨ r = Go.Tx.blk F k) (hg : w.grownBy w' r) :
    L ≤ w'.heap.size ∧ w'.heap[p]? = w.heap[p]? ∧ w'.heap[m1]? = w.heap[m1]? ∧ w'.heap[m2]? = w.heap[m2]? ∧ (∀ j, j ≠ k → StrC L w' ((F ⟨j.toArray⟩).getD nilV) (A j)) ∧
    (∀ j, match C j with
      | none => G ⟨j.toArray⟩ = none
      | some ws => ∃ v, G ⟨j.toArray⟩ = some v ∧ StrC L w' v ws) := by
  have hrl : ∀ b, r = some b → L ≤ b := fun b hb => by
    rcases hr with e | e
    · rw [e] at hb; cases hb
    · rw [e] at hb; exact (h.lt hb).1
  have hlow : ∀ j, j < L → w'.heap[j]? = w.heap[j]? := fun j hj => hg.block j (Nat.lt_of_lt_of_le hj h.size) (fun e => by have := hrl j e.symm; omega)
  refine ⟨Nat.le_trans h.size hg.size, hlow p h.pl, hlow m1 h.l1, hlow m2 h.l2, fun j hj => ?_, fun j => ?_⟩
  · refine World.ownsRow.kept (h.hF j) hg ?_
    cases hv : ((F ⟨j.toArray⟩).getD nilV).ownBlock with
    | none => exact .inl rfl
    | some b =>
      refine .inr fun e => ?_
      rcases hr with e2 | e2
      · rw [e2] at e; cases e
      · exact hj (h.dF j k b hv (by rw [← e2]; exact e.symm))
  · have := h.hG j
    split
    · rename_i e; rw [e] at this; exact this
    · rename_i ws e
      rw [e] at this
      obtain ⟨v, h1, h2⟩ := this
      refine ⟨v, h1, World.ownsRow.kept h2 hg ?_⟩
      cases hv : v.ownBlock with
      | none => exact .inl rfl
      | some b =>
        refine .inr fun e => ?_
        rcases hr with e2 | e2
        · rw [e2] at e; cases e
        · exact h.dG k j b (by rw [← e2]; exact e.symm) (by unfold Go.Tx.blk; rw [h1]; exact hv)
end Go.Tx
namespace Go.Proofs.YtdfapebggghfdaaGreatDoor
open Go.RowKit Go.Lib Go.Tx Go.Mp
theorem zeroS (w : World) : (zeroValue 32).run Tryz.prog w = .ok (.slice none 0 0) w := Tryz.zeroValue32 w
/-- An append of one text: where it lies, what it has turned. -/
theorem append_one {w : World} {B : Nat} {v : Value} {ws : List (List UInt8)} (x : List UInt8) (ad : Addr) (hcell : w.cell? ad = some (strV x)) (hown : StrC B w v ws) (hlen : ws.length ≤ 1000) (hB : B ≤ w.heap.size) (ty : TypeId) :
    ∃ v' w', (Builtin.append_ #[32, 32] ty #[v, .slice (some ad) 1 1]).run Tryz.prog w = .ok v' w' ∧ StrC B w' v' (ws ++ [x]) ∧ w.grownBy w' v.ownBlock ∧ ∀ b, v'.ownBlock = some b → v.ownBlock = some b ∨ w.heap.size ≤ b := by
  obtain ⟨i9, hi, hz0, hz1, hz2⟩ := info_parts infoStr
  have hnews : ∀ (j : Nat) u, [strV x][j]? = some u → w.cell? (ad.add j) = some u := by
    intro j u hj
    have : j = 0 := by have := (List.getElem?_eq_some_iff.1 hj).1; simp at this; omega
    subst this
    simp only [List.getElem?_cons_zero, Option.some.injEq] at hj
    subst hj
    have ha : ad.add 0 = ad := by unfold Addr.add; split <;> simp_all
    rw [ha]; exact hcell
  have key : ∀ B', B' ≤ w.heap.size → w.ownsRow B' 9 1 v ws.length (ws.map strV) → ∃ v' w', (Builtin.append_ #[32, 32] ty #[v, .slice (some ad) 1 1]).run Tryz.prog w = .ok v' w' ∧ w'.ownsRow B' 9 1 v' (ws.length + 1) (ws.map strV ++ [strV x]) ∧ w.grownBy w' v.ownBlock := by
    intro B' hB' ho
    obtain ⟨v', w', h1, h2, h3, _⟩ := run_append_own (P := Tryz.prog) w B' 32 ty 9 i9 (.string ⟨#[]⟩) 1 16 Tryz.underlying32 hi hz0 hz1 hz2 rfl (by decide) v ws.length (ws.map strV) ho ad 1 1 [strV x] (by simp) hnews (by intro u hu; rw [List.mem_singleton.1 hu]; rfl) (by unfold maxLen; omega) (by omega) hB'
    exact ⟨v', w', h1, h2, h3⟩
  obtain ⟨v', w', h1, h2, h3⟩ := key B hB hown
  refine ⟨v', w', h1, ?_, h3, fun b hb => ?_⟩
  · unfold StrC
    rw [List.length_append, List.map_append]
    exact h2
  · rcases hown.2 with ⟨rfl, h0⟩ | ⟨g, cap, cur, rfl, hbg, hg, hnc, hcm, hcs, htake⟩
    · right
      obtain ⟨v2, w2, e1, e2, _⟩ := key w.heap.size (Nat.le_refl _) (by
        have hx : ws.map strV = [] := List.eq_nil_of_length_eq_zero (by simpa using h0)
        rw [hx, h0]
        exact World.ownsRow_nil _ _ _ _)
      rw [h1] at e1
      cases e1
      exact (e2.lt b hb).1
    · by_cases hroom : ws.length + 1 ≤ cap
      · left
        have hr := run_append_room (P := Tryz.prog) w 32 ty 9 i9 Tryz.underlying32 hi g ws.length cap cur hg ad 1 1 [strV x] (by rw [hz1]; simp) hnews (by intro u hu; rw [List.mem_singleton.1 hu]; rfl) hroom (by rw [hz1, hcs]; simp; omega)
        rw [h1] at hr
        cases hr
        exact hb
      · right
        have hr := run_append_grow (P := Tryz.prog) w 32 ty 9 i9 (.string ⟨#[]⟩) Tryz.underlying32 hi hz0 ⟨g, 0, none⟩ ws.length cap (ws.map strV) (by rw [hz1]; simp) (hown.cells (g := g) rfl) ad 1 1 [strV x] (by rw [hz1]; simp) hnews (by omega) (by omega) (growslice_fits (by omega) (by rw [hz2]; omega))
        rw [h1] at hr
        cases hr
        simp only [Value.ownBlock, Option.some.injEq] at hb
        omega
end Go.Proofs.YtdfapebggghfdaaGreatDoor
