/- Contract: one more row of a host table. -/
import Derived.Test.YtdfapebggghfdaaGreatDoorHb
import Derived.Test.YtdfapebggghfdaaGreatDoorHc
import Derived.Test.YtdfapebggghfdaaGreatDoorShelf
import Derived.LoopTactic
import Derived.StillTailTactics
import Derived.Deep.QuietTactic
import Derived.Laws.Cover3
namespace Go.Tx
open Go.RowKit Go.Mp
theorem own_same {B : Nat} {e : TypeId} {size n : Nat} {v : Value} {xs : List Value} {w w' : World} (h : w.ownsRow B e size v n xs) (hb : ∀ j, B ≤ j → w'.heap[j]? = w.heap[j]?) : w'.ownsRow B e size v n xs := by
  refine ⟨h.1, ?_⟩
  rcases h.2 with h | ⟨g, cap, cur, h1, h2, h3, h4⟩
  · exact .inl h
  · exact .inr ⟨g, cap, cur, h1, h2, by rw [hb g h2]; exact h3, h4⟩
theorem heap_setCell_ne (w : World) (b j off : Nat) (v : Value) (h : j ≠ b) : (w.setCell ⟨b, off, none⟩ v).heap[j]? = w.heap[j]? := by
  show (w.heap.modify b _)[j]? = _
  rw [Array.getElem?_modify, if_neg (fun e => h e.symm)]
theorem heap_setCell_eq (w : World) (b off : Nat) (v : Value) (c : Array Value) (e : TypeId) (fr : Nat × Nat) (h : w.heap[b]? = some (.cells c e fr)) : (w.setCell ⟨b, off, none⟩ v).heap[b]? = some (.cells (c.setIfInBounds off v) e fr) := by
  show (w.heap.modify b _)[b]? = _
  rw [Array.getElem?_modify, if_pos rfl, h]
  rfl
theorem size_setCell' (w : World) (a : Addr) (v : Value) : (w.setCell a v).heap.size = w.heap.size := by
  show (w.heap.modify _ _).size = _
  simp
section
variable {L : Nat} {w w' : World} {p m1 m2 n : Nat} {A : List UInt8 → List (List UInt8)} {C : List UInt8 → Option (List (List UInt8))} {F G : ByteArray → Option Value}
theorem TB.cells (h : TB L w p m1 m2 n A C F G) : w.cell? ⟨p, 0, none⟩ = some (.int .i64 (n : Int)) ∧ w.cell? ⟨p, 1, none⟩ = some (.map (some m1)) ∧ w.cell? ⟨p, 2, none⟩ = some (.map (some m2)) ∧ w.frozen? ⟨p, 0, none⟩ = false := by
  have hb := h.blk
  exact ⟨by simp [World.cell?, hb], by simp [World.cell?, hb], by simp [World.cell?, hb], by simp [World.frozen?, hb]⟩
theorem TB.bump (h : TB L w p m1 m2 n A C F G) : TB L (w.setCell ⟨p, 0, none⟩ (.int .i64 ((n + 1 : Nat) : Int))) p m1 m2 (n + 1) A C F G :=
  have hp := h.pl
  have hs : ∀ j, L ≤ j → (w.setCell ⟨p, 0, none⟩ (.int .i64 ((n + 1 : Nat) : Int))).heap[j]? = w.heap[j]? := fun j hj => heap_setCell_ne _ _ _ _ _ (by omega)
  { h with
    size := by rw [size_setCell']; exact h.size
    blk := by rw [heap_setCell_eq _ _ _ _ _ _ _ h.blk]; rfl
    f := h.f.same (heap_setCell_ne _ _ _ _ _ (fun e => h.n1 e.symm))
    g := h.g.same (heap_setCell_ne _ _ _ _ _ (fun e => h.n2 e.symm))
    hF := fun k => own_same (h.hF k) hs
    hG := fun k => by
      have := h.hG k
      split
      · rename_i e; rw [e] at this; exact this
      · rename_i ws e
        rw [e] at this
        obtain ⟨v, h1, h2⟩ := this
        exact ⟨v, h1, own_same h2 hs⟩ }
theorem Out.bump (hp : p < L) (h : Out L w w' p m1 m2) (v : Value) (off : Nat) : Out L w (w'.setCell ⟨p, off, none⟩ v) p m1 m2 :=
  h.trans ⟨rfl, rfl, rfl, by rw [size_setCell']; exact Nat.le_refl _, fun j _ hj _ _ => heap_setCell_ne _ _ _ _ _ hj⟩
/-- The names of an address, once it is there: those of the first row. -/
def setC (C : List UInt8 → Option (List (List UInt8))) (a : List UInt8) (f : List (List UInt8)) : List UInt8 → Option (List (List UInt8)) :=
  fun k => match C k with | some x => some x | none => if k = a then some f else none
def Apart (F : ByteArray → Option Value) (v : Value) : Prop := ∀ b, v.ownBlock = some b → ∀ k, Go.Tx.blk F k ≠ some b
theorem upd_eq {F : ByteArray → Option Value} (a : ByteArray) (v : Value) (k : List UInt8) : upd F a v ⟨k.toArray⟩ = if k = a.data.toList then some v else F ⟨k.toArray⟩ := by
  unfold upd
  by_cases h : k = a.data.toList
  · rw [if_pos h, if_pos (by subst h; exact bk a)]
  · rw [if_neg h, if_neg (fun e => h (by rw [← e]))]
/-- Behind a store of names. -/
theorem TB.putG (h : TB L w p m1 m2 n A C F G) {a : ByteArray} {v : Value} {f : List (List UInt8)} (hC : C a.data.toList = none) (hv : StrC L w v f) (hap : Apart F v)
    (hg : MapAt w' m2 (upd G a v)) (hs : w'.heap.size = w.heap.size) (hh : ∀ j, j ≠ m2 → w'.heap[j]? = w.heap[j]?) : TB L w' p m1 m2 n A (setC C a.data.toList f) F (upd G a v) :=
  have hl := h.l2
  have hsame : ∀ j, L ≤ j → w'.heap[j]? = w.heap[j]? := fun j hj => hh j (by omega)
  { h with
    size := by rw [hs]; exact h.size
    blk := by rw [hh p h.n2]; exact h.blk
    f := h.f.same (hh m1 h.n12)
    g := hg
    hF := fun k => own_same (h.hF k) hsame
    hG := fun k => by
      have hk := h.hG k
      unfold setC
      rw [upd_eq]
      by_cases e : k = a.data.toList
      · subst e
        rw [hC]
        simp only [if_true]
        exact ⟨v, rfl, own_same hv hsame⟩
      · simp only [if_neg e]
        cases hc : C k with
        | none => rw [hc] at hk; exact hk
        | some ws =>
          rw [hc] at hk
          simp only
          obtain ⟨v2, h1, h2⟩ := hk
          exact ⟨v2, h1, own_same h2 hsame⟩
    dG := fun k k' b h1 h2 => by
      unfold Go.Tx.blk at h2
      rw [upd_eq] at h2
      by_cases e : k' = a.data.toList
      · rw [if_pos e] at h2
        exact hap b h2 k h1
      · rw [if_neg e] at h2
        exact h.dG k k' b h1 h2 }
/-- Behind an append to the addresses of x, and the store of what it gave. -/
theorem TB.putF (h : TB L w p m1 m2 n A C F G) {x a : List UInt8} {v' : Value} {w2 : World} (hv : StrC L w2 v' (A x ++ [a])) (hgr : w.grownBy w2 (Go.Tx.blk F x)) (hb : ∀ b, v'.ownBlock = some b → Go.Tx.blk F x = some b ∨ w.heap.size ≤ b)
    (hf : MapAt w' m1 (upd F ⟨x.toArray⟩ v')) (hs : w'.heap.size = w2.heap.size) (hh : ∀ j, j ≠ m1 → w'.heap[j]? = w2.heap[j]?) :
    TB L w' p m1 m2 n (fun k => if k = x then A k ++ [a] else A k) C (upd F ⟨x.toArray⟩ v') G ∧ ∀ {y : Value} {f : List (List UInt8)}, StrC L w y f → Apart F y → StrC L w' y f ∧ Apart (upd F ⟨x.toArray⟩ v') y := by
  have hl := h.l1
  have hsame : ∀ j, L ≤ j → w'.heap[j]? = w2.heap[j]? := fun j hj => hh j (by omega)
  obtain ⟨g1, g2, g3, g4, g5, g6⟩ := h.grown (k := x) (.inr rfl) hgr
  have hdata : (⟨x.toArray⟩ : ByteArray).data.toList = x := rfl
  refine ⟨{ h with size := ?_, blk := ?_, f := hf, g := ?_, hF := ?_, hG := ?_, dF := ?_, dG := ?_ }, ?_⟩
  · rw [hs]; exact g1
  · rw [hh p h.n1, g2]; exact h.blk
  · exact h.g.same (by rw [hh m2 (fun e => h.n12 e.symm), g4])
  · intro k
    rw [upd_eq, hdata]
    by_cases e : k = x
    · subst e; simp only [if_true]; exact own_same hv hsame
    · simp only [if_neg e]; exact own_same (g5 k e) hsame
  · intro k
    have := g6 k
    split
    · rename_i e; rw [e] at this; exact this
    · rename_i ws e
      rw [e] at this
      obtain ⟨v, h1, h2⟩ := this
      exact ⟨v, h1, own_same h2 hsame⟩
  · intro k k' b h1 h2
    unfold Go.Tx.blk at h1 h2
    rw [upd_eq, hdata] at h1 h2
    by_cases e : k = x
    · by_cases e' : k' = x
      · rw [e, e']
      · rw [if_pos e] at h1
        rw [if_neg e'] at h2
        rcases hb b h1 with q | q
        · exact absurd (h.dF x k' b q h2).symm e'
        · exact absurd (h.lt h2).2 (by omega)
    · by_cases e' : k' = x
      · rw [if_neg e] at h1
        rw [if_pos e'] at h2
        rcases hb b h2 with q | q
        · exact absurd (h.dF k x b h1 q) e
        · exact absurd (h.lt h1).2 (by omega)
      · rw [if_neg e] at h1
        rw [if_neg e'] at h2
        exact h.dF k k' b h1 h2
  · intro k k' b h1 h2
    unfold Go.Tx.blk at h1
    rw [upd_eq, hdata] at h1
    by_cases e : k = x
    · rw [if_pos e] at h1
      rcases hb b h1 with q | q
      · exact h.dG x k' b q h2
      · have hk := h.hG k'
        cases hc : C k' with
        | none =>
          rw [hc] at hk
          simp only at hk
          unfold Go.Tx.blk at h2
          rw [hk] at h2
          cases h2
        | some ws =>
          rw [hc] at hk
          obtain ⟨v, q1, q2⟩ := hk
          unfold Go.Tx.blk at h2
          rw [q1] at h2
          exact absurd (World.ownsRow.lt q2 b h2).2 (by omega)
    · rw [if_neg e] at h1
      exact h.dG k k' b h1 h2
  · intro y f hy hap
    refine ⟨own_same (World.ownsRow.kept hy hgr ?_) hsame, ?_⟩
    · cases hyb : y.ownBlock with
      | none => exact .inl rfl
      | some b => exact .inr fun e => hap b hyb x e.symm
    · intro b hyb k
      unfold Go.Tx.blk
      rw [upd_eq, hdata]
      by_cases e : k = x
      · rw [if_pos e]
        intro h1
        rcases hb b h1 with q | q
        · exact hap b hyb x q
        · exact absurd (World.ownsRow.lt hy b hyb).2 (by omega)
      · rw [if_neg e]
        exact hap b hyb k
end
end Go.Tx
namespace Go.Proofs.YtdfapebggghfdaaGreatDoor
open Go.RowKit Go.Lib Go.Tx Go.Mp
theorem contains_any {B : Nat} {v : Value} {T : List (List UInt8)} (x : ByteArray) (w : World) (h : StrC B w v T) (hl : T.length ≤ 1000000) :
    Calls Tryz.prog 34 #[v, .string x] w fun e w' => e = .returned (.bool (decide (x.data.toList ∈ T))) ∧ w' = w := by
  obtain ⟨p, c, rfl, hc, hm, hr⟩ := h.read
  by_cases h0 : T = []
  · subst h0
    refine (Tryz.slices_Contains_string_empty p c x w).mono fun e w' ⟨h1, h2⟩ => ⟨?_, h2⟩
    rw [h1]; simp
  · have hpos : 0 < T.length := by cases T; exact absurd rfl h0; simp
    obtain ⟨g, rfl, hg, _⟩ := hr 0 T[0] (List.getElem?_eq_getElem hpos)
    have hz : ((T.map fun l => (⟨l.toArray⟩ : ByteArray)).take T.length) = T.map fun l => (⟨l.toArray⟩ : ByteArray) := List.take_of_length_le (by simp)
    refine (Tryz.slices_Contains_string g 0 T.length c (T.map fun l => ⟨l.toArray⟩) x w (by simp) (by omega) fun j hj => ?_).mono fun e w' ⟨h1, h2⟩ => ⟨?_, h2⟩
    · rw [List.length_map] at hj
      obtain ⟨g', e, _, h3⟩ := hr j T[j] (List.getElem?_eq_getElem hj)
      cases e
      rw [Nat.zero_add, h3, List.getD_eq_getElem?_getD, List.getElem?_map, List.getElem?_eq_getElem hj]
      rfl
    · rw [h1, hz]
      have : containsS (T.map fun l => (⟨l.toArray⟩ : ByteArray)) x = decide (x.data.toList ∈ T) := by
        rw [Bool.eq_iff_iff, containsS_iff, decide_eq_true_iff, List.mem_map]
        constructor
        · rintro ⟨l, hl, rfl⟩; exact hl
        · intro hx; exact ⟨_, hx, rfl⟩
      rw [this]
theorem wpList_append_run {w : World} {ops : Array Oper} {rest : List Oper} {o : Oper} {a : Act} {Q : Exit → Act → World → Prop} (hgd : o.guard = none) (s x : Operand)
    (ho : o.op = .call { callee := .builtin .append, args := #[s, x], argTypes := #[32, 32] }) {v y v' : Value} {w' : World} (hs : a.eval s = v) (hx : a.eval x = y)
    (hr : (Builtin.append_ #[32, 32] o.type #[v, y]).run Tryz.prog w = .ok v' w') (h : wpList Tryz.prog ops Q rest (a.put o.dst v') w') : wpList Tryz.prog ops Q (o :: rest) a w :=
  wpList_plain hgd fun K hK => by
    unfold Oper.wp execOp
    simp only [ho, resolve, invoke, builtin, Sem.run_bind, Sem.run_pure, Result.andThen_ok, List.map_toArray, List.map_cons, List.map_nil, hs, hx, hr]
    exact hK _ _ h
end Go.Proofs.YtdfapebggghfdaaGreatDoor
