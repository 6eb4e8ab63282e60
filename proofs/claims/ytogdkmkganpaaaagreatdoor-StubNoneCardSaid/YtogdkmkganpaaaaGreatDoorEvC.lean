/- A region that draws its order: the steps, and what holds of them all. A region that draws its order: whatever order is drawn, what comes out is what was reckoned. A region that draws its order: each step keeps what is told. A region that draws its order: the barrier, the end, and the whole. A region that draws its order: sound. Code; functions; calls within calls. A closed run, reckoned: it returns what was reckoned, and of what was there before nothing has turned. A run at known arguments, reckoned; a run at each number of a range. The arguments hold no block. Functions that are known by a contract, or by a table of runs that were reckoned apart. More functions that are known by a contract: strings.Count at one byte, functions that turn each byte of a text. -/
import Derived.Test.YtogdkmkganpaaaaGreatDoorEvB
import Derived.Lib.IndexMore
import Derived.Lib.Join
import Derived.Lib.Bytealg
noncomputable section
namespace Go.Ev
open Go
section
variable {E : Env} {call : CallEv} {ops : Array Oper} {n lo0 : Nat}
theorem stepR_cases {i : Nat} {o : Oper} {S S' : RS} {x : RR} (h : stepR E call ops n lo0 i o S = some (x, S')) :
    aPut S.A n o.dst x.r = some S'.A ∧ x.k = S.next ∧ x.k' = S'.next ∧ x.k ≤ x.k' ∧
    ((x.kind = 0 ∧ S'.p = S.p ∧ S'.base = S.base ∧ S'.segs = S.segs ∧ S'.next = S.next ∧
        ((aWanted ops o S.A = false ∧ x.r = undefA) ∨ (aWanted ops o S.A = true ∧ constsOK o.op.operands.toList = true ∧ pureOp E.P o.op (aEval S.A) = some x.r))) ∨
     (x.kind = 1 ∧ heapy o.op = true ∧ S'.p = S.p ∧ S'.base = S.base ∧ S'.segs = (i, x) :: S.segs ∧ x.out.next = x.k' ∧ aWanted ops o S.A = true ∧ constsOK o.op.operands.toList = true ∧
        opStep E call o.op (aEval S.A) ⟨mergeAll S.base.objs (depsOf ((masks ops).get i) S.segs), S.next, S.next⟩ = some (x.r, x.out) ∧ cleanRange x.out.objs x.k x.k (x.k' - x.k) = true) ∨
     (x.kind = 2 ∧ heapy o.op = true ∧ barrier ops i = true ∧ S'.p = i + 1 ∧ S'.base = x.out ∧ S'.segs = [] ∧ x.out.next = x.k' ∧ aWanted ops o S.A = true ∧ constsOK o.op.operands.toList = true ∧
        opStep E call o.op (aEval S.A) ⟨mergeAll S.base.objs S.segs, S.next, lo0⟩ = some (x.r, x.out))) := by
  unfold stepR at h
  split at h
  · rename_i hw
    split at h
    · cases h
    · rename_i A1 hp
      cases h
      exact ⟨hp, rfl, rfl, Nat.le_refl _, .inl ⟨rfl, rfl, rfl, rfl, rfl, .inl ⟨hw, rfl⟩⟩⟩
  · rename_i hw
    split at h
    · cases h
    · rename_i hc
      split at h
      · split at h
        · cases h
        · rename_i r hr
          split at h
          · cases h
          · rename_i A1 hp
            cases h
            exact ⟨hp, rfl, rfl, Nat.le_refl _, .inl ⟨rfl, rfl, rfl, rfl, rfl, .inr ⟨hw, hc, hr⟩⟩⟩
      · rename_i hh
        split at h
        · rename_i hb
          split at h
          · cases h
          · rename_i r H1 hs
            split at h
            · cases h
            · rename_i A1 hp
              cases h
              exact ⟨hp, rfl, rfl, opStep_next hs, .inr (.inr ⟨rfl, hh, hb, rfl, rfl, rfl, rfl, hw, hc, hs⟩)⟩
        · split at h
          · cases h
          · rename_i r H1 hs
            split at h
            · cases h
            · rename_i hcl
              split at h
              · cases h
              · rename_i A1 hp
                cases h
                exact ⟨hp, rfl, rfl, opStep_next hs, .inr (.inl ⟨rfl, hh, rfl, rfl, rfl, rfl, hw, hc, hs, hcl⟩)⟩
theorem goR_seq : ∀ (l : List Oper) (i : Nat) (S F : RS), goR E call ops n lo0 l i S = some F →
    ∃ (st : Nat → RS) (rr : Nat → RR), st i = S ∧ (∀ j o, l[j]? = some o → stepR E call ops n lo0 (i + j) o (st (i + j)) = some (rr (i + j), st (i + j + 1))) ∧ st (i + l.length) = F
  | [], i, S, F, h => by
    simp [goR] at h; subst h
    exact ⟨fun _ => S, fun _ => ⟨0, undefA, 0, 0, S.base⟩, rfl, by simp, rfl⟩
  | o :: l, i, S, F, h => by
    unfold goR at h
    split at h
    · cases h
    · rename_i x S1 hs
      obtain ⟨st, rr, h1, h2, h3⟩ := goR_seq l (i + 1) S1 F h
      refine ⟨fun m => if m = i then S else st m, fun m => if m = i then x else rr m, by simp, fun j q hj => ?_, ?_⟩
      · cases j with
        | zero =>
          simp at hj; subst hj
          simp [h1, hs]
        | succ j =>
          simp at hj
          have := h2 j q hj
          rw [show i + (j + 1) = i + 1 + j from by omega]
          simp only [show ¬ (i + 1 + j = i) from by omega, show ¬ (i + 1 + j + 1 = i) from by omega, if_false]
          exact this
      · have hne : ¬ (i + (o :: l).length = i) := by simp
        show (if i + (o :: l).length = i then S else st (i + (o :: l).length)) = F
        rw [if_neg hne, ← h3]
        congr 1
        simp only [List.length_cons]
        omega
/-- The steps of a region, one behind the other. -/
structure Run (E : Env) (call : CallEv) (ops : Array Oper) (n lo0 : Nat) (A0 : Tr AV) (H0 : AHeap) (st : Nat → RS) (rr : Nat → RR) : Prop where
  start : st 0 = ⟨A0, 0, H0, [], H0.next⟩
  step : ∀ i o, ops[i]? = some o → stepR E call ops n lo0 i o (st i) = some (rr i, st (i + 1))
variable {A0 : Tr AV} {H0 : AHeap} {st : Nat → RS} {rr : Nat → RR}
theorem lt_of {i : Nat} {o : Oper} (h : ops[i]? = some o) : i < ops.size := (Array.getElem?_eq_some_iff.1 h).1
theorem some_of {i : Nat} (h : i < ops.size) : ∃ o, ops[i]? = some o := ⟨ops[i], Array.getElem?_eq_getElem h⟩
/-- What holds of the state ahead of operation i. -/
structure Seg (A0 : Tr AV) (H0 : AHeap) (st : Nat → RS) (rr : Nat → RR) (ops : Array Oper) (i : Nat) : Prop where
  ple : (st i).p ≤ i
  no2 : ∀ j, (st i).p ≤ j → j < i → (rr j).kind ≠ 2
  base : (st i).base = (st (st i).p).base
  pp : (st i).p = 0 ∨ (0 < (st i).p ∧ (rr ((st i).p - 1)).kind = 2)
  segs : ∀ j x, (j, x) ∈ (st i).segs ↔ (st i).p ≤ j ∧ j < i ∧ (rr j).kind = 1 ∧ x = rr j
  mono : ∀ j, j ≤ i → (st j).next ≤ (st i).next
  rks : ∀ j, j < i → (rr j).k = (st j).next ∧ (rr j).k' = (st (j + 1)).next
  tmps : ∀ t, (∃ j o, j < i ∧ ops[j]? = some o ∧ o.dst = some t ∧ tget (st i).A t = (rr j).r) ∨ ((∀ j o, j < i → ops[j]? = some o → o.dst ≠ some t) ∧ tget (st i).A t = tget A0 t)
theorem Run.seg (R : Run E call ops n lo0 A0 H0 st rr) : ∀ i, i ≤ ops.size → Seg A0 H0 st rr ops i
  | 0, _ => by
    have h0 := R.start
    refine ⟨by rw [h0]; exact Nat.le_refl _, fun j _ hj => absurd hj (Nat.not_lt_zero _), by rw [show (st 0).p = 0 from by rw [h0]], .inl (by rw [h0]), fun j x => ?_, fun j hj => ?_, fun j hj => absurd hj (Nat.not_lt_zero _), fun t => .inr ⟨fun j o hj => absurd hj (Nat.not_lt_zero _), by rw [h0]⟩⟩
    · rw [h0]; simp
    · have : j = 0 := by omega
      subst this; exact Nat.le_refl _
  | i + 1, hi => by
    have ih := R.seg i (by omega)
    obtain ⟨o, ho⟩ := some_of (ops := ops) (i := i) (by omega)
    obtain ⟨h1, h2, h3, h4, h5⟩ := stepR_cases (R.step i o ho)
    have hmono : ∀ j, j ≤ i + 1 → (st j).next ≤ (st (i + 1)).next := fun j hj => by
      rcases Nat.lt_or_ge j (i + 1) with c | c
      · have := ih.mono j (by omega); omega
      · have : j = i + 1 := by omega
        subst this; exact Nat.le_refl _
    have hrks : ∀ j, j < i + 1 → (rr j).k = (st j).next ∧ (rr j).k' = (st (j + 1)).next := fun j hj => by
      rcases Nat.lt_or_ge j i with c | c
      · exact ih.rks j c
      · have : j = i := by omega
        subst this; exact ⟨h2, h3⟩
    have htmps : ∀ t, (∃ j o, j < i + 1 ∧ ops[j]? = some o ∧ o.dst = some t ∧ tget (st (i + 1)).A t = (rr j).r) ∨ ((∀ j o, j < i + 1 → ops[j]? = some o → o.dst ≠ some t) ∧ tget (st (i + 1)).A t = tget A0 t) := by
      intro t
      by_cases hd : o.dst = some t
      · refine .inl ⟨i, o, by omega, ho, hd, ?_⟩
        rw [hd] at h1
        rw [aPut_tget h1, if_pos rfl]
      · have hsame : tget (st (i + 1)).A t = tget (st i).A t := by
          cases hdd : o.dst with
          | none => rw [hdd] at h1; simp [aPut] at h1; rw [← h1]
          | some d =>
            rw [hdd] at h1
            rw [aPut_tget h1, if_neg]
            rintro rfl
            exact hd hdd
        rcases ih.tmps t with ⟨j, q, q1, q2, q3, q4⟩ | ⟨q1, q2⟩
        · exact .inl ⟨j, q, by omega, q2, q3, hsame.trans q4⟩
        · refine .inr ⟨fun j q hj hq => ?_, hsame.trans q2⟩
          rcases Nat.lt_or_ge j i with c | c
          · exact q1 j q c hq
          · have : j = i := by omega
            subst this
            rw [ho] at hq
            obtain rfl := Option.some.inj hq
            exact hd
    rcases h5 with ⟨k0, k1, k2, k3, k4, _⟩ | ⟨k0, _, k1, k2, k3, _⟩ | ⟨k0, _, _, k1, k2, k3, _⟩
    · refine ⟨by rw [k1]; have := ih.ple; omega, fun j a b => ?_, by rw [k1, k2]; exact ih.base, by rw [k1]; exact ih.pp, fun j x => ?_, hmono, hrks, htmps⟩
      · rcases Nat.lt_or_ge j i with c | c
        · exact ih.no2 j (by rw [← k1]; exact a) c
        · have : j = i := by omega
          subst this; omega
      · rw [k3, k1, ih.segs]
        constructor
        · rintro ⟨a, b, c⟩; exact ⟨a, by omega, c⟩
        · rintro ⟨a, b, c, d⟩
          refine ⟨a, ?_, c, d⟩
          rcases Nat.lt_or_ge j i with e | e
          · exact e
          · have : j = i := by omega
            subst this; omega
    · refine ⟨by rw [k1]; have := ih.ple; omega, fun j a b => ?_, by rw [k1, k2]; exact ih.base, by rw [k1]; exact ih.pp, fun j x => ?_, hmono, hrks, htmps⟩
      · rcases Nat.lt_or_ge j i with c | c
        · exact ih.no2 j (by rw [← k1]; exact a) c
        · have : j = i := by omega
          subst this; omega
      · rw [k3, k1, List.mem_cons, ih.segs]
        constructor
        · rintro (a | ⟨a, b, c⟩)
          · obtain ⟨rfl, rfl⟩ := Prod.mk.inj a
            exact ⟨ih.ple, by omega, k0, rfl⟩
          · exact ⟨a, by omega, c⟩
        · rintro ⟨a, b, c, d⟩
          rcases Nat.lt_or_ge j i with e | e
          · exact .inr ⟨a, e, c, d⟩
          · have : j = i := by omega
            subst this; subst d; exact .inl rfl
    · refine ⟨by rw [k1]; omega, fun j a b => by omega, by rw [k1], .inr ⟨by omega, by rw [k1]; simpa using k0⟩, fun j x => ?_, hmono, hrks, htmps⟩
      rw [k3, k1]
      simp
      omega
/-- Two ranges of names share none. -/
theorem Run.apart (R : Run E call ops n lo0 A0 H0 st rr) {i j m : Nat} (hi : i < ops.size) (hj : j < ops.size) (h1 : (rr i).k ≤ m) (h2 : m < (rr i).k') (h3 : (rr j).k ≤ m) (h4 : m < (rr j).k') : i = j := by
  have s := R.seg ops.size (Nat.le_refl _)
  obtain ⟨a1, a2⟩ := s.rks i hi
  obtain ⟨b1, b2⟩ := s.rks j hj
  rcases Nat.lt_trichotomy i j with c | c | c
  · have := (R.seg j (by omega)).mono (i + 1) (by omega); omega
  · exact c
  · have := (R.seg i (by omega)).mono (j + 1) (by omega); omega
theorem mergeAll_get (t : Tr AObj) (m : Nat) : ∀ (L : List (Nat × RR)), (∀ y ∈ L, y.2.k' < 4000000000000000000 ∧ y.2.k ≤ y.2.k') →
    (∃ y ∈ L, y.2.k ≤ m ∧ m < y.2.k' ∧ (mergeAll t L).get m = y.2.out.objs.get m) ∨ ((∀ y ∈ L, ¬ (y.2.k ≤ m ∧ m < y.2.k' ∧ (y.2.out.objs.get m).isSome)) ∧ (mergeAll t L).get m = t.get m)
  | [], _ => .inr ⟨by simp, rfl⟩
  | (j, x) :: L, h => by
    have ih := mergeAll_get t m L fun y hy => h y (by simp [hy])
    obtain ⟨hx, hx2⟩ := h (j, x) (by simp)
    unfold mergeAll
    have hb : Nat.blt x.k' 4000000000000000000 = true := Nat.ble_eq_true_of_le hx
    simp only [hb]
    rw [mergeRange_get _ _ _ _ _ (by simp only at hx hx2; omega)]
    by_cases c : x.k ≤ m ∧ m < x.k + (x.k' - x.k) ∧ (x.out.objs.get m).isSome
    · rw [if_pos c]
      exact .inl ⟨(j, x), by simp, c.1, by have h6 := c.2.1; simp only at hx2 h6 ⊢; omega, rfl⟩
    · rw [if_neg c]
      rcases ih with ⟨y, y1, y2⟩ | ⟨y1, y2⟩
      · exact .inl ⟨y, by simp [y1], y2⟩
      · refine .inr ⟨fun y hy => ?_, y2⟩
        rcases List.mem_cons.1 hy with e | e
        · subst e; intro ⟨a, b, d⟩; exact c ⟨a, by simp only at hx2 a b ⊢; omega, d⟩
        · exact y1 y e
theorem depsOf_mem (m : Option Nat) : ∀ (l : List (Nat × RR)) (y : Nat × RR), y ∈ depsOf m l ↔ y ∈ l ∧ (match m with | some m => Nat.testBit m y.1 | none => false) = true
  | [], y => by simp [depsOf]
  | (j, x) :: l, y => by
    unfold depsOf
    split
    · rename_i h
      rw [List.mem_cons, List.mem_cons, depsOf_mem m l]
      constructor
      · rintro (e | e)
        · subst e; exact ⟨.inl rfl, h⟩
        · exact ⟨.inr e.1, e.2⟩
      · rintro ⟨e | e, f⟩
        · exact .inl e
        · exact .inr ⟨e, f⟩
    · rename_i h
      rw [List.mem_cons, depsOf_mem m l]
      constructor
      · rintro e; exact ⟨.inr e.1, e.2⟩
      · rintro ⟨e | e, f⟩
        · subst e; exact absurd (f.symm.trans h) (by simp)
        · exact ⟨e, f⟩
theorem cleanRange_spec (t : Tr AObj) (k : Nat) : ∀ (c n : Nat), cleanRange t k n c = true → ∀ m o x, n ≤ m → m < n + c → t.get m = some o → o.cls = some x → k ≤ x
  | 0, n, _, m, o, x, h1, h2, _, _ => by omega
  | c + 1, n, h, m, o, x, h1, h2, h3, h4 => by
    unfold cleanRange at h
    by_cases e : m = n
    · subst e
      rw [h3] at h
      simp only [h4] at h
      split at h
      · rename_i hb; exact Nat.le_of_ble_eq_true hb
      · cases h
    · have hrest : cleanRange t k (n + 1) c = true := by
        split at h
        · split at h
          · exact h
          · split at h
            · exact h
            · cases h
        · exact h
      exact cleanRange_spec t k c (n + 1) hrest m o x (by omega) (by omega) h3 h4
end
end Go.Ev
noncomputable section
namespace Go.Ev
open Go
/-- What has become of memory since the region began. -/
structure PF (ρ0 : Ren) (H0 : AHeap) (w0 : World) (K : Nat) (ρ : Ren) (g : Nat → Option AObj) (w : World) : Prop where
  le : ρ0.le ρ
  new : ∀ m, ρ0 m = none → ρ m ≠ none → H0.next ≤ m ∧ m < K
  keep : ∀ m, m < H0.lo → g m = H0.objs.get m
  os : w.os = w0.os
  tape : w.tape = w0.tape
  output : w.output = w0.output
  size : w0.heap.size ≤ w.heap.size
  frame : ∀ k, k < w0.heap.size → ¬ Told ρ0 H0 k → w.heap[k]? = w0.heap[k]?
  told : ∀ b, ToldF ρ g b → w0.heap.size ≤ b ∨ Told ρ0 H0 b
theorem PF.step {ρ0 ρ ρ' : Ren} {H0 : AHeap} {w0 w w' : World} {K k k' : Nat} {g g' : Nat → Option AObj} (h : PF ρ0 H0 w0 K ρ g w) (hle : ρ.le ρ') (hnew : ∀ m, ρ m = none → ρ' m ≠ none → k ≤ m ∧ m < k') (hk : H0.next ≤ k) (hk' : k' ≤ K)
    (hkeep : ∀ m, m < H0.lo → g' m = g m) (hos : w'.os = w.os) (ht : w'.tape = w.tape) (ho : w'.output = w.output) (hs : w.heap.size ≤ w'.heap.size) (hf : ∀ b, b < w.heap.size → ¬ ToldF ρ g b → w'.heap[b]? = w.heap[b]?)
    (htold : ∀ b, ToldF ρ' g' b → w.heap.size ≤ b ∨ ToldF ρ g b) : PF ρ0 H0 w0 K ρ' g' w' := by
  refine ⟨Ren.le_trans h.le hle, fun m a b => ?_, fun m hm => (hkeep m hm).trans (h.keep m hm), hos.trans h.os, ht.trans h.tape, ho.trans h.output, Nat.le_trans h.size hs, fun b hb hn => ?_, fun b hb => ?_⟩
  · cases hr : ρ m with
    | none => have := hnew m hr b; omega
    | some x => exact h.new m a (by simp [hr])
  · rw [hf b (Nat.lt_of_lt_of_le hb h.size) (fun t => ?_), h.frame b hb hn]
    rcases h.told b t with c | c
    · omega
    · exact hn c
  · rcases htold b hb with c | c
    · exact .inl (Nat.le_trans h.size c)
    · exact h.told b c
section
variable {E : Env} {call : CallEv} {ops : Array Oper} {n : Nat} {B : Bas} {A0 : Tr AV} {H0 : AHeap} {st : Nat → RS} {rr : Nat → RR}
/-- The value of temporary t where the operations S have been carried out. -/
def VT (ops : Array Oper) (rr : Nat → RR) (A0 : Tr AV) (S : Nat → Prop) (t : Nat) (x : AV) : Prop :=
  (∃ j o, S j ∧ ops[j]? = some o ∧ o.dst = some t ∧ x = (rr j).r) ∨ ((∀ j o, S j → ops[j]? = some o → o.dst ≠ some t) ∧ x = tget A0 t)
/-- What is told of memory where the operations S have been carried out, the last barrier among them just ahead of p. -/
structure GS (ops : Array Oper) (st : Nat → RS) (rr : Nat → RR) (p : Nat) (S : Nat → Prop) (g : Nat → Option AObj) : Prop where
  own : ∀ j m, S j → p ≤ j → j < ops.size → (rr j).kind = 1 → (rr j).k ≤ m → m < (rr j).k' → g m = (rr j).out.objs.get m
  rest : ∀ m, (¬ ∃ j, S j ∧ p ≤ j ∧ j < ops.size ∧ (rr j).kind = 1 ∧ (rr j).k ≤ m ∧ m < (rr j).k') → g m = (st p).base.objs.get m
structure Inv (P : Program) (B : Bas) (ops : Array Oper) (st : Nat → RS) (rr : Nat → RR) (A0 : Tr AV) (H0 : AHeap) (ρ0 : Ren) (w0 : World) (a0 : Act) (S : Nat → Prop) (a : Act) (w : World) (ρ : Ren) (p : Nat) (g : Nat → Option AObj) : Prop where
  ple : p ≤ ops.size
  phase : p = 0 ∨ (0 < p ∧ (rr (p - 1)).kind = 2 ∧ S (p - 1))
  fst : (st p).p = p
  all : ∀ j, j < p → (rr j).kind ≠ 0 → S j
  later : ∀ j, p ≤ j → j < ops.size → (rr j).kind = 2 → ¬ S j
  gs : GS ops st rr p S g
  hr : HRF P B ρ g (st ops.size).next H0.lo w
  baseOld : ∀ m o, (st p).base.objs.get m = some o → m < (st p).next ∧ ∀ c, o.cls = some c → c < (st p).next
  outOld : ∀ j, S j → p ≤ j → j < ops.size → (rr j).kind = 1 → ∀ m o c, (rr j).out.objs.get m = some o → o.cls = some c → c < (rr j).k'
  fresh : ∀ j, j < ops.size → ¬ S j → ∀ m, (rr j).k ≤ m → m < (rr j).k' → ρ m = none
  pf : PF ρ0 H0 w0 (st ops.size).next ρ g w
  tr : ∀ t x, VT ops rr A0 S t x → VR ρ x (a.tmps.getD t undef)
  size : a.tmps.size = a0.tmps.size
  defers : a.defers = a0.defers
  closed : ∀ i o j, S i → ops[i]? = some o → j < ops.size → dep ops i j = true → S j
theorem Inv.segStart (R : Run E call ops n H0.lo A0 H0 st rr) {P : Program} {ρ0 : Ren} {w0 w : World} {a0 a : Act} {S : Nat → Prop} {ρ : Ren} {p : Nat} {g : Nat → Option AObj} (I : Inv P B ops st rr A0 H0 ρ0 w0 a0 S a w ρ p g)
    {i : Nat} (hi : i ≤ ops.size) (hp : p ≤ i) (hbar : ∀ e, e < i → (rr e).kind = 2 → S e) : (st i).p = p := by
  have s := R.seg i hi
  rcases Nat.lt_trichotomy (st i).p p with c | c | c
  · rcases I.phase with h | ⟨h1, h2, _⟩
    · omega
    · exact absurd h2 (s.no2 (p - 1) (by omega) (by omega))
  · exact c
  · rcases s.pp with h | ⟨h1, h2⟩
    · omega
    · have := s.ple
      exact absurd (hbar ((st i).p - 1) (by omega) h2) (I.later ((st i).p - 1) (by omega) (by omega) h2)
theorem kinds (R : Run E call ops n H0.lo A0 H0 st rr) {i : Nat} {o : Oper} (ho : ops[i]? = some o) (hk : (rr i).kind ≠ 0) : heapy o.op = true ∧ ((rr i).kind = 2 → barrier ops i = true) := by
  obtain ⟨_, _, _, _, h5⟩ := stepR_cases (R.step i o ho)
  rcases h5 with ⟨k0, _⟩ | ⟨k0, k1, _⟩ | ⟨k0, k1, k2, _⟩
  · exact absurd k0 hk
  · exact ⟨k1, fun h => by omega⟩
  · exact ⟨k1, fun _ => k2⟩
end
end Go.Ev
noncomputable section
namespace Go.Ev
open Go
section
variable {E : Env} {call : CallEv} {ops : Array Oper} {n : Nat} {B : Bas} {A0 : Tr AV} {H0 : AHeap} {st : Nat → RS} {rr : Nat → RR}
variable {ρ0 : Ren} {w0 w : World} {a0 a : Act} {S : Nat → Prop} {ρ : Ren} {p : Nat} {g : Nat → Option AObj}
theorem Inv.look (R : Run E call ops n H0.lo A0 H0 st rr) (F : Fine ops) (I : Inv E.P B ops st rr A0 H0 ρ0 w0 a0 S a w ρ p g) {i : Nat} {o : Oper} (ho : ops[i]? = some o) (hi : ¬ S i) (hrd : ∀ j, j < ops.size → dep ops i j = true → S j)
    {t : Tmp} (ht : t ∈ looks ops o) : VT ops rr A0 S t (tget (st i).A t) := by
  have s := R.seg i (Nat.le_of_lt (lt_of ho))
  rcases s.tmps t with ⟨j, q, h1, h2, h3, h4⟩ | ⟨h1, h2⟩
  · rcases F.look i j o q t ho h2 (by omega) h3 ht with ⟨_, c⟩ | ⟨c, _⟩
    · exact .inl ⟨j, q, hrd j (lt_of h2) c, h2, h3, h4⟩
    · omega
  · refine .inr ⟨fun j q hj hq hd => ?_, h2⟩
    have hne : i ≠ j := fun e => hi (e ▸ hj)
    rcases F.look i j o q t ho hq hne hd ht with ⟨c, _⟩ | ⟨_, c⟩
    · exact h1 j q c hq hd
    · exact hi (I.closed j q i hj hq (lt_of ho) c)
theorem trStep {ρ' : Ren} {i : Nat} {o : Oper} {A1 : Tr AV} {v : Value} (F : Fine ops) (ho : ops[i]? = some o) (hi : ¬ S i) (htr : ∀ t x, VT ops rr A0 S t x → VR ρ x (a.tmps.getD t undef)) (hle : ρ.le ρ') (hv : VR ρ' (rr i).r v)
    (hp : aPut (st i).A a.tmps.size o.dst (rr i).r = some A1) : ∀ t x, VT ops rr A0 (fun j => j = i ∨ S j) t x → VR ρ' x ((a.put o.dst v).tmps.getD t undef) := by
  intro t x hx
  have other : o.dst ≠ some t → (a.put o.dst v).tmps.getD t undef = a.tmps.getD t undef := fun hne => by
    cases hd : o.dst with
    | none => rfl
    | some d =>
      rw [hd] at hp
      rw [put_getD _ _ _ (aPut_lt hp), if_neg]
      rintro rfl
      exact hne hd
  rcases hx with ⟨j, q, hj, hq, hd, rfl⟩ | ⟨h1, h2⟩
  · rcases hj with rfl | hj
    · rw [ho] at hq
      obtain rfl := Option.some.inj hq
      rw [hd] at hp ⊢
      rw [put_getD _ _ _ (aPut_lt hp), if_pos rfl]
      exact hv
    · have hne : j ≠ i := fun e => hi (e ▸ hj)
      rw [other (fun e => F.dst j i q o t hq ho hne hd e)]
      exact (htr t _ (.inl ⟨j, q, hj, hq, hd, rfl⟩)).mono hle
  · rw [other (h1 i o (.inl rfl) ho)]
    exact (htr t x (.inr ⟨fun j q hj hq => h1 j q (.inr hj) hq, h2⟩)).mono hle
theorem closedStep (I : Inv E.P B ops st rr A0 H0 ρ0 w0 a0 S a w ρ p g) {i : Nat} (hrd : ∀ j, j < ops.size → dep ops i j = true → S j) :
    ∀ k o j, (k = i ∨ S k) → ops[k]? = some o → j < ops.size → dep ops k j = true → (j = i ∨ S j) := by
  rintro k o j (rfl | hk) ho hj hd
  · exact .inr (hrd j hj hd)
  · exact .inr (I.closed k o j hk ho hj hd)
/-- An operation that does nothing to memory. -/
theorem Inv.step0 (R : Run E call ops n H0.lo A0 H0 st rr) (F : Fine ops) (hn : a0.tmps.size = n) (I : Inv E.P B ops st rr A0 H0 ρ0 w0 a0 S a w ρ p g) {i : Nat} {o : Oper} (ho : ops[i]? = some o) (hi : ¬ S i) (hrd : ∀ j, j < ops.size → dep ops i j = true → S j)
    (hk : (rr i).kind = 0) {v : Value} (hv : VR ρ (rr i).r v) : Inv E.P B ops st rr A0 H0 ρ0 w0 a0 (fun j => j = i ∨ S j) (a.put o.dst v) w ρ p g := by
  obtain ⟨h1, h2, h3, _, _⟩ := stepR_cases (R.step i o ho)
  refine ⟨I.ple, I.phase.imp id fun ⟨x, y, z⟩ => ⟨x, y, .inr z⟩, I.fst, fun j a b => .inr (I.all j a b), fun j a b c d => ?_, ⟨fun j m hj a b c => ?_, fun m hm => I.gs.rest m fun ⟨j, x, y⟩ => hm ⟨j, .inr x, y⟩⟩, I.hr, I.baseOld, fun j hj a b c => ?_, fun j a b => I.fresh j a fun x => b (.inr x), I.pf,
    trStep F ho hi I.tr (Ren.le_refl _) hv (by rw [I.size, hn]; exact h1), by rw [Act.put_size]; exact I.size, by rw [Act.put_defers']; exact I.defers, closedStep I hrd⟩
  · rcases d with rfl | d
    · omega
    · exact I.later j a b c d
  · rcases hj with rfl | hj
    · omega
    · exact I.gs.own j m hj a b c
  · rcases hj with rfl | hj
    · omega
    · exact I.outOld j hj a b c
/-- All that an operation leans on, as it is told of. -/
theorem Inv.inSub (R : Run E call ops n H0.lo A0 H0 st rr) (I : Inv E.P B ops st rr A0 H0 ρ0 w0 a0 S a w ρ p g) {i : Nat} (hi : i < ops.size) (hp : p ≤ i) (hbound : (st ops.size).next < 4000000000000000000) (hst : (st i).p = p) (L : List (Nat × RR)) (hL : ∀ y ∈ L, y ∈ (st i).segs ∧ S y.1) :
    ∀ m o, (mergeAll (st i).base.objs L).get m = some o → g m = some o ∧ m < (st i).next ∧ ∀ c, o.cls = some c → c < (st i).next := by
  have s := R.seg i (Nat.le_of_lt hi)
  have sn := R.seg ops.size (Nat.le_refl _)
  have hk : ∀ j, j < ops.size → (rr j).k' ≤ (st ops.size).next := fun j hj => by rw [(sn.rks j hj).2]; exact sn.mono (j + 1) (by omega)
  have hbase : (st i).base = (st p).base := by rw [s.base, hst]
  intro m o hm
  have hy : ∀ y ∈ L, y.2.k' < 4000000000000000000 ∧ y.2.k ≤ y.2.k' := by
    rintro ⟨j, x⟩ hy
    obtain ⟨_, q2, _, rfl⟩ := (s.segs j x).1 (hL _ hy).1
    have hj : j < ops.size := by omega
    obtain ⟨q, hq⟩ := some_of hj
    obtain ⟨_, _, _, h4, _⟩ := stepR_cases (R.step j q hq)
    exact ⟨by have := hk j hj; simp only; omega, h4⟩
  rcases mergeAll_get (st i).base.objs m L hy with ⟨⟨j, x⟩, y1, y2, y3, y4⟩ | ⟨y1, y2⟩
  · obtain ⟨q1, q2, q3, rfl⟩ := (s.segs j x).1 (hL _ y1).1
    have hSj := (hL _ y1).2
    rw [y4] at hm
    have hj : j < ops.size := by omega
    have hki : (rr j).k' ≤ (st i).next := by rw [(sn.rks j hj).2]; exact s.mono (j + 1) (by omega)
    refine ⟨?_, by simp only at y3; omega, fun c hc => ?_⟩
    · rw [I.gs.own j m hSj (by rw [← hst]; exact q1) hj q3 y2 y3]; exact hm
    · have := I.outOld j hSj (by rw [← hst]; exact q1) hj q3 m o c hm hc; omega
  · rw [y2, hbase] at hm
    obtain ⟨b1, b2⟩ := I.baseOld m o hm
    have hpi : (st p).next ≤ (st i).next := s.mono p hp
    refine ⟨?_, by omega, fun c hc => by have := b2 c hc; omega⟩
    rw [I.gs.rest m ?_]
    · exact hm
    · rintro ⟨j, _, hpj, hj, _, hk1, hk2⟩
      have h1 := (sn.rks j hj).1
      have h2 := (R.seg j (Nat.le_of_lt hj)).mono p hpj
      omega
/-- An operation that makes memory of its own alone. -/
theorem Inv.step1 (R : Run E call ops n H0.lo A0 H0 st rr) (F : Fine ops) (hn : a0.tmps.size = n) (hlo0 : H0.lo ≤ H0.next) (hbound : (st ops.size).next < 4000000000000000000) (I : Inv E.P B ops st rr A0 H0 ρ0 w0 a0 S a w ρ p g) {i : Nat} {o : Oper} (ho : ops[i]? = some o) (hi : ¬ S i)
    (hrd : ∀ j, j < ops.size → dep ops i j = true → S j) (hk : (rr i).kind = 1) (hst : (st i).p = p) (hp : p ≤ i)
    {v : Value} {w' : World} {ρ' : Ren} (hv : VR ρ' (rr i).r v) (hout : HR E.P B ρ' (rr i).out w')
    (hpost : Post ρ ⟨mergeAll (st i).base.objs (depsOf ((masks ops).get i) (st i).segs), (st i).next, (st i).next⟩ w ρ' (rr i).out w') (hcl : cleanRange (rr i).out.objs (rr i).k (rr i).k ((rr i).k' - (rr i).k) = true) (hnx : (rr i).out.next = (rr i).k') :
    Inv E.P B ops st rr A0 H0 ρ0 w0 a0 (fun j => j = i ∨ S j) (a.put o.dst v) w' ρ' p (over_ g (rr i).out (rr i).k (rr i).k') := by
  obtain ⟨h1, h2, h3, h4, _⟩ := stepR_cases (R.step i o ho)
  have hil := lt_of ho
  have s := R.seg i (Nat.le_of_lt hil)
  have sn := R.seg ops.size (Nat.le_refl _)
  have hK : (rr i).k' ≤ (st ops.size).next := by rw [(sn.rks i hil).2]; exact sn.mono (i + 1) (by omega)
  have hsub := I.inSub R hil hp hbound hst (depsOf ((masks ops).get i) (st i).segs) (fun y hy => by
    obtain ⟨q1, q2⟩ := (depsOf_mem _ _ _).1 hy
    refine ⟨q1, ?_⟩
    obtain ⟨_, q3, _, _⟩ := (s.segs y.1 y.2).1 q1
    refine hrd y.1 (by omega) ?_
    unfold dep
    exact q2)
  have hpk : (st p).next ≤ (rr i).k := by rw [h2]; exact s.mono p hp
  -- whose is a name that g tells of
  have whose : ∀ m q, g m = some q → (∃ j, S j ∧ p ≤ j ∧ j < ops.size ∧ (rr j).kind = 1 ∧ (rr j).k ≤ m ∧ m < (rr j).k' ∧ (rr j).out.objs.get m = some q) ∨ ((st p).base.objs.get m = some q) := by
    intro m q hq
    by_cases c : ∃ j, S j ∧ p ≤ j ∧ j < ops.size ∧ (rr j).kind = 1 ∧ (rr j).k ≤ m ∧ m < (rr j).k'
    · obtain ⟨j, c1, c2, c3, c4, c5, c6⟩ := c
      exact .inl ⟨j, c1, c2, c3, c4, c5, c6, by rw [← I.gs.own j m c1 c2 c3 c4 c5 c6]; exact hq⟩
    · exact .inr (by rw [← I.gs.rest m c]; exact hq)
  -- its class is of the same operation
  have cl : ∀ j, S j → p ≤ j → j < ops.size → (rr j).kind = 1 → ∀ m q c, (rr j).k ≤ m → m < (rr j).k' → (rr j).out.objs.get m = some q → q.cls = some c → (rr j).k ≤ c ∧ c < (rr j).k' := by
    intro j c1 c2 c3 c4 m q c c5 c6 c7 c8
    refine ⟨?_, I.outOld j c1 c2 c3 c4 m q c c7 c8⟩
    obtain ⟨oj, hoj⟩ := some_of c3
    obtain ⟨_, _, _, _, h5⟩ := stepR_cases (R.step j oj hoj)
    rcases h5 with ⟨k0, _⟩ | ⟨_, _, _, _, _, _, _, _, _, hc⟩ | ⟨k0, _⟩
    · omega
    · exact cleanRange_spec _ _ _ _ hc m q c c5 (by omega) c7 c8
    · omega
  have hun : ∀ m, (rr i).k ≤ m → m < (rr i).k' → g m = none := by
    intro m c1 c2
    cases hg : g m with
    | none => rfl
    | some q =>
      rcases whose m q hg with ⟨j, d1, _, d3, _, d5, d6, _⟩ | hb
      · have := R.apart d3 hil d5 d6 c1 c2
        subst this
        exact absurd d1 hi
      · have := (I.baseOld m q hb).1; omega
  obtain ⟨c1, c2, c3⟩ := comb (k := (rr i).k) (k' := (rr i).k') I.hr (fun m q hm => (hsub m q hm).1) (fun m q hm => by rw [h2]; exact (hsub m q hm).2.1) hout hpost h2.symm h2.symm hnx hK hun
    (fun m q c d1 d2 d3 => by
      have hm : m < (rr i).k' := by rw [← hnx]; exact hout.old m q d2
      exact cleanRange_spec _ _ _ _ hcl m q c d1 (by omega) d2 d3)
    (fun m q m2 q2 c d1 d2 d3 d4 d5 => by
      -- the class of what lies apart is no class of what is leant on
      rcases whose m q d1 with ⟨j, e1, e2, e3, e4, e5, e6, e7⟩ | hb
      · obtain ⟨f1, f2⟩ := cl j e1 e2 e3 e4 m q c e5 e6 e7 d4
        have hsm := hsub m2 q2 d3
        rcases whose m2 q2 hsm.1 with ⟨j2, g1, g2, g3, g4, g5, g6, g7⟩ | hb2
        · obtain ⟨f3, f4⟩ := cl j2 g1 g2 g3 g4 m2 q2 c g5 g6 g7 d5
          have hjj := R.apart e3 g3 f1 f2 f3 f4
          subst hjj
          -- then m lies in what is leant on, too
          rcases mergeAll_get (st i).base.objs m (depsOf ((masks ops).get i) (st i).segs) (fun y hy => by
            obtain ⟨q1, _⟩ := (depsOf_mem _ _ _).1 hy
            obtain ⟨_, q3, _, q4⟩ := (s.segs y.1 y.2).1 q1
            have hyl : y.1 < ops.size := by omega
            obtain ⟨oy, hoy⟩ := some_of hyl
            obtain ⟨_, _, _, h4, _⟩ := stepR_cases (R.step y.1 oy hoy)
            have h6 : (rr y.1).k' ≤ (st ops.size).next := by rw [(sn.rks y.1 hyl).2]; exact sn.mono (y.1 + 1) (by omega)
            rw [q4]
            exact ⟨by omega, h4⟩) with ⟨y, y1, y2, y3, y4⟩ | ⟨y1, y2⟩
          · obtain ⟨q1, _⟩ := (depsOf_mem _ _ _).1 y1
            obtain ⟨_, q3, _, q4⟩ := (s.segs y.1 y.2).1 q1
            rw [q4] at y2 y3
            have := R.apart (by omega) e3 y2 y3 e5 e6
            rw [q4, this, e7] at y4
            simp only at d2
            rw [y4] at d2; cases d2
          · -- j is among those that i leans on, for m2 is there
            rcases mergeAll_get (st i).base.objs m2 (depsOf ((masks ops).get i) (st i).segs) (fun y hy => by
              obtain ⟨q1, _⟩ := (depsOf_mem _ _ _).1 hy
              obtain ⟨_, q3, _, q4⟩ := (s.segs y.1 y.2).1 q1
              have hyl : y.1 < ops.size := by omega
              obtain ⟨oy, hoy⟩ := some_of hyl
              obtain ⟨_, _, _, h4, _⟩ := stepR_cases (R.step y.1 oy hoy)
              have h6 : (rr y.1).k' ≤ (st ops.size).next := by rw [(sn.rks y.1 hyl).2]; exact sn.mono (y.1 + 1) (by omega)
              rw [q4]
              exact ⟨by omega, h4⟩) with ⟨z, z1, z2, z3, z4⟩ | ⟨z1, z2⟩
            · obtain ⟨q1, _⟩ := (depsOf_mem _ _ _).1 z1
              obtain ⟨_, q3, _, q4⟩ := (s.segs z.1 z.2).1 q1
              rw [q4] at z2 z3
              have hz := R.apart (by omega) g3 z2 z3 g5 g6
              refine y1 z z1 ⟨by rw [q4, hz]; exact e5, by rw [q4, hz]; exact e6, by rw [q4, hz, e7]; rfl⟩
            · simp only at d3
              rw [z2] at d3
              have hbase : (st i).base = (st p).base := by rw [s.base, hst]
              rw [hbase] at d3
              have h8 := (I.baseOld m2 q2 d3).1
              have h9 := (sn.rks j g3).1
              have h10 := (R.seg j (Nat.le_of_lt g3)).mono p g2
              omega
        · have h8 := (I.baseOld m2 q2 hb2).2 c d5
          have h9 := (sn.rks j e3).1
          have h10 := (R.seg j (Nat.le_of_lt e3)).mono p e2
          omega
      · -- what stands in the base is always leant on
        have hbase : (st i).base = (st p).base := by rw [s.base, hst]
        rcases mergeAll_get (st i).base.objs m (depsOf ((masks ops).get i) (st i).segs) (fun y hy => by
          obtain ⟨q1, _⟩ := (depsOf_mem _ _ _).1 hy
          obtain ⟨_, q3, _, q4⟩ := (s.segs y.1 y.2).1 q1
          have hyl : y.1 < ops.size := by omega
          obtain ⟨oy, hoy⟩ := some_of hyl
          obtain ⟨_, _, _, h4, _⟩ := stepR_cases (R.step y.1 oy hoy)
          have h6 : (rr y.1).k' ≤ (st ops.size).next := by rw [(sn.rks y.1 hyl).2]; exact sn.mono (y.1 + 1) (by omega)
          rw [q4]
          exact ⟨by omega, h4⟩) with ⟨y, y1, y2, y3, y4⟩ | ⟨y1, y2⟩
        · obtain ⟨q1, _⟩ := (depsOf_mem _ _ _).1 y1
          obtain ⟨q0, q3, _, q4⟩ := (s.segs y.1 y.2).1 q1
          rw [q4] at y2 y3
          have hyl : y.1 < ops.size := by omega
          have h8 := (I.baseOld m q hb).1
          have h9 := (sn.rks y.1 hyl).1
          have h10 := (R.seg y.1 (Nat.le_of_lt hyl)).mono p (by rw [← hst]; exact q0)
          omega
        · simp only at d2
          rw [y2, hbase, hb] at d2; cases d2)
    (fun m q c d1 d2 d3 => by
      rcases whose m q d1 with ⟨j, e1, e2, e3, e4, e5, e6, e7⟩ | hb
      · obtain ⟨f1, f2⟩ := cl j e1 e2 e3 e4 m q c e5 e6 e7 d2
        have := R.apart e3 hil f1 f2 d3.1 d3.2
        subst this
        exact hi e1
      · have := (I.baseOld m q hb).2 c d2; omega)
  have hk0 : H0.next ≤ (rr i).k := by
    rw [h2]
    have := s.mono 0 (Nat.zero_le _)
    rw [R.start] at this
    exact this
  refine ⟨I.ple, I.phase.imp id fun ⟨x, y, z⟩ => ⟨x, y, .inr z⟩, I.fst, fun j x y => .inr (I.all j x y), fun j x y z d => ?_, ⟨fun j m hj x y z u1 u2 => ?_, fun m hm => ?_⟩, c1, I.baseOld, fun j hj x y z m q c d1 d2 => ?_, fun j x y m u1 u2 => ?_,
    I.pf.step hpost.le (fun m x y => by
      have := hpost.new m x y
      simp only at this
      rw [hnx] at this
      rw [h2]
      exact this) hk0 hK (fun m hm => ?_) hpost.os hpost.tape hpost.output hpost.size c2 c3,
    trStep F ho hi I.tr hpost.le hv (by rw [I.size, hn]; exact h1), by rw [Act.put_size]; exact I.size, by rw [Act.put_defers']; exact I.defers, closedStep I hrd⟩
  · rcases d with rfl | d
    · omega
    · exact I.later j x y z d
  · unfold over_
    rcases hj with rfl | hj
    · rw [if_pos ⟨u1, u2⟩]
    · rw [if_neg]
      · exact I.gs.own j m hj x y z u1 u2
      · rintro ⟨v1, v2⟩
        have := R.apart y hil u1 u2 v1 v2
        subst this
        exact hi hj
  · unfold over_
    rw [if_neg]
    · exact I.gs.rest m fun ⟨j, x, y⟩ => hm ⟨j, .inr x, y⟩
    · rintro ⟨v1, v2⟩
      exact hm ⟨i, .inl rfl, hp, hil, hk, v1, v2⟩
  · rcases hj with rfl | hj
    · rw [← hnx]; exact hout.clo m q c d1 d2
    · exact I.outOld j hj x y z m q c d1 d2
  · have hj : ¬ S j := fun h => y (.inr h)
    have hf := I.fresh j x hj m u1 u2
    cases hr : ρ' m with
    | none => rfl
    | some z =>
      have := hpost.new m hf (by simp [hr])
      simp only at this
      rw [hnx, ← h2] at this
      have := R.apart x hil u1 u2 this.1 this.2
      exact absurd (.inl this) y
  · unfold over_
    rw [if_neg (by omega)]
end
end Go.Ev
noncomputable section
namespace Go.Ev
open Go
section
variable {E : Env} {call : CallEv} {ops : Array Oper} {n : Nat} {B : Bas} {A0 : Tr AV} {H0 : AHeap} {st : Nat → RS} {rr : Nat → RR}
variable {ρ0 : Ren} {w0 w : World} {a0 a : Act} {S : Nat → Prop} {ρ : Ren} {p : Nat} {g : Nat → Option AObj}
/-- All parts that were made apart, laid together, are what is told of. -/
theorem Inv.whole (R : Run E call ops n H0.lo A0 H0 st rr) (hbound : (st ops.size).next < 4000000000000000000) (I : Inv E.P B ops st rr A0 H0 ρ0 w0 a0 S a w ρ p g) {i : Nat} (hi : i ≤ ops.size) (hp : p ≤ i) (hst : (st i).p = p)
    (hall : ∀ j, p ≤ j → j < i → (rr j).kind = 1 → S j) (hnone : ∀ j, i ≤ j → j < ops.size → (rr j).kind = 1 → ¬ S j) : ∀ m, (mergeAll (st i).base.objs (st i).segs).get m = g m := by
  have s := R.seg i hi
  have sn := R.seg ops.size (Nat.le_refl _)
  have hbase : (st i).base = (st p).base := by rw [s.base, hst]
  intro m
  rcases mergeAll_get (st i).base.objs m (st i).segs (fun y hy => by
    obtain ⟨_, q3, _, q4⟩ := (s.segs y.1 y.2).1 hy
    have hyl : y.1 < ops.size := by omega
    obtain ⟨oy, hoy⟩ := some_of hyl
    obtain ⟨_, _, _, h4, _⟩ := stepR_cases (R.step y.1 oy hoy)
    have h6 : (rr y.1).k' ≤ (st ops.size).next := by rw [(sn.rks y.1 hyl).2]; exact sn.mono (y.1 + 1) (by omega)
    rw [q4]
    exact ⟨by omega, h4⟩) with ⟨y, y1, y2, y3, y4⟩ | ⟨y1, y2⟩
  · obtain ⟨q1, q2, q3, q4⟩ := (s.segs y.1 y.2).1 y1
    rw [q4] at y2 y3 y4
    rw [hst] at q1
    rw [y4, I.gs.own y.1 m (hall y.1 q1 q2 q3) q1 (by omega) q3 y2 y3]
  · rw [y2, hbase]
    by_cases c : ∃ j, S j ∧ p ≤ j ∧ j < ops.size ∧ (rr j).kind = 1 ∧ (rr j).k ≤ m ∧ m < (rr j).k'
    · obtain ⟨j, c1, c2, c3, c4, c5, c6⟩ := c
      have hji : j < i := by
        rcases Nat.lt_or_ge j i with h | h
        · exact h
        · exact absurd c1 (hnone j h c3 c4)
      rw [I.gs.own j m c1 c2 c3 c4 c5 c6]
      have hin : (j, rr j) ∈ (st i).segs := (s.segs j (rr j)).2 ⟨by rw [hst]; exact c2, hji, c4, rfl⟩
      have := y1 _ hin
      cases ho : (rr j).out.objs.get m with
      | some q => exact absurd ⟨c5, c6, by simp [ho]⟩ this
      | none =>
        cases hb : (st p).base.objs.get m with
        | none => rfl
        | some q =>
          have h8 := (I.baseOld m q hb).1
          have h9 := (sn.rks j c3).1
          have h10 := (R.seg j (Nat.le_of_lt c3)).mono p c2
          omega
    · exact (I.gs.rest m c).symm
theorem told_eq {H : AHeap} (h : ∀ m, H.objs.get m = g m) (b : Nat) : Told ρ H b ↔ ToldF ρ g b := by
  constructor
  · rintro ⟨m, o, cp, e, r⟩; exact ⟨m, o, cp, by rw [← h]; exact e, r⟩
  · rintro ⟨m, o, cp, e, r⟩; exact ⟨m, o, cp, by rw [h]; exact e, r⟩
/-- An operation of which all others that may look at memory stand ahead or behind. -/
theorem Inv.step2 (R : Run E call ops n H0.lo A0 H0 st rr) (F : Fine ops) (hn : a0.tmps.size = n) (I : Inv E.P B ops st rr A0 H0 ρ0 w0 a0 S a w ρ p g) {i : Nat} {o : Oper} (ho : ops[i]? = some o) (hi : ¬ S i)
    (hrd : ∀ j, j < ops.size → dep ops i j = true → S j) (hk : (rr i).kind = 2) (hp : p ≤ i)
    {v : Value} {w' : World} {ρ' : Ren} {L : Tr AObj} (hL : ∀ m, L.get m = g m) (hv : VR ρ' (rr i).r v) (hout : HR E.P B ρ' (rr i).out w')
    (hpost : Post ρ ⟨L, (st i).next, H0.lo⟩ w ρ' (rr i).out w') (hnx : (rr i).out.next = (rr i).k') (hlo0 : H0.lo ≤ H0.next) :
    Inv E.P B ops st rr A0 H0 ρ0 w0 a0 (fun j => j = i ∨ S j) (a.put o.dst v) w' ρ' (i + 1) (rr i).out.objs.get := by
  obtain ⟨h1, h2, h3, h4, h5⟩ := stepR_cases (R.step i o ho)
  have hil := lt_of ho
  have hbar : barrier ops i = true ∧ (st (i + 1)).p = i + 1 ∧ (st (i + 1)).base = (rr i).out := by
    rcases h5 with ⟨k0, _⟩ | ⟨k0, _⟩ | ⟨_, _, k1, k2, k3, _⟩
    · omega
    · omega
    · exact ⟨k1, k2, k3⟩
  obtain ⟨hb1, hb2, hb3⟩ := hbar
  have s := R.seg i (Nat.le_of_lt hil)
  have sn := R.seg ops.size (Nat.le_refl _)
  have hK : (rr i).k' ≤ (st ops.size).next := by rw [(sn.rks i hil).2]; exact sn.mono (i + 1) (by omega)
  have later : ∀ j, i < j → j < ops.size → (rr j).kind ≠ 0 → ¬ S j := by
    intro j c1 c2 c3 hS
    obtain ⟨q, hq⟩ := some_of c2
    obtain ⟨hh, _⟩ := kinds R hq c3
    rcases barrier_spec hb1 hq hh (by omega) with ⟨c, _⟩ | ⟨_, c⟩
    · omega
    · exact hi (I.closed j q i hS hq hil c)
  have hk0 : H0.next ≤ (rr i).k := by
    rw [h2]
    have := s.mono 0 (Nat.zero_le _)
    rw [R.start] at this
    exact this
  refine ⟨by omega, .inr ⟨by omega, by simpa using hk, .inl (by omega)⟩, hb2, fun j c1 c2 => ?_, fun j c1 c2 c3 c4 => ?_, ⟨fun j m hj c1 c2 c3 => ?_, fun m hm => by rw [hb3]⟩,
    hout.sub (fun _ _ e => e) (fun m q e => by have := hout.old m q e; omega) (fun m q c e ec => by have := hout.clo m q c e ec; omega) (by have := I.hr.lim; omega) (by omega),
    fun m q e => ?_, fun j hj c1 c2 c3 => ?_, fun j c1 c2 m u1 u2 => ?_,
    I.pf.step hpost.le (fun m x y => by
      have := hpost.new m x y
      simp only at this
      rw [hnx] at this
      rw [h2]
      exact this) hk0 hK (fun m hm => by rw [hpost.keep m hm]; exact hL m) hpost.os hpost.tape hpost.output hpost.size (fun b hb ht => hpost.frame b hb fun t => ht ((told_eq hL b).1 t)) (fun b hb => by
        rcases hpost.told b hb with c | c
        · exact .inl c
        · exact .inr ((told_eq hL b).1 c)),
    trStep F ho hi I.tr hpost.le hv (by rw [I.size, hn]; exact h1), by rw [Act.put_size]; exact I.size, by rw [Act.put_defers']; exact I.defers, closedStep I hrd⟩
  · rcases Nat.lt_or_ge j i with c | c
    · obtain ⟨q, hq⟩ := some_of (ops := ops) (i := j) (by omega)
      obtain ⟨hh, _⟩ := kinds R hq c2
      rcases barrier_spec hb1 hq hh (by omega) with ⟨_, d⟩ | ⟨d, _⟩
      · exact .inr (hrd j (by omega) d)
      · omega
    · exact .inl (by omega)
  · rcases c4 with c4 | c4
    · omega
    · exact later j (by omega) c2 (by omega) c4
  · rcases hj with hj | hj
    · omega
    · exact absurd hj (later j (by omega) c2 (by omega))
  · rw [hb3] at e
    rw [← h3, ← hnx]
    exact ⟨hout.old m q e, fun c hc => hout.clo m q c e hc⟩
  · rcases hj with hj | hj
    · omega
    · exact absurd hj (later j (by omega) c2 (by omega))
  · have hj : ¬ S j := fun h => c2 (.inr h)
    have hf := I.fresh j c1 hj m u1 u2
    cases hr : ρ' m with
    | none => rfl
    | some z =>
      have := hpost.new m hf (by simp [hr])
      simp only at this
      rw [hnx, ← h2] at this
      have := R.apart c1 hil u1 u2 this.1 this.2
      exact absurd (.inl this) c2
/-- The end of the region. -/
theorem Inv.done (R : Run E call ops n H0.lo A0 H0 st rr) (hbound : (st ops.size).next < 4000000000000000000) (I : Inv E.P B ops st rr A0 H0 ρ0 w0 a0 S a w ρ p g) (hall : ∀ j, j < ops.size → S j) :
    HR E.P B ρ ⟨mergeAll (st ops.size).base.objs (st ops.size).segs, (st ops.size).next, H0.lo⟩ w ∧ Post ρ0 H0 w0 ρ ⟨mergeAll (st ops.size).base.objs (st ops.size).segs, (st ops.size).next, H0.lo⟩ w ∧ TR ρ (st ops.size).A a := by
  have hst := I.segStart R (Nat.le_refl _) I.ple (fun e he _ => hall e he)
  have hw := I.whole R hbound (Nat.le_refl _) I.ple hst (fun j _ c _ => hall j c) (fun j c1 c2 => by omega)
  have hget : (mergeAll (st ops.size).base.objs (st ops.size).segs).get = g := funext hw
  have s := R.seg ops.size (Nat.le_refl _)
  refine ⟨by show HRF _ _ _ _ _ _ _; simp only [hget]; exact I.hr, ?_, fun t => ?_⟩
  · refine ⟨I.pf.le, I.pf.new, ?_, rfl, fun m hm => by simp only [hget]; exact I.pf.keep m hm, I.pf.os, I.pf.tape, I.pf.output, I.pf.size, I.pf.frame, fun b hb => I.pf.told b ((told_eq (fun m => by simp only [hget]) b).1 hb)⟩
    have := s.mono 0 (Nat.zero_le _)
    rw [R.start] at this
    exact this
  · refine I.tr t _ ?_
    rcases s.tmps t with ⟨j, q, h1, h2, h3, h4⟩ | ⟨h1, h2⟩
    · exact .inl ⟨j, q, hall j h1, h2, h3, h4⟩
    · exact .inr ⟨fun j q _ hq => h1 j q (lt_of hq) hq, h2⟩
end
end Go.Ev
noncomputable section
namespace Go.Ev
open Go
section
variable {E : Env} {call : CallEv} {ops : Array Oper} {n : Nat} {B : Bas} {A0 : Tr AV} {H0 : AHeap} {st : Nat → RS} {rr : Nat → RR}
variable {ρ0 : Ren} {w0 : World} {a0 : Act}
def Listed (listed : Array Bool) : Nat → Prop := fun j => listed.getD j false = true
theorem listed_set {listed : Array Bool} {i : Nat} (hi : i < listed.size) : Listed (listed.setIfInBounds i true) = fun j => j = i ∨ Listed listed j := by
  funext j
  apply propext
  unfold Listed
  by_cases c : j = i
  · subst c; simp [hi]
  · rw [getD_set_ne false (fun e => c e.symm)]
    constructor
    · exact .inr
    · rintro (h | h)
      · exact absurd h c
      · exact h
theorem all_of_ready_nil (F : Fine ops) {listed : Array Bool} (hs : listed.size = ops.size) (h : Region.ready .any ops listed = []) : ∀ j, j < ops.size → Listed listed j := by
  intro j
  induction j using Nat.strongRecOn with
  | _ j ih =>
    intro hj
    by_cases c : Listed listed j
    · exact c
    · exfalso
      obtain ⟨o, ho⟩ := some_of hj
      have : j ∈ Region.ready .any ops listed := mem_ready.2 ⟨by
        unfold Listed at c
        have hl : j < listed.size := by omega
        simp [hl] at c ⊢
        exact c, o, ho, fun e he hb => by
          have := (F.edge j o ho e he hb).1
          exact ih e.on this (by omega)⟩
      rw [h] at this
      cases this
theorem drawn_any (hE : EOK E B) (hcall : CallOK E.P B call) (R : Run E call ops n H0.lo A0 H0 st rr) (F : Fine ops) (hn : a0.tmps.size = n) (hlo0 : H0.lo ≤ H0.next) (hbound : (st ops.size).next < 4000000000000000000) {Q : Exit → Act → World → Prop}
    (hQ : ∀ a w ρ p g S, Inv E.P B ops st rr A0 H0 ρ0 w0 a0 S a w ρ p g → (∀ j, j < ops.size → S j) → Q .normal a w) :
    ∀ (fuel : Nat) (listed : Array Bool) (L : List Nat) (a : Act) (w : World) (ρ : Ren) (p : Nat) (g : Nat → Option AObj), L.length ≤ fuel → listed.size = ops.size → (∀ j, j < ops.size → ¬ Listed listed j → j ∈ L) →
      Inv E.P B ops st rr A0 H0 ρ0 w0 a0 (Listed listed) a w ρ p g → wpAny E.P .any ops Q fuel listed a w
  | 0, listed, L, a, w, ρ, p, g, hL, hs, hin, I => by
    have hall : ∀ j, j < ops.size → Listed listed j := fun j hj => by
      by_cases c : Listed listed j
      · exact c
      · have := hin j hj c
        have : L = [] := List.eq_nil_of_length_eq_zero (by omega)
        subst this
        simp at *
    refine ⟨?_, hQ a w ρ p g _ I hall⟩
    cases hr : Region.ready .any ops listed with
    | nil => rfl
    | cons j l =>
      have : j ∈ Region.ready .any ops listed := by rw [hr]; simp
      obtain ⟨h0, o, ho, _⟩ := mem_ready.1 this
      have := hall j (lt_of ho)
      unfold Listed at this
      have hl : j < listed.size := by have := lt_of ho; omega
      simp [hl] at h0 this
      rw [h0] at this
      cases this
  | fuel + 1, listed, L, a, w, ρ, p, g, hL, hs, hin, I => by
    refine ⟨fun hr => hQ a w ρ p g _ I (all_of_ready_nil F hs hr), fun i hr => ?_⟩
    obtain ⟨hi0, o, ho, hedge⟩ := mem_ready.1 hr
    have hil := lt_of ho
    have hli : i < listed.size := by omega
    have hi : ¬ Listed listed i := by
      unfold Listed
      simp [hli] at hi0 ⊢
      exact hi0
    have hrd : ∀ j, j < ops.size → dep ops i j = true → Listed listed j := fun j hj hd => by
      obtain ⟨_, e, he, hb, hx⟩ := F.back i o j ho hj hd
      have hl := hedge e he hb
      rcases hx with rfl | hx
      · exact hl
      · obtain ⟨q, hq⟩ := some_of (ops := ops) (i := e.on) (by have := (F.edge i o ho e he hb).1; omega)
        exact I.closed e.on q j hl hq hj hx
    have hk' : ∀ (a' : Act) (w' : World) (ρ' : Ren) (p' : Nat) (g' : Nat → Option AObj), Inv E.P B ops st rr A0 H0 ρ0 w0 a0 (fun j => j = i ∨ Listed listed j) a' w' ρ' p' g' → wpAny E.P .any ops Q fuel (listed.setIfInBounds i true) a' w' := by
      intro a' w' ρ' p' g' I'
      have hiL := hin i hil hi
      refine drawn_any hE hcall R F hn hlo0 hbound hQ fuel (listed.setIfInBounds i true) (L.erase i) a' w' ρ' p' g' (by rw [List.length_erase_of_mem hiL]; omega) (by simp [hs]) (fun j hj hnj => ?_) (by rw [listed_set hli]; exact I')
      rw [listed_set hli] at hnj
      have hne : j ≠ i := fun e => hnj (.inl e)
      exact (List.mem_erase_of_ne hne).2 (hin j hj fun h => hnj (.inr h))
    have hlook : ∀ t ∈ looks ops o, VR ρ (tget (st i).A t) (a.tmps.getD t undef) := fun t ht => I.tr t _ (I.look R F ho hi hrd ht)
    have hw := aWanted_sound (ρ := ρ) (ops := ops) (o := o) (A := (st i).A) (a := a) (fun j w d hg hd => hlook d (by simp [looks, hg, hd]))
    have hops : constsOK o.op.operands.toList = true → ∀ x ∈ o.op.operands, VR ρ (aEval (st i).A x) (a.eval x) := fun hc x hx =>
      evalOne (constsOK_one hc (Array.mem_toList_iff.2 hx)) fun t ht => hlook t (by
        subst ht
        simp only [looks, List.mem_append, List.mem_filterMap]
        exact .inl ⟨.tmp t, Array.mem_toList_iff.2 hx, rfl⟩)
    obtain ⟨h1, h2, h3, h4, h5⟩ := stepR_cases (R.step i o ho)
    have hfree : Free ρ (rr i).k (rr i).k' := fun m c1 c2 => I.fresh i hil hi m c1 c2
    have hpi : (rr i).kind ≠ 0 → p ≤ i := fun hk => by
      rcases Nat.lt_or_ge i p with c | c
      · exact absurd (I.all i c hk) hi
      · exact c
    have hbar : heapy o.op = true → ∀ e, e < i → (rr e).kind = 2 → Listed listed e := fun hh e he hk => by
      obtain ⟨q, hq⟩ := some_of (ops := ops) (i := e) (by omega)
      have := (kinds R hq (by omega)).2 hk
      rcases barrier_spec this ho hh (by omega) with ⟨c, _⟩ | ⟨_, c⟩
      · omega
      · exact hrd e (by omega) c
    unfold wpOp
    simp only [ho]
    rcases h5 with ⟨k0, k1, k2, k3, k4, hx⟩ | ⟨k0, k1, k2, k3, k4, k5, k6, k7, k8, k9⟩ | ⟨k0, k1, k2, k3, k4, k5, k6, k7, k8, k9⟩
    · rcases hx with ⟨x1, x2⟩ | ⟨x1, x2, x3⟩
      · rw [hw, x1]
        simp only [Bool.false_eq_true, if_false]
        exact hk' _ _ _ _ _ (I.step0 R F hn ho hi hrd k0 (v := undef) (by rw [x2]; exact VR.undefA))
      · rw [hw, x1]
        simp only [if_true]
        obtain ⟨v, e1, e2⟩ := pureOp_sound (e := a.eval) x3 (hops x2) w
        refine .inl ?_
        simp only [Oper.wp, e1, Oper.upon]
        exact hk' _ _ _ _ _ (I.step0 R F hn ho hi hrd k0 e2)
    · rw [hw, k6]
      simp only [if_true]
      have hp := hpi (by omega)
      have hst := I.segStart R (Nat.le_of_lt hil) hp (hbar k1)
      have s := R.seg i (Nat.le_of_lt hil)
      have hsub := I.inSub R hil hp hbound hst (depsOf ((masks ops).get i) (st i).segs) (fun y hy => by
        obtain ⟨q1, q2⟩ := (depsOf_mem _ _ _).1 hy
        refine ⟨q1, ?_⟩
        obtain ⟨_, q3, _, _⟩ := (s.segs y.1 y.2).1 q1
        refine hrd y.1 (by omega) ?_
        unfold dep
        exact q2)
      have hlim : (st i).next < 2 ^ 63 := by have := (R.seg ops.size (Nat.le_refl _)).mono i (by omega); omega
      have hHin : HR E.P B ρ ⟨mergeAll (st i).base.objs (depsOf ((masks ops).get i) (st i).segs), (st i).next, (st i).next⟩ w :=
        I.hr.sub (fun m q e => (hsub m q e).1) (fun m q e => (hsub m q e).2.1) (fun m q c e ec => (hsub m q e).2.2 c ec) hlim (Nat.le_refl _)
      refine .inl (opStep_sound hE hcall hHin k8 (by rw [k5]; simp only; rw [← h2]; exact hfree) (hops k7) fun v w' ρ' hv hh hpost => ?_)
      exact hk' _ _ _ _ _ (I.step1 R F hn hlo0 hbound ho hi hrd k0 hst hp hv hh hpost k9 k5)
    · rw [hw, k7]
      simp only [if_true]
      have hp := hpi (by omega)
      have hst := I.segStart R (Nat.le_of_lt hil) hp (hbar k1)
      have s := R.seg i (Nat.le_of_lt hil)
      have hall : ∀ j, p ≤ j → j < i → (rr j).kind = 1 → Listed listed j := fun j _ c hk => by
        obtain ⟨q, hq⟩ := some_of (ops := ops) (i := j) (by omega)
        rcases barrier_spec k2 hq (kinds R hq (by omega)).1 (by omega) with ⟨_, d⟩ | ⟨d, _⟩
        · exact hrd j (by omega) d
        · omega
      have hnone : ∀ j, i ≤ j → j < ops.size → (rr j).kind = 1 → ¬ Listed listed j := fun j c1 c2 hk hS => by
        obtain ⟨q, hq⟩ := some_of c2
        by_cases e : j = i
        · subst e; exact hi hS
        · rcases barrier_spec k2 hq (kinds R hq (by omega)).1 e with ⟨d, _⟩ | ⟨_, d⟩
          · omega
          · exact hi (I.closed j q i hS hq hil d)
      have hwh := I.whole R hbound (Nat.le_of_lt hil) hp hst hall hnone
      have hsub := I.inSub R hil hp hbound hst (st i).segs (fun y hy => by
        obtain ⟨q0, q3, q5, _⟩ := (s.segs y.1 y.2).1 hy
        exact ⟨hy, hall y.1 (by rw [← hst]; exact q0) q3 q5⟩)
      have hlim : (st i).next < 2 ^ 63 := by have := (R.seg ops.size (Nat.le_refl _)).mono i (by omega); omega
      have hlo : H0.lo ≤ (st i).next := by
        have := s.mono 0 (Nat.zero_le _)
        rw [R.start] at this
        simp only at this
        omega
      have hHin : HR E.P B ρ ⟨mergeAll (st i).base.objs (st i).segs, (st i).next, H0.lo⟩ w :=
        I.hr.sub (fun m q e => (hsub m q e).1) (fun m q e => (hsub m q e).2.1) (fun m q c e ec => (hsub m q e).2.2 c ec) hlim hlo
      refine .inl (opStep_sound hE hcall hHin k9 (by rw [k6]; simp only; rw [← h2]; exact hfree) (hops k8) fun v w' ρ' hv hh hpost => ?_)
      exact hk' _ _ _ _ _ (I.step2 R F hn ho hi hrd k0 hp hwh hv hh hpost k6 hlo0)
theorem aDrawn_sound (hE : EOK E B) (hcall : CallOK E.P B call) (hm : E.P.follows .mixedOrders = true) {A A' : Tr AV} {H H' : AHeap} {ρ : Ren} {a : Act} {w : World} (h : aDrawn E call ops n A H = some (A', H')) (hh : HR E.P B ρ H w) (hf : Free ρ H.next H'.next)
    (ht : TR ρ A a) (hn : a.tmps.size = n) {Q : Exit → Act → World → Prop} {id : Nat}
    (hQ : ∀ a' w' ρ', TR ρ' A' a' → a'.tmps.size = n → a'.defers = a.defers → HR E.P B ρ' H' w' → Post ρ H w ρ' H' w' → Q .normal a' w') : (Code.region id ops true).wp E.P Q a w := by
  unfold aDrawn at h
  split at h
  · cases h
  rename_i hfine
  have F := fine_spec hfine
  split at h
  · cases h
  rename_i S hgo
  split at h
  · rename_i hb
    have hb := blt_t hb
    cases h
    obtain ⟨st, rr, s1, s2, s3⟩ := goR_seq _ _ _ _ hgo
    simp only [Nat.zero_add, Array.length_toList] at s2 s3
    have R : Run E call ops n H.lo A H st rr := ⟨s1, fun i o ho => s2 i o (by simpa using ho)⟩
    subst s3
    have hd : HR E.P B ρ H w.drew := hh.drew
    have sn := R.seg ops.size (Nat.le_refl _)
    have hnx : H.next ≤ (st ops.size).next := by
      have := sn.mono 0 (Nat.zero_le _)
      rw [s1] at this
      exact this
    have hlim : (st ops.size).next < 2 ^ 63 := by omega
    have I0 : Inv E.P B ops st rr A H ρ w.drew a (Listed (Array.replicate ops.size false)) a w.drew ρ 0 H.objs.get := by
      have hnl : ∀ j, ¬ Listed (Array.replicate ops.size false) j := fun j => by
        unfold Listed
        simp only [Array.getD_eq_getD_getElem?, Array.getElem?_replicate]
        split <;> simp
      refine ⟨Nat.zero_le _, .inl rfl, by rw [s1], fun j hj => absurd hj (Nat.not_lt_zero _), fun j _ _ _ => hnl j, ⟨fun j _ hj => absurd hj (hnl j), fun m _ => by rw [s1]⟩,
        hd.sub (fun _ _ e => e) (fun m q e => by have := hd.old m q e; omega) (fun m q c e ec => by have := hd.clo m q c e ec; omega) hlim (by have := hd.lole; omega),
        fun m q e => ?_, fun j hj => absurd hj (hnl j), fun j hj _ m c1 c2 => ?_, ⟨Ren.le_refl _, fun m c1 c2 => absurd c1 c2, fun _ _ => rfl, rfl, rfl, rfl, Nat.le_refl _, fun _ _ _ => rfl, fun b hb => .inr hb⟩, fun t x hx => ?_, rfl, rfl, fun i _ _ hi => absurd hi (hnl i)⟩
      · rw [s1] at e ⊢
        exact ⟨hd.old m q e, fun c hc => hd.clo m q c e hc⟩
      · have h1 := (sn.rks j hj).1
        have h2 := (sn.rks j hj).2
        have h3 := sn.mono (j + 1) (by omega)
        have h4 := (R.seg j (Nat.le_of_lt hj)).mono 0 (Nat.zero_le _)
        rw [s1] at h4
        simp only at h4
        exact hf m (by omega) (by simp only; omega)
      · rcases hx with ⟨j, _, hj, _⟩ | ⟨_, h2⟩
        · exact absurd hj (hnl j)
        · subst h2; exact ht t
    refine wp_region_any hm ?_
    show wpAny E.P .any ops Q ops.size (Array.replicate ops.size false) a w.drew
    refine drawn_any hE hcall R F hn hh.lole hb (fun a' w' ρ' p' g' S' I' hall => ?_) ops.size (Array.replicate ops.size false) (List.range ops.size) a w.drew ρ 0 H.objs.get (by simp) (by simp) (fun j hj _ => List.mem_range.2 hj) I0
    obtain ⟨d1, d2, d3⟩ := I'.done R hb hall
    exact hQ a' w' ρ' d3 (I'.size.trans hn) I'.defers d1 d2.ofDrew
  · cases h
end
end Go.Ev
noncomputable section
namespace Go.Ev
open Go
inductive AEx where
  | normal
  | exit (id : Nat)
  | ret
def AEx.toExit : AEx → Exit
  | .normal => .normal
  | .exit id => .exit id
  | .ret => .ret
def constOne : Operand → Bool
  | .const v => (AV.ofValue 100 v).isSome
  | _ => true
def aCode (E : Env) (call : CallEv) (n : Nat) : Nat → Code → Tr AV → AHeap → Option (AEx × Tr AV × AHeap)
  | 0, _, _, _ => none
  | f + 1, c, A, H => match c with
    | .skip => some (.normal, A, H)
    | .label _ => some (.normal, A, H)
    | .exit id => some (.exit id, A, H)
    | .ret => some (.ret, A, H)
    | .seq x y => match aCode E call n f x A H with
      | none => none
      | some (.normal, A1, H1) => aCode E call n f y A1 H1
      | some r => some r
    | .cond c x y => match constOne c with
      | false => none
      | true => match aEval A c with
        | .bool true => aCode E call n f x A H
        | .bool false => aCode E call n f y A H
        | _ => none
    | .block id b => match aCode E call n f b A H with
      | none => none
      | some (.exit i, A1, H1) => match Nat.beq i id with
        | true => some (.normal, A1, H1)
        | false => some (.exit i, A1, H1)
      | some r => some r
    | .loop b => match aCode E call n f b A H with
      | none => none
      | some (.normal, A1, H1) => aCode E call n f (.loop b) A1 H1
      | some r => some r
    | .region _ ops draw => match draw with
      | false => match aOps E call ops n ops.toList A H with
        | none => none
        | some (A1, H1) => some (.normal, A1, H1)
      | true => match aDrawn E call ops n A H with
        | none => none
        | some (A1, H1) => some (.normal, A1, H1)
    | _ => none
section
variable {E : Env} {call : CallEv} {n : Nat} {B : Bas}
theorem aDrawn_next {ops : Array Oper} {A A' : Tr AV} {H H' : AHeap} (h : aDrawn E call ops n A H = some (A', H')) : H.next ≤ H'.next := by
  unfold aDrawn at h
  split at h
  · cases h
  split at h
  · cases h
  rename_i S hgo
  split at h
  · cases h
    obtain ⟨st, rr, s1, s2, s3⟩ := goR_seq _ _ _ _ hgo
    simp only [Nat.zero_add, Array.length_toList] at s2 s3
    have R : Run E call ops n H.lo A H st rr := ⟨s1, fun i o ho => s2 i o (by simpa using ho)⟩
    subst s3
    have := (R.seg ops.size (Nat.le_refl _)).mono 0 (Nat.zero_le _)
    rw [s1] at this
    exact this
  · cases h
theorem aCode_next : ∀ (f : Nat) (c : Code) (A : Tr AV) (H : AHeap) (ex : AEx) (A' : Tr AV) (H' : AHeap), aCode E call n f c A H = some (ex, A', H') → H.next ≤ H'.next
  | 0, c, A, H, ex, A', H', h => by simp [aCode] at h
  | f + 1, c, A, H, ex, A', H', h => by
    have ih := aCode_next f
    unfold aCode at h
    split at h
    · cases h; exact Nat.le_refl _
    · cases h; exact Nat.le_refl _
    · cases h; exact Nat.le_refl _
    · cases h; exact Nat.le_refl _
    · split at h
      · cases h
      · rename_i A1 H1 h1
        exact Nat.le_trans (ih _ _ _ _ _ _ h1) (ih _ _ _ _ _ _ h)
      · rename_i r h1 _
        cases h
        exact ih _ _ _ _ _ _ (by assumption)
    · split at h
      · cases h
      · split at h
        · exact ih _ _ _ _ _ _ h
        · exact ih _ _ _ _ _ _ h
        · cases h
    · split at h
      · cases h
      · rename_i i A1 H1 h1
        split at h
        · cases h; exact ih _ _ _ _ _ _ h1
        · cases h; exact ih _ _ _ _ _ _ h1
      · cases h
        exact ih _ _ _ _ _ _ (by assumption)
    · split at h
      · cases h
      · rename_i A1 H1 h1
        exact Nat.le_trans (ih _ _ _ _ _ _ h1) (ih _ _ _ _ _ _ h)
      · cases h
        exact ih _ _ _ _ _ _ (by assumption)
    · split at h
      · split at h
        · cases h
        · rename_i A1 H1 h1
          cases h
          exact aOps_next _ h1
      · split at h
        · cases h
        · rename_i A1 H1 h1
          cases h
          exact aDrawn_next h1
    · cases h
def Goal (E : Env) (call : CallEv) (n : Nat) (B : Bas) (f : Nat) : Prop :=
  ∀ (c : Code) (A : Tr AV) (H : AHeap) (ex : AEx) (A' : Tr AV) (H' : AHeap), aCode E call n f c A H = some (ex, A', H') → ∀ (ρ : Ren) (a : Act) (w : World) (Q : Exit → Act → World → Prop),
    HR E.P B ρ H w → Free ρ H.next H'.next → TR ρ A a → a.tmps.size = n →
    (∀ a' w' ρ', TR ρ' A' a' → a'.tmps.size = n → a'.defers = a.defers → HR E.P B ρ' H' w' → Post ρ H w ρ' H' w' → Q ex.toExit a' w') → c.wp E.P Q a w
theorem aLoop_sound : ∀ (f : Nat), (∀ k, k < f → Goal E call n B k) → ∀ (b : Code) (A : Tr AV) (H : AHeap) (ex : AEx) (A' : Tr AV) (H' : AHeap), aCode E call n f (.loop b) A H = some (ex, A', H') → ∀ (ρ : Ren) (a : Act) (w : World) (Q : Exit → Act → World → Prop),
    HR E.P B ρ H w → Free ρ H.next H'.next → TR ρ A a → a.tmps.size = n →
    (∀ a' w' ρ', TR ρ' A' a' → a'.tmps.size = n → a'.defers = a.defers → HR E.P B ρ' H' w' → Post ρ H w ρ' H' w' → Q ex.toExit a' w') → Code.rounds E.P b Q f a w
  | 0, _, b, A, H, ex, A', H', h, _, _, _, _, _, _, _, _, _ => by simp [aCode] at h
  | f + 1, hg, b, A, H, ex, A', H', h, ρ, a, w, Q, hh, hf, ht, hn, hq => by
    unfold aCode at h
    simp only at h
    rw [rounds_succ]
    split at h
    · cases h
    · rename_i A1 H1 h1
      have hnx := aCode_next _ _ _ _ _ _ _ h
      refine hg f (Nat.lt_succ_self f) b A H _ A1 H1 h1 ρ a w _ hh (hf.mono hnx) ht hn fun a1 w1 ρ1 t1 t2 t3 t4 t5 => ?_
      show Code.rounds E.P b Q f a1 w1
      exact aLoop_sound f (fun k hk => hg k (by omega)) b A1 H1 ex A' H' h ρ1 a1 w1 Q t4 (t5.free hf) t1 t2 fun a' w' ρ' s1 s2 s3 s4 s5 => hq a' w' ρ' s1 s2 (s3.trans t3) s4 (t5.trans s5)
    · rename_i r hne hr
      cases h
      refine hg f (Nat.lt_succ_self f) b A H ex A' H' (by assumption) ρ a w _ hh hf ht hn fun a1 w1 ρ1 t1 t2 t3 t4 t5 => ?_
      have := hq a1 w1 ρ1 t1 t2 t3 t4 t5
      cases ex with
      | normal => exact absurd rfl (hne A' H')
      | exit id => exact this
      | ret => exact this
theorem aCode_sound (hE : EOK E B) (hcall : CallOK E.P B call) (hm : E.P.follows .mixedOrders = true) : ∀ f, Goal E call n B f := by
  intro f
  induction f using Nat.strongRecOn with
  | _ f ih =>
    cases f with
    | zero => intro c A H ex A' H' h; simp [aCode] at h
    | succ f =>
      intro c A H ex A' H' h ρ a w Q hh hf ht hn hq
      have ihf := ih f (Nat.lt_succ_self f)
      have h0 := h
      unfold aCode at h
      split at h
      · cases h; exact wp_skip (hq a w ρ ht hn rfl hh (Post.refl _ _ _))
      · cases h; exact wp_label (hq a w ρ ht hn rfl hh (Post.refl _ _ _))
      · cases h; exact wp_exit (hq a w ρ ht hn rfl hh (Post.refl _ _ _))
      · cases h; exact wp_ret (hq a w ρ ht hn rfl hh (Post.refl _ _ _))
      · rename_i x y
        refine wp_seq ?_
        split at h
        · cases h
        · rename_i A1 H1 h1
          have hnx := aCode_next _ _ _ _ _ _ _ h
          refine ihf x A H _ A1 H1 h1 ρ a w _ hh (hf.mono hnx) ht hn fun a1 w1 ρ1 t1 t2 t3 t4 t5 => ?_
          show y.wp E.P Q a1 w1
          exact ihf y A1 H1 ex A' H' h ρ1 a1 w1 Q t4 (t5.free hf) t1 t2 fun a' w' ρ' s1 s2 s3 s4 s5 => hq a' w' ρ' s1 s2 (s3.trans t3) s4 (t5.trans s5)
        · rename_i r hne hr
          cases h
          refine ihf x A H ex A' H' (by assumption) ρ a w _ hh hf ht hn fun a1 w1 ρ1 t1 t2 t3 t4 t5 => ?_
          have := hq a1 w1 ρ1 t1 t2 t3 t4 t5
          cases ex with
          | normal => exact absurd rfl (hne A' H')
          | exit id => exact this
          | ret => exact this
      · rename_i co x y
        split at h
        · cases h
        rename_i hc
        have hv : VR ρ (aEval A co) (a.eval co) := evalOne (fun v hv => by subst hv; exact hc) fun t _ => ht t
        split at h
        · rename_i hb
          rw [hb] at hv
          exact wp_cond_true hv (ihf x A H ex A' H' h ρ a w Q hh hf ht hn hq)
        · rename_i hb
          rw [hb] at hv
          exact wp_cond_false hv (ihf y A H ex A' H' h ρ a w Q hh hf ht hn hq)
        · cases h
      · rename_i id b
        refine wp_block ?_
        split at h
        · cases h
        · rename_i i A1 H1 h1
          split at h
          · rename_i hi
            cases h
            refine ihf b A H _ A' H' h1 ρ a w _ hh hf ht hn fun a1 w1 ρ1 t1 t2 t3 t4 t5 => ?_
            show (if i = id then Q .normal a1 w1 else Q (.exit i) a1 w1)
            rw [if_pos (Nat.eq_of_beq_eq_true hi)]
            exact hq a1 w1 ρ1 t1 t2 t3 t4 t5
          · rename_i hi
            cases h
            refine ihf b A H _ A' H' h1 ρ a w _ hh hf ht hn fun a1 w1 ρ1 t1 t2 t3 t4 t5 => ?_
            show (if i = id then Q .normal a1 w1 else Q (.exit i) a1 w1)
            rw [if_neg (beq_f hi)]
            exact hq a1 w1 ρ1 t1 t2 t3 t4 t5
        · rename_i r hne hr
          cases h
          refine ihf b A H ex A' H' (by assumption) ρ a w _ hh hf ht hn fun a1 w1 ρ1 t1 t2 t3 t4 t5 => ?_
          have := hq a1 w1 ρ1 t1 t2 t3 t4 t5
          cases ex with
          | normal => exact this
          | exit i => exact absurd rfl (hne i A' H')
          | ret => exact this
      · rename_i b
        exact wp_loop_rounds (f + 1) (aLoop_sound (f + 1) (fun k hk => ih k hk) b A H ex A' H' h0 ρ a w Q hh hf ht hn hq)
      · rename_i id ops draw
        split at h
        · split at h
          · cases h
          · rename_i A1 H1 h1
            cases h
            exact wp_region_list (aOps_sound hE hcall _ h1 hh hf ht hn hq)
        · split at h
          · cases h
          · rename_i A1 H1 h1
            cases h
            exact aDrawn_sound hE hcall hm h1 hh hf ht hn hq
      · cases h
/-! ### Functions -/
def aResults (P : Program) (A : Tr AV) (H : AHeap) : List ResultVar → Option (List AV)
  | [] => some []
  | .tmp t :: l => match aResults P A H l with
    | none => none
    | some m => some (tget A t :: m)
  | .cell c t :: l => match aLoad P H t (tget A c) with
    | none => none
    | some v => match aResults P A H l with
      | none => none
      | some m => some (v :: m)
def resOf (tmps : Array Value) : ResultVar → Sem Value
  | .tmp t => pure (tmps.getD t undef)
  | .cell c t => do loadVar t (← asAddr (tmps.getD c undef))
theorem results_eq (fn : Func) (tmps : Array Value) : results fn tmps = (do
    let vs ← fn.results.mapM (resOf tmps)
    pure (if h : vs.size = 1 then vs[0] else .tuple vs)) := rfl
theorem aResults_sound {P : Program} {ρ : Ren} {A : Tr AV} {H : AHeap} {a : Act} {w : World} (hh : HR P B ρ H w) (ht : TR ρ A a) : ∀ (l : List ResultVar) (m : List AV), aResults P A H l = some m →
    ∃ vs, VRL ρ m vs ∧ (l.mapM (resOf a.tmps)).run P w = .ok vs w
  | [], m, h => by simp [aResults] at h; subst h; exact ⟨[], VRL.nil, rfl⟩
  | .tmp t :: l, m, h => by
    unfold aResults at h
    split at h
    · cases h
    rename_i m' hm
    cases h
    obtain ⟨vs, h1, h2⟩ := aResults_sound hh ht l m' hm
    refine ⟨a.tmps.getD t undef :: vs, VRL.cons (ht t) h1, ?_⟩
    rw [List.mapM_cons]
    have e0 : (resOf a.tmps (.tmp t)).run P w = .ok (a.tmps.getD t undef) w := rfl
    simp only [Sem.run_bind, e0, h2, Result.andThen_ok, Sem.run_pure]
  | .cell c t :: l, m, h => by
    unfold aResults at h
    split at h
    · cases h
    rename_i v hv
    split at h
    · cases h
    rename_i m' hm
    cases h
    obtain ⟨vs, h1, h2⟩ := aResults_sound hh ht l m' hm
    obtain ⟨ad, z, e1, e2, e3⟩ := aLoad_sound hh hv (ht c)
    refine ⟨z :: vs, VRL.cons e3 h1, ?_⟩
    rw [List.mapM_cons]
    have e0 : (resOf a.tmps (.cell c t)).run P w = .ok z w := by
      show ((asAddr (a.tmps.getD c undef)).bind fun ad => loadVar t ad).run P w = _
      rw [e1]
      exact e2
    simp only [Sem.run_bind, e0, h2, Result.andThen_ok, Sem.run_pure]
def pack (l : List AV) : AV :=
  match l with
  | [x] => x
  | l => .tuple l
def aFn (E : Env) : Nat → CallEv
  | 0 => fun _ _ _ => none
  | d + 1 => fun f l H => match E.P.funcs[f]? with
    | none => none
    | some fn => match fn.body with
      | none => none
      | some c => match Nat.ble l.length 100000 && Nat.ble l.length fn.ntmps with
        | false => none
        | true => match aCode E (aFn E d) fn.ntmps d c (Tr.ofList l) H with
          | some (.normal, A, H1) => match aResults E.P A H1 fn.results.toList with
            | some m => some (pack m, H1)
            | none => none
          | some (.ret, A, H1) => match aResults E.P A H1 fn.results.toList with
            | some m => some (pack m, H1)
            | none => none
          | _ => none
theorem VR.pack {ρ : Ren} {m : List AV} {vs : List Value} (h : VRL ρ m vs) : VR ρ (pack m) (if h : vs.toArray.size = 1 then vs.toArray[0] else .tuple vs.toArray) := by
  have hl := h.length
  match m, vs, h, hl with
  | [], [], h, _ => exact ⟨[], rfl, h⟩
  | [x], [v], h, _ =>
    obtain ⟨v', ws, e, h1, _⟩ := h
    cases e
    exact h1
  | x :: y :: m, v :: u :: vs, h, _ =>
    have : ¬ ((v :: u :: vs).toArray.size = 1) := by simp
    rw [dif_neg this]
    exact ⟨_, rfl, h⟩
theorem aFn_sound (hE : EOK E B) (hm : E.P.follows .mixedOrders = true) : ∀ d, CallOK E.P B (aFn E d)
  | 0 => fun f l H r H' h => by simp [aFn] at h
  | d + 1 => fun f l H r H' h ρ w vs hh hf hv => by
    have ih := aFn_sound hE hm d
    unfold aFn at h
    split at h
    · cases h
    rename_i fn hfn
    split at h
    · cases h
    rename_i c hc
    split at h
    · cases h
    rename_i hb
    obtain ⟨b1, b2⟩ := bAnd hb
    have b1 := Nat.le_of_ble_eq_true b1
    have b2 := Nat.le_of_ble_eq_true b2
    have hlen := hv.length
    let a0 : Act := { tmps := vs.toArray ++ Array.replicate (fn.ntmps - vs.toArray.size) undef, defers := [] }
    have ht : TR ρ (Tr.ofList l) a0 := by
      intro t
      unfold tget
      rw [Tr.ofList_get _ _ (by omega)]
      simp only [a0, Array.getD_eq_getD_getElem?, Array.getElem?_append, List.size_toArray]
      by_cases ct : t < l.length
      · rw [if_pos (by omega)]
        obtain ⟨v, e1, e2⟩ := hv.get t _ (List.getElem?_eq_getElem ct)
        rw [List.getElem?_eq_getElem ct, List.getElem?_toArray, e1]
        exact e2
      · rw [if_neg (by omega), List.getElem?_eq_none (by omega)]
        simp only [Array.getElem?_replicate]
        split <;> exact VR.undefA
    have hn : a0.tmps.size = fn.ntmps := by simp [a0]; omega
    have fin : ∀ {ex : AEx} {A : Tr AV} {H1 : AHeap} {m : List AV}, (ex = .normal ∨ ex = .ret) → aCode E (aFn E d) fn.ntmps d c (Tr.ofList l) H = some (ex, A, H1) → aResults E.P A H1 fn.results.toList = some m → r = pack m → H' = H1 →
        Calls E.P f vs.toArray w fun e w' => ∃ v ρ', e = .returned v ∧ VR ρ' r v ∧ HR E.P B ρ' H' w' ∧ Post ρ H w ρ' H' w' := by
      intro ex A H1 m hex hcode hres hr hH
      subst hr hH
      refine calls_of_wp hfn hc ?_
      refine aCode_sound hE ih hm d c _ H ex A H' hcode ρ a0 w _ hh hf ht hn fun a' w' ρ' t1 t2 t3 t4 t5 => ?_
      obtain ⟨us, u1, u2⟩ := aResults_sound t4 t1 _ m hres
      have hrun : (results fn a'.tmps).run E.P w' = .ok (if h : us.toArray.size = 1 then us.toArray[0] else .tuple us.toArray) w' := by
        rw [results_eq]
        have : (fn.results.mapM (resOf a'.tmps)).run E.P w' = .ok us.toArray w' := by
          rw [← Array.toArray_toList (xs := fn.results), List.mapM_toArray, Sem.run_map, u2]
          rfl
        simp only [Sem.run_bind]
        rw [this]
        rfl
      have : a'.defers = [] ∧ ∃ v, (results fn a'.tmps).run E.P w' = .ok v w' ∧ ∃ v1 ρ1, Ending.returned v = .returned v1 ∧ VR ρ1 (pack m) v1 ∧ HR E.P B ρ1 H' w' ∧ Post ρ H w ρ1 H' w' :=
        ⟨t3, _, hrun, _, ρ', rfl, VR.pack u1, t4, t5⟩
      rcases hex with rfl | rfl
      · exact this
      · exact this
    split at h
    · rename_i A H1 hcode
      split at h
      · rename_i m hres
        cases h
        exact fin (.inl rfl) hcode hres rfl rfl
      · cases h
    · rename_i A H1 hcode
      split at h
      · rename_i m hres
        cases h
        exact fin (.inr rfl) hcode hres rfl rfl
      · cases h
    · cases h
end
end Go.Ev
noncomputable section
namespace Go.Ev
open Go Go.RowKit
def H00 : AHeap := ⟨.leaf, 0, 0⟩
/-- The functions without a body of which the reckoner knows: numbers and what they are. -/
def extL (l : List (Nat × ExtK)) (f : FuncId) : Option ExtK :=
  match l with
  | [] => none
  | (k, e) :: l => match Nat.beq f k with
    | true => some e
    | false => extL l f
theorem extOK_nil {P : Program} : ExtOK P (extL []) := fun f k h _ => by cases h
theorem extOK_cons {P : Program} {k : Nat} {e : ExtK} {l : List (Nat × ExtK)} {fn : Func} (hl : ExtOK P (extL l)) (hf : P.funcs[k]? = some fn) (hname : (fn.name == "runtime.NumGoroutine") = false) (hb : fn.body.isNone = true) (hn : Extern.findNext fn = none) (he : Extern.find fn = some e.entry) : ExtOK P (extL ((k, e) :: l)) := by
  intro f k' h hpl args w
  unfold extL at h
  split at h
  · rename_i hk
    have hk := Nat.eq_of_beq_eq_true hk
    cases h
    subst hk
    simp only [callFunc, Sem.run_bind, run_program, Result.andThen_ok, hf, hname, hb, hn, he, Bool.false_eq_true, if_false, if_true, run_mark]
    rfl
  · exact hl f k' h hpl args w
def yes : Option (AV × AHeap) → Bool
  | some (.bool true, _) => true
  | _ => false
/-- The world as it stands, for a beginning. -/
def Bas.of (w : World) : Bas := ⟨w.heap.size, fun b => w.heap[b]?⟩
theorem EOK.plain {P : Program} {ext : FuncId → Option ExtK} {w : World} (h : ExtOK P ext) (hp : ∀ f k, ext f = some k → k.plain = true) : EOK ⟨P, ext, fun _ => none⟩ (Bas.of w) :=
  ⟨h, (fun f k e => by have := hp f _ e; cases this), (fun b l e => by cases e)⟩
theorem HR.none00 (P : Program) (w : World) : HR P (Bas.of w) (fun _ => none) H00 w := by
  refine ⟨fun n o h => ?_, fun n m o q b cp cq h => ?_, fun n o c l m h => ?_, fun n o c h => ?_, fun n b cp h => ?_, fun n o h => ?_, by decide, Nat.le_refl _, Nat.le_refl _, fun _ _ => rfl⟩
  all_goals first
    | (have : (H00.objs.get n : Option AObj) = none := Tr.get_leaf n); rw [this] at h; cases h
    | cases h
/-- A closed law's walk. -/
theorem closed {E : Env} {d f : Nat} (w : World) (hE : EOK E (Bas.of w)) (hm : E.P.follows .mixedOrders = true) (h : yes (aFn E d f [] H00) = true) :
    Calls E.P f #[] w fun e w' => e = .returned (.bool true) ∧ Below w.heap.size w w' := by
  unfold yes at h
  split at h
  · rename_i H' hr
    have := aFn_sound hE hm d f [] H00 _ H' hr (fun _ => none) w [] (HR.none00 E.P w) (fun _ _ _ => rfl) VRL.nil
    refine this.mono fun e w' ⟨v, ρ', h1, h2, h3, h4⟩ => ?_
    simp only [VR] at h2
    subst h2
    refine ⟨h1, h4.os, h4.tape, h4.output, h4.size, fun k hk => h4.frame k hk ?_⟩
    rintro ⟨n, o, cp, e, _⟩
    rw [show H00.objs.get n = none from Tr.get_leaf n] at e
    cases e
  · cases h
end Go.Ev
noncomputable section
namespace Go.Ev
open Go Go.RowKit
/-- A law's walk at arguments that are known. -/
theorem closedL {E : Env} {d f : Nat} {l : List AV} {vs : List Value} (w : World) (hE : EOK E (Bas.of w)) (hm : E.P.follows .mixedOrders = true) (h : yes (aFn E d f l H00) = true) (hv : VRL (fun _ => none) l vs) :
    Calls E.P f vs.toArray w fun e w' => e = .returned (.bool true) ∧ Below w.heap.size w w' := by
  unfold yes at h
  split at h
  · rename_i H' hr
    have := aFn_sound hE hm d f l H00 _ H' hr (fun _ => none) w vs (HR.none00 E.P w) (fun _ _ _ => rfl) hv
    refine this.mono fun e w' ⟨v, ρ', h1, h2, h3, h4⟩ => ?_
    simp only [VR] at h2
    subst h2
    refine ⟨h1, h4.os, h4.tape, h4.output, h4.size, fun k hk => h4.frame k hk ?_⟩
    rintro ⟨n, o, cp, e, _⟩
    rw [show H00.objs.get n = none from Tr.get_leaf n] at e
    cases e
  · cases h
/-- True at each of n numbers from lo on. -/
def each (p : Int → Bool) (lo : Int) : Nat → Bool
  | 0 => true
  | n + 1 => match p lo with
    | true => each p (lo + 1) n
    | false => false
theorem each_spec {p : Int → Bool} : ∀ {n : Nat} {lo : Int}, each p lo n = true → ∀ i, lo ≤ i → i < lo + n → p i = true
  | 0, lo, _, i, h1, h2 => by omega
  | n + 1, lo, h, i, h1, h2 => by
    unfold each at h
    split at h
    · rename_i hp
      by_cases c : i = lo
      · rw [c]; exact hp
      · exact each_spec h i (by omega) (by omega)
    · cases h
/-- True of both. -/
theorem eachB {p : Bool → Bool} (h : (match p true with | true => p false | false => false) = true) : ∀ b, p b = true := by
  intro b
  split at h
  · cases b
    · exact h
    · assumption
  · cases h
theorem VRL.int1 {ρ : Ren} {k : IntKind} {n : Int} {l : List AV} {vs : List Value} (h : VRL ρ l vs) : VRL ρ (.int k n :: l) (.int k n :: vs) := VRL.cons rfl h
theorem VRL.bool1 {ρ : Ren} {b : Bool} {l : List AV} {vs : List Value} (h : VRL ρ l vs) : VRL ρ (.bool b :: l) (.bool b :: vs) := VRL.cons rfl h
end Go.Ev
noncomputable section
namespace Go.Ev
open Go Go.RowKit
section
variable {P : Program} {B : Bas} {ρ : Ren} {H : AHeap} {w w' : World}
/-- New blocks, and nothing else: what was told still holds. -/
theorem HR.below (h : HR P B ρ H w) (b : Below w.heap.size w w') : HR P B ρ H w' ∧ Post ρ H w ρ H w' := by
  have hk : ∀ n o bb cp, H.objs.get n = some o → ρ n = some (bb, cp) → o.live = true → bb < w.heap.size := fun n o bb cp e r l => by
    obtain ⟨b0, c0, h0, h1⟩ := (h.obj n o e).block l
    rw [r] at h0
    obtain ⟨rfl, rfl⟩ := Prod.mk.inj (Option.some.inj h0)
    exact h1
  refine ⟨⟨fun n o e => ?_, h.inj, h.mem, h.clo, h.low, h.old, h.lim, Nat.le_trans h.base b.size, h.lole, fun k hk => ?_⟩,
    ⟨Ren.le_refl _, fun n a c => absurd a c, Nat.le_refl _, rfl, fun _ _ => rfl, b.os, b.tape, b.output, b.size, fun k hk1 _ => b.block k hk1, fun _ hb => .inr hb⟩⟩
  · by_cases hl : o.live = true
    · exact (h.obj n o e).keep (Ren.le_refl _) fun bb cp r => b.block bb (hk n o bb cp e r hl)
    · cases o <;> first | trivial | simp [AObj.live] at hl
  · rw [b.block k (Nat.lt_of_lt_of_le hk h.base)]; exact h.snap k hk
/-- Nothing is told. -/
theorem HR.forget (h : HR P B ρ H w) : HR P B (fun _ => none) H00 w := by
  refine ⟨fun n o e => ?_, fun n m o q b cp cq e => ?_, fun n o c l m e => ?_, fun n o c e => ?_, (fun n b cp e => by cases e), fun n o e => ?_, by decide, h.base, Nat.le_refl _, h.snap⟩
  all_goals (rw [show H00.objs.get n = none from Tr.get_leaf n] at e; cases e)
end
/-! ### Values without memory -/
def AV.flat : AV → Bool
  | .bool _ | .int _ _ | .str _ => true
  | _ => false
def AV.flatR : AV → Bool
  | .tuple l => l.all AV.flat
  | a => a.flat
def eqAV : AV → AV → Bool
  | .bool true, .bool true => true
  | .bool false, .bool false => true
  | .int k a, .int k' b => match eqK k k' with
    | true => eqI a b
    | false => false
  | .str a, .str b => eqL a b
  | _, _ => false
def eqAVL : List AV → List AV → Bool
  | [], [] => true
  | a :: l, b :: m => match eqAV a b with
    | true => eqAVL l m
    | false => false
  | _, _ => false
def eqAVR : AV → AV → Bool
  | .tuple l, .tuple m => eqAVL l m
  | a, b => eqAV a b
theorem eqL_true : ∀ {l m : List Nat}, eqL l m = true → l = m
  | [], [], _ => rfl
  | [], _ :: _, h => by cases h
  | _ :: _, [], h => by cases h
  | x :: l, y :: m, h => by
    unfold eqL at h
    split at h
    · rename_i hb
      rw [Nat.eq_of_beq_eq_true hb, eqL_true h]
    · cases h
theorem eqAV_eq {a b : AV} (h : eqAV a b = true) : a = b ∧ a.flat = true := by
  unfold eqAV at h
  split at h
  · exact ⟨rfl, rfl⟩
  · exact ⟨rfl, rfl⟩
  · split at h
    · rename_i hk
      rw [eqI_eq] at h
      have e1 := eqK_eq hk
      have e2 := eq_of_beq h
      subst e1 e2
      exact ⟨rfl, rfl⟩
    · cases h
  · rename_i x y
    have := eqL_true h
    subst this
    exact ⟨rfl, rfl⟩
  · cases h
theorem eqAVL_eq : ∀ {l m : List AV}, eqAVL l m = true → l = m ∧ l.all AV.flat = true
  | [], [], _ => ⟨rfl, rfl⟩
  | [], _ :: _, h => by cases h
  | _ :: _, [], h => by cases h
  | a :: l, b :: m, h => by
    unfold eqAVL at h
    split at h
    · rename_i he
      obtain ⟨e1, e2⟩ := eqAV_eq he
      obtain ⟨e3, e4⟩ := eqAVL_eq h
      subst e1 e3
      exact ⟨rfl, by simp [e2, e4]⟩
    · cases h
theorem eqAVR_eq {a b : AV} (h : eqAVR a b = true) : a = b ∧ a.flatR = true := by
  unfold eqAVR at h
  split at h
  · obtain ⟨e1, e2⟩ := eqAVL_eq h
    subst e1
    exact ⟨rfl, e2⟩
  · obtain ⟨e1, e2⟩ := eqAV_eq h
    subst e1
    refine ⟨rfl, ?_⟩
    cases a <;> first | exact e2 | cases e2
theorem VR.flatly {ρ ρ' : Ren} {a : AV} {v : Value} (h : a.flat = true) (hv : VR ρ a v) : VR ρ' a v := by
  cases a <;> first | exact hv | cases h
theorem VRL.flatly {ρ ρ' : Ren} : ∀ {l : List AV} {vs : List Value}, l.all AV.flat = true → VRL ρ l vs → VRL ρ' l vs
  | [], _, _, h => h
  | a :: l, vs, hf, h => by
    obtain ⟨v, ws, rfl, h1, h2⟩ := h
    simp only [List.all_cons, Bool.and_eq_true] at hf
    exact VRL.cons (h1.flatly hf.1) (VRL.flatly hf.2 h2)
theorem VR.flatlyR {ρ ρ' : Ren} {a : AV} {v : Value} (h : a.flatR = true) (hv : VR ρ a v) : VR ρ' a v := by
  cases a with
  | tuple l =>
    obtain ⟨vs, rfl, h1⟩ := hv
    exact ⟨vs, rfl, h1.flatly h⟩
  | _ => exact VR.flatly h hv
/-- A table of runs. -/
abbrev Tab := List (List AV × AV)
def tabF (t : Tab) (l : List AV) (H : AHeap) : Option (AV × AHeap) :=
  match t with
  | [] => none
  | e :: t => match eqAVL e.1 l with
    | true => some (e.2, H)
    | false => tabF t l H
def okTab (E : Env) (d f : Nat) : Tab → Bool
  | [] => true
  | e :: t => match aFn E d f e.1 H00 with
    | none => false
    | some (r, _) => match eqAVR e.2 r with
      | true => okTab E d f t
      | false => false
/-- A run without memory, from wherever. -/
theorem run_flat {E : Env} {B : Bas} {d f : Nat} (hE : EOK E B) (hm : E.P.follows .mixedOrders = true) {l : List AV} {r : AV} {H' : AHeap} (hr : aFn E d f l H00 = some (r, H')) (hl : l.all AV.flat = true) (hrf : r.flatR = true)
    {ρ : Ren} {H : AHeap} {w : World} {vs : List Value} (h : HR E.P B ρ H w) (hv : VRL ρ l vs) :
    Calls E.P f vs.toArray w fun e w' => ∃ v, e = .returned v ∧ (∀ ρ' : Ren, VR ρ' r v) ∧ Below w.heap.size w w' := by
  refine (aFn_sound hE hm d f l H00 r H' hr (fun _ => none) w vs h.forget (fun _ _ _ => rfl) (hv.flatly hl)).mono fun e w' ⟨v, ρ', h1, h2, h3, h4⟩ => ?_
  refine ⟨v, h1, fun ρ2 => h2.flatlyR hrf, h4.os, h4.tape, h4.output, h4.size, fun k hk => h4.frame k hk ?_⟩
  rintro ⟨n, o, cp, e, _⟩
  rw [show H00.objs.get n = none from Tr.get_leaf n] at e
  cases e
/-- A function that is known by what it returns. -/
theorem FnOK.of {P : Program} {B : Bas} {f : FuncId} {h : List AV → AHeap → Option (AV × AHeap)}
    (k : ∀ (l : List AV) (H : AHeap) (r : AV) (H' : AHeap), h l H = some (r, H') → H' = H ∧ ∀ (ρ : Ren) (w : World) (vs : List Value), HR P B ρ H w → VRL ρ l vs →
      Calls P f vs.toArray w fun e w' => ∃ v, e = .returned v ∧ VR ρ r v ∧ Below w.heap.size w w') : FnOK P B f h := by
  intro l H r H' hh ρ w vs hr _ hv
  obtain ⟨rfl, h2⟩ := k l H r H' hh
  refine (h2 ρ w vs hr hv).mono fun e w' ⟨v, h3, h4, h5⟩ => ?_
  obtain ⟨h6, h7⟩ := hr.below h5
  exact ⟨v, ρ, h3, h4, h6, h7⟩
theorem FnOK.tab {E : Env} {B : Bas} {d f : Nat} (hE : EOK E B) (hm : E.P.follows .mixedOrders = true) : ∀ {t : Tab}, okTab E d f t = true → FnOK E.P B f (tabF t)
  | [], _ => fun l H r H' h => by cases h
  | e :: t, h => by
    refine FnOK.of fun l H r H' hh => ?_
    unfold okTab at h
    split at h
    · cases h
    rename_i r0 H0 hrun
    split at h
    · rename_i heq
      obtain ⟨e1, e2⟩ := eqAVR_eq heq
      unfold tabF at hh
      split at hh
      · rename_i hk
        cases hh
        obtain ⟨e3, e4⟩ := eqAVL_eq hk
        refine ⟨rfl, fun ρ w vs hr hv => ?_⟩
        rw [← e1] at hrun
        refine (run_flat hE hm hrun e4 e2 hr (e3 ▸ hv)).mono fun e' w' ⟨v, h1, h2, h3⟩ => ⟨v, h1, h2 ρ, h3⟩
      · have ih := FnOK.tab hE hm h l H r H' hh
        have hH : H' = H := by
          have : ∀ t : Tab, tabF t l H = some (r, H') → H' = H := by
            intro t
            induction t with
            | nil => intro h; cases h
            | cons e t ih =>
              intro h
              unfold tabF at h
              split at h
              · cases h; rfl
              · exact ih h
          exact this t hh
        subst hH
        refine ⟨rfl, fun ρ w vs hr hv => ?_⟩
        have key : ∀ (t : Tab), okTab E d f t = true → tabF t l H' = some (r, H') → Calls E.P f vs.toArray w fun e w' => ∃ v, e = .returned v ∧ VR ρ r v ∧ Below w.heap.size w w' := by
          intro t
          induction t with
          | nil => intro _ h; cases h
          | cons e t ih =>
            intro ho h
            unfold okTab at ho
            split at ho
            · cases ho
            rename_i r0 H0 hrun
            split at ho
            · rename_i heq
              obtain ⟨e1, e2⟩ := eqAVR_eq heq
              unfold tabF at h
              split at h
              · rename_i hk
                cases h
                obtain ⟨e3, e4⟩ := eqAVL_eq hk
                rw [← e1] at hrun
                exact (run_flat hE hm hrun e4 e2 hr (e3 ▸ hv)).mono fun e' w' ⟨v, h1, h2, h3⟩ => ⟨v, h1, h2 ρ, h3⟩
              · exact ih ho h
            · cases ho
        exact key t h hh
    · cases h
theorem okTab_append {E : Env} {d f : Nat} : ∀ {s t : Tab}, okTab E d f s = true → okTab E d f t = true → okTab E d f (s ++ t) = true
  | [], _, _, h => h
  | e :: s, t, h, k => by
    unfold okTab at h
    show okTab E d f (e :: (s ++ t)) = true
    unfold okTab
    split at h
    · cases h
    · split at h
      · exact okTab_append h k
      · cases h
/-! ### The list of what is known -/
theorem extOK_fn {P : Program} {k : Nat} {h : List AV → AHeap → Option (AV × AHeap)} {l : List (Nat × ExtK)} (hl : ExtOK P (extL l)) : ExtOK P (extL ((k, .fn h) :: l)) := by
  intro f k' e hp
  unfold extL at e
  split at e
  · cases e; cases hp
  · exact hl f k' e hp
def FnsOK (P : Program) (B : Bas) (ext : FuncId → Option ExtK) : Prop := ∀ f h, ext f = some (.fn h) → FnOK P B f h
theorem FnsOK.nil {P : Program} {B : Bas} : FnsOK P B (extL []) := fun f h e => by cases e
theorem FnsOK.cons {P : Program} {B : Bas} {k : Nat} {h : List AV → AHeap → Option (AV × AHeap)} {l : List (Nat × ExtK)} (hk : FnOK P B k h) (hl : FnsOK P B (extL l)) : FnsOK P B (extL ((k, .fn h) :: l)) := by
  intro f h' e
  unfold extL at e
  split at e
  · rename_i hb
    obtain rfl := Nat.eq_of_beq_eq_true hb
    cases e
    exact hk
  · exact hl f h' e
theorem FnsOK.skip {P : Program} {B : Bas} {k : Nat} {x : ExtK} (hx : x.plain = true) {l : List (Nat × ExtK)} (hl : FnsOK P B (extL l)) : FnsOK P B (extL ((k, x) :: l)) := by
  intro f h' e
  unfold extL at e
  split at e
  · cases e; cases hx
  · exact hl f h' e
/-! ### Functions of strings -/
def pfxN : List Nat → List Nat → Bool
  | [], _ => true
  | _ :: _, [] => false
  | x :: l, y :: m => match Nat.beq x y with
    | true => pfxN l m
    | false => false
def idxN (sub : List Nat) : List Nat → Nat → AV
  | [], i => match sub with
    | [] => .int .i64 (Int.ofNat i)
    | _ :: _ => .int .i64 (-1)
  | x :: l, i => match pfxN sub (x :: l) with
    | true => .int .i64 (Int.ofNat i)
    | false => idxN sub l (i + 1)
def idxF (l : List AV) (H : AHeap) : Option (AV × AHeap) :=
  match l with
  | [.str s, .str m] => match Nat.blt s.length 4294967281 with
    | true => some (idxN m s 0, H)
    | false => none
  | _ => none
theorem pfxN_eq : ∀ (l m : List Nat), (∀ x ∈ l, x < 256) → (∀ x ∈ m, x < 256) → pfxN l m = (l.map UInt8.ofNat).isPrefixOf (m.map UInt8.ofNat)
  | [], m, _, _ => by simp [pfxN]
  | x :: l, [], _, _ => by simp [pfxN]
  | x :: l, y :: m, h1, h2 => by
    unfold pfxN
    simp only [List.map_cons, List.isPrefixOf]
    by_cases e : x = y
    · subst e
      rw [Nat.beq_refl, pfxN_eq l m (fun z hz => h1 z (by simp [hz])) (fun z hz => h2 z (by simp [hz]))]
      simp
    · have hb : Nat.beq x y = false := by
        cases hh : Nat.beq x y
        · rfl
        · exact absurd (Nat.eq_of_beq_eq_true hh) e
      have hne : (UInt8.ofNat x == UInt8.ofNat y) = false := by
        rw [beq_eq_false_iff_ne]
        intro he
        have := congrArg UInt8.toNat he
        have hx := h1 x (by simp)
        have hy := h2 y (by simp)
        simp [Nat.mod_eq_of_lt hx, Nat.mod_eq_of_lt hy] at this
        exact e this
      rw [hb, hne]
      simp
theorem idxN_eq (m : List Nat) (hm : ∀ x ∈ m, x < 256) : ∀ (s : List Nat) (i : Nat), (∀ x ∈ s, x < 256) →
    ∃ r : Int, idxN m s i = .int .i64 r ∧ (r = if 0 ≤ Lib.index (s.map UInt8.ofNat) (m.map UInt8.ofNat) then (i : Int) + Lib.index (s.map UInt8.ofNat) (m.map UInt8.ofNat) else -1)
  | [], i, _ => by
    unfold idxN
    cases m with
    | nil => exact ⟨_, rfl, by simp [Lib.index]⟩
    | cons y m => exact ⟨_, rfl, by simp [Lib.index]⟩
  | x :: l, i, h => by
    unfold idxN
    have hp := pfxN_eq m (x :: l) hm h
    simp only [List.map_cons, Lib.index] at hp ⊢
    rw [hp]
    cases hc : (m.map UInt8.ofNat).isPrefixOf (UInt8.ofNat x :: l.map UInt8.ofNat) with
    | true => exact ⟨_, rfl, by simp⟩
    | false =>
      simp only [Bool.false_eq_true, if_false]
      obtain ⟨r, h1, h2⟩ := idxN_eq m hm l (i + 1) fun y hy => h y (by simp [hy])
      refine ⟨r, h1, ?_⟩
      rw [h2]
      have hge := Lib.index_ge (l.map UInt8.ofNat) (m.map UInt8.ofNat)
      by_cases hr : 0 ≤ Lib.index (l.map UInt8.ofNat) (m.map UInt8.ofNat)
      · have : (Lib.index (l.map UInt8.ofNat) (m.map UInt8.ofNat) == -1) = false := beq_eq_false_iff_ne.2 (by omega)
        simp [this, hr]
        split <;> omega
      · have : Lib.index (l.map UInt8.ofNat) (m.map UInt8.ofNat) = -1 := by omega
        simp [this]
theorem idxN_lib (m s : List Nat) (hm : ∀ x ∈ m, x < 256) (hs : ∀ x ∈ s, x < 256) : idxN m s 0 = .int .i64 (Lib.index (s.map UInt8.ofNat) (m.map UInt8.ofNat)) := by
  obtain ⟨r, h1, h2⟩ := idxN_eq m hm s 0 hs
  rw [h1, h2]
  have hge := Lib.index_ge (s.map UInt8.ofNat) (m.map UInt8.ofNat)
  split
  · simp
  · congr 1; omega
theorem bs_list (l : List Nat) : (bs l).data.toList = l.map UInt8.ofNat := by simp [bs]
theorem FnOK.index {P : Program} {B : Bas} {f g : Nat} (hg : ∃ arr e fr m, B.held g = some (.cells arr e fr) ∧ arr[0]? = some (.int .i64 m)) (hgs : g < B.size)
    (c : ∀ (s sub : ByteArray) (m : Int) (w : World), s.size < 4294967281 → w.cell? ⟨g, 0, none⟩ = some (.int .i64 m) →
      Calls P f #[.string s, .string sub] w fun e w' => e = .returned (.int .i64 (Lib.index s.data.toList sub.data.toList)) ∧ w' = w) : FnOK P B f idxF := by
  refine FnOK.of fun l H r H' hh => ?_
  unfold idxF at hh
  split at hh
  · rename_i s m
    split at hh
    · rename_i hl
      cases hh
      refine ⟨rfl, fun ρ w vs hr hv => ?_⟩
      obtain ⟨v, ws, rfl, ⟨rfl, hs⟩, u, ws', rfl, ⟨rfl, hm⟩, hn⟩ := hv
      simp only [VRL] at hn
      subst hn
      obtain ⟨arr, e, fr, mm, h1, h2⟩ := hg
      have hc : w.cell? ⟨g, 0, none⟩ = some (.int .i64 mm) := by simp [World.cell?, hr.snap g hgs, h1, h2]
      refine (c (bs s) (bs m) mm w (by rw [bs_size]; exact blt_t hl) hc).mono fun e w' ⟨h3, h4⟩ => ?_
      subst h4
      refine ⟨_, h3, ?_, Below.refl _ _⟩
      rw [bs_list, bs_list, idxN_lib m s hm hs]
      rfl
    · cases hh
  · cases hh
/-- A function that gives its text back. -/
def cloneF (l : List AV) (H : AHeap) : Option (AV × AHeap) :=
  match l with
  | [.str s] => match Nat.ble s.length 281474976710656 with
    | true => some (.str s, H)
    | false => none
  | _ => none
theorem FnOK.clone {P : Program} {B : Bas} {f : Nat}
    (c : ∀ (s : ByteArray) (w : World), s.size ≤ 281474976710656 → Calls P f #[.string s] w fun e w' => e = .returned (.string s) ∧ Below w.heap.size w w') : FnOK P B f cloneF := by
  refine FnOK.of fun l H r H' hh => ?_
  unfold cloneF at hh
  split at hh
  · rename_i s
    split at hh
    · rename_i hl
      cases hh
      refine ⟨rfl, fun ρ w vs hr hv => ?_⟩
      obtain ⟨v, ws, rfl, ⟨rfl, hs⟩, hn⟩ := hv
      simp only [VRL] at hn
      subst hn
      exact (c (bs s) w (by rw [bs_size]; exact Nat.le_of_ble_eq_true hl)).mono fun e w' ⟨h3, h4⟩ => ⟨_, h3, ⟨rfl, hs⟩, h4⟩
    · cases hh
  · cases hh
def repN (l : List Nat) : Nat → List Nat
  | 0 => []
  | n + 1 => l ++ repN l n
def repF (l : List AV) (H : AHeap) : Option (AV × AHeap) :=
  match l with
  | [.str s, .int .i64 (.ofNat n)] => match Nat.ble n 9223372036854775807, Nat.ble (s.length * n) 140737488355328 with
    | true, true => some (.str (repN s n), H)
    | _, _ => none
  | _ => none
theorem repN_mem {l : List Nat} : ∀ {n x : Nat}, x ∈ repN l n → x ∈ l
  | 0, x, h => by cases h
  | n + 1, x, h => by
    rcases List.mem_append.1 h with h | h
    · exact h
    · exact repN_mem h
theorem FnOK.repeat {P : Program} {B : Bas} {f : Nat} (R : List UInt8 → Nat → List UInt8) (hR0 : ∀ l, R l 0 = []) (hR1 : ∀ l n, R l (n + 1) = l ++ R l n)
    (c : ∀ (s : ByteArray) (n : Nat) (w : World), n ≤ 9223372036854775807 → s.size * n ≤ 140737488355328 → Calls P f #[.string s, .int .i64 n] w fun e w' => e = .returned (.string ⟨(R s.data.toList n).toArray⟩) ∧ Below w.heap.size w w') : FnOK P B f repF := by
  have hR : ∀ (s : List Nat) n, R (s.map UInt8.ofNat) n = (repN s n).map UInt8.ofNat := fun s n => by
    induction n with
    | zero => rw [hR0]; rfl
    | succ n ih => rw [hR1, ih]; simp [repN]
  refine FnOK.of fun l H r H' hh => ?_
  unfold repF at hh
  split at hh
  · rename_i s n
    split at hh
    · rename_i hl1 hl2
      cases hh
      refine ⟨rfl, fun ρ w vs hr hv => ?_⟩
      obtain ⟨v, ws, rfl, ⟨rfl, hs⟩, u, ws', rfl, hu, hn⟩ := hv
      simp only [VRL] at hn
      simp only [VR] at hu
      subst hn hu
      refine (c (bs s) n w (Nat.le_of_ble_eq_true hl1) (by rw [bs_size]; exact Nat.le_of_ble_eq_true hl2)).mono fun e w' ⟨h3, h4⟩ => ⟨_, h3, ⟨?_, fun x hx => hs x (repN_mem hx)⟩, h4⟩
      rw [bs_list, hR]
      rfl
    · cases hh
  · cases hh
/-! ### strings.Join -/
def strsL : List AV → Option (List (List Nat))
  | [] => some []
  | .str l :: r => match strsL r with
    | some m => some (l :: m)
    | none => none
  | _ => none
def joinT (sep : List Nat) : List (List Nat) → List Nat
  | [] => []
  | y :: r => sep ++ (y ++ joinT sep r)
def joinN (sep : List Nat) : List (List Nat) → List Nat
  | [] => []
  | x :: r => x ++ joinT sep r
def joinAt (H : AHeap) (g off n : Nat) (sep : List Nat) : Option (AV × AHeap) :=
  match H.objs.get g with
  | some (.cells _ k _ t) => match Nat.ble (off + n) k with
    | true => match aLoadCells t n off with
      | some l => match strsL l with
        | some m => match Nat.ble (joinN sep m).length 140737488355328, Nat.ble n 140737488355328 with
          | true, true => some (.str (joinN sep m), H)
          | _, _ => none
        | none => none
      | none => none
    | false => none
  | _ => none
def joinF (l : List AV) (H : AHeap) : Option (AV × AHeap) :=
  match l with
  | [.slice g off n _, .str sep] => joinAt H g off n sep
  | [.sliceC g off n cap, .str sep] => match Nat.ble n cap with
    | true => joinAt H g off n sep
    | false => none
  | _ => none
theorem strsL_sound {ρ : Ren} : ∀ {l : List AV} {m : List (List Nat)} {vs : List Value}, strsL l = some m → VRL ρ l vs → vs = (m.map bs).map Value.string ∧ ∀ x ∈ m, ∀ y ∈ x, y < 256
  | [], m, vs, h, hv => by
    simp [strsL] at h; subst h
    simp only [VRL] at hv; subst hv
    exact ⟨rfl, by simp⟩
  | a :: l, m, vs, h, hv => by
    unfold strsL at h
    split at h
    · rename_i he; cases he
    · rename_i x r he
      cases he
      split at h
      · rename_i m' hm
        cases h
        obtain ⟨v, ws, rfl, ⟨rfl, hx⟩, hw⟩ := hv
        obtain ⟨e1, e2⟩ := strsL_sound hm hw
        subst e1
        exact ⟨rfl, by intro z hz; rcases List.mem_cons.1 hz with rfl | hz; exact hx; exact e2 z hz⟩
      · cases h
    · cases h
theorem joinT_lib (sep : List Nat) : ∀ (m : List (List Nat)), (joinT sep m).map UInt8.ofNat = Lib.joinTail (sep.map UInt8.ofNat) (m.map fun l => l.map UInt8.ofNat)
  | [] => rfl
  | y :: r => by
    have := joinT_lib sep r
    simp only [joinT, List.map_append, this]
    simp [Lib.joinTail, List.append_assoc]
theorem joinN_lib (sep : List Nat) (m : List (List Nat)) : (joinN sep m).map UInt8.ofNat = Lib.join (m.map fun l => l.map UInt8.ofNat) (sep.map UInt8.ofNat) := by
  cases m with
  | nil => rfl
  | cons x r => rw [List.map_cons, Lib.join_cons, ← joinT_lib]; simp [joinN]
theorem joinT_lt {sep : List Nat} (hs : ∀ x ∈ sep, x < 256) : ∀ {m : List (List Nat)}, (∀ x ∈ m, ∀ y ∈ x, y < 256) → ∀ y ∈ joinT sep m, y < 256
  | [], _, y, h => by cases h
  | x :: r, hm, y, h => by
    unfold joinT at h
    rcases List.mem_append.1 h with h | h
    · exact hs y h
    · rcases List.mem_append.1 h with h | h
      · exact hm x (by simp) y h
      · exact joinT_lt hs (fun z hz => hm z (by simp [hz])) y h
theorem joinN_lt {sep : List Nat} (hs : ∀ x ∈ sep, x < 256) {m : List (List Nat)} (hm : ∀ x ∈ m, ∀ y ∈ x, y < 256) : ∀ y ∈ joinN sep m, y < 256 := by
  intro y h
  cases m with
  | nil => cases h
  | cons x r =>
    unfold joinN at h
    rcases List.mem_append.1 h with h | h
    · exact hm x (by simp) y h
    · exact joinT_lt hs (fun z hz => hm z (by simp [hz])) y h
theorem FnOK.join {P : Program} {B : Bas} {f : Nat}
    (c : ∀ (bk o cp : Nat) (xs : List ByteArray) (sep : ByteArray) (w : World), (∀ (j : Nat) x, xs[j]? = some x → w.cell? ⟨bk, o + j, none⟩ = some (.string x)) → bk < w.heap.size → xs.length ≤ 140737488355328 → xs.length ≤ cp →
      (Lib.join (xs.map (·.data.toList)) sep.data.toList).length ≤ 140737488355328 →
      Calls P f #[.slice (some ⟨bk, o, none⟩) xs.length cp, .string sep] w fun e w' => e = .returned (.string ⟨(Lib.join (xs.map (·.data.toList)) sep.data.toList).toArray⟩) ∧ Below w.heap.size w w') : FnOK P B f joinF := by
  have core : ∀ (H : AHeap) (g off n : Nat) (sep : List Nat) (r : AV) (H' : AHeap), joinAt H g off n sep = some (r, H') → H' = H ∧ ∀ (ρ : Ren) (w : World) (b c0 cp : Nat), HR P B ρ H w → ρ g = some (b, c0) → n ≤ cp → (∀ x ∈ sep, x < 256) →
      Calls P f #[.slice (some ⟨b, off, none⟩) n cp, .string (bs sep)] w fun e w' => ∃ v, e = .returned v ∧ VR ρ r v ∧ Below w.heap.size w w' := by
    intro H g off n sep r H' hh
    unfold joinAt at hh
    split at hh
    · rename_i e k c0 t hg
      split at hh
      · rename_i hk
        split at hh
        · rename_i l hl
          split at hh
          · rename_i m hm
            split at hh
            · rename_i hlen hn
              cases hh
              refine ⟨rfl, fun ρ w b c1 cp hr hrho hcp hs => ?_⟩
              obtain ⟨vs, h1, h2, h3⟩ := hr.cellsL hg hrho n off l hl (Nat.le_of_ble_eq_true hk)
              obtain ⟨e1, e2⟩ := strsL_sound hm h1
              subst e1
              have hbl : (m.map bs).length = n := by simpa using h2
              have hb : b < w.heap.size := by
                obtain ⟨b0, c2, e3, e4⟩ := (hr.obj g _ hg).block rfl
                rw [hrho] at e3
                obtain ⟨rfl, rfl⟩ := Prod.mk.inj (Option.some.inj e3)
                exact e4
              have hj : Lib.join ((m.map bs).map (·.data.toList)) (bs sep).data.toList = (joinN sep m).map UInt8.ofNat := by
                rw [joinN_lib, bs_list]
                congr 1
                simp [bs_list]
              have := c b off cp (m.map bs) (bs sep) w (fun j x hx => h3 j _ (by rw [List.getElem?_map, hx]; rfl)) hb (by rw [hbl]; exact Nat.le_of_ble_eq_true hn) (by rw [hbl]; exact hcp) (by rw [hj]; simpa using Nat.le_of_ble_eq_true hlen)
              rw [hbl, hj] at this
              exact this.mono fun e w' ⟨h4, h5⟩ => ⟨_, h4, ⟨rfl, joinN_lt hs e2⟩, h5⟩
            · cases hh
          · cases hh
        · cases hh
      · cases hh
    · cases hh
  refine FnOK.of fun l H r H' hh => ?_
  unfold joinF at hh
  split at hh
  · rename_i g off n sh sep
    obtain ⟨h1, h2⟩ := core H g off n sep r H' hh
    refine ⟨h1, fun ρ w vs hr hv => ?_⟩
    obtain ⟨v, ws, rfl, ⟨b, c0, h3, h4, rfl⟩, u, ws', rfl, ⟨rfl, hs⟩, hn⟩ := hv
    simp only [VRL] at hn
    subst hn
    exact h2 ρ w b c0 _ hr h3 (by omega) hs
  · rename_i g off n cap sep
    split at hh
    · rename_i hcap
      obtain ⟨h1, h2⟩ := core H g off n sep r H' hh
      refine ⟨h1, fun ρ w vs hr hv => ?_⟩
      obtain ⟨v, ws, rfl, ⟨b, c0, h3, rfl⟩, u, ws', rfl, ⟨rfl, hs⟩, hn⟩ := hv
      simp only [VRL] at hn
      subst hn
      exact h2 ρ w b c0 cap hr h3 (Nat.le_of_ble_eq_true hcap) hs
    · cases hh
  · cases hh
end Go.Ev
noncomputable section
namespace Go.Ev
open Go Go.RowKit
def countN (b : Nat) : List Nat → Nat → Nat
  | [], n => n
  | x :: l, n => match Nat.beq x b with
    | true => countN b l (n + 1)
    | false => countN b l n
def countF (l : List AV) (H : AHeap) : Option (AV × AHeap) :=
  match l with
  | [.str s, .str [b]] => some (.int .i64 (Int.ofNat (countN b s 0)), H)
  | _ => none
theorem countN_eq (b : Nat) (hb : b < 256) : ∀ (l : List Nat) (n : Nat), (∀ x ∈ l, x < 256) → countN b l n = n + (l.map UInt8.ofNat).count (UInt8.ofNat b)
  | [], n, _ => by simp [countN]
  | x :: l, n, h => by
    unfold countN
    have hx := h x (by simp)
    have hl : ∀ y ∈ l, y < 256 := fun y hy => h y (by simp [hy])
    by_cases e : x = b
    · subst e
      rw [Nat.beq_refl]
      simp only [List.map_cons, List.count_cons_self]
      rw [countN_eq x hb l (n + 1) hl]
      omega
    · have h1 : Nat.beq x b = false := by
        cases hh : Nat.beq x b
        · rfl
        · exact absurd (Nat.eq_of_beq_eq_true hh) e
      have h2 : UInt8.ofNat x ≠ UInt8.ofNat b := fun he => e (ofNat_inj hx hb he)
      rw [h1]
      simp only [List.map_cons]
      rw [countN_eq b hb l n hl, List.count_cons_of_ne h2]
theorem FnOK.count {P : Program} {B : Bas} {f : Nat}
    (c : ∀ (s : ByteArray) (c : UInt8) (w : World), Calls P f #[.string s, .string ⟨#[c]⟩] w fun e w' => e = .returned (.int .i64 (Lib.countByte s.data.toList c)) ∧ w' = w) : FnOK P B f countF := by
  refine FnOK.of fun l H r H' hh => ?_
  unfold countF at hh
  split at hh
  · rename_i s b
    cases hh
    refine ⟨rfl, fun ρ w vs hr hv => ?_⟩
    obtain ⟨v, ws, rfl, ⟨rfl, hs⟩, u, ws', rfl, ⟨rfl, hm⟩, hn⟩ := hv
    simp only [VRL] at hn
    subst hn
    refine (c (bs s) (UInt8.ofNat b) w).mono fun e w' ⟨h3, h4⟩ => ?_
    subst h4
    refine ⟨_, h3, ?_, Below.refl _ _⟩
    rw [bs_list, countN_eq b (hm b (by simp)) s 0 hs]
    simp [VR, Lib.countByte]
  · cases hh
/-- Each byte of a text turned. -/
def mapF (g : Nat → Nat) (l : List AV) (H : AHeap) : Option (AV × AHeap) :=
  match l with
  | [.str s] => match Nat.ble s.length 140737488351232 with
    | true => some (.str (s.map g), H)
    | false => none
  | _ => none
theorem FnOK.map {P : Program} {B : Bas} {f : Nat} (g : Nat → Nat) (k : UInt8 → UInt8) (hk : ∀ x, x < 256 → g x < 256 ∧ k (UInt8.ofNat x) = UInt8.ofNat (g x))
    (c : ∀ (s : ByteArray) (w : World), s.size ≤ 140737488351232 → Calls P f #[.string s] w fun e w' => e = .returned (.string ⟨(s.data.toList.map k).toArray⟩) ∧ Below w.heap.size w w') : FnOK P B f (mapF g) := by
  refine FnOK.of fun l H r H' hh => ?_
  unfold mapF at hh
  split at hh
  · rename_i s
    split at hh
    · rename_i hl
      cases hh
      refine ⟨rfl, fun ρ w vs hr hv => ?_⟩
      obtain ⟨v, ws, rfl, ⟨rfl, hs⟩, hn⟩ := hv
      simp only [VRL] at hn
      subst hn
      refine (c (bs s) w (by rw [bs_size]; exact Nat.le_of_ble_eq_true hl)).mono fun e w' ⟨h3, h4⟩ => ⟨_, h3, ⟨?_, fun x hx => ?_⟩, h4⟩
      · rw [bs_list, List.map_map]
        have : s.map (k ∘ UInt8.ofNat) = (s.map g).map UInt8.ofNat := by
          rw [List.map_map]
          exact List.map_congr_left fun x hx => (hk x (hs x hx)).2
        rw [this]
        rfl
      · obtain ⟨y, hy, rfl⟩ := List.mem_map.1 hx
        exact (hk y (hs y hy)).1
    · cases hh
  · cases hh
/-- A to Z as a to z. -/
def lowN (x : Nat) : Nat := match Nat.ble 65 x, Nat.ble x 90 with
  | true, true => x + 32
  | _, _ => x
end Go.Ev
