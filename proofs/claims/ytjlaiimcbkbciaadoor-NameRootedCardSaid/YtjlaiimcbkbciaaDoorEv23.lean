/- A region that draws its order: the steps, and what holds of them all. -/
import Derived.Test.YtjlaiimcbkbciaaDoorEv22
noncomputable section
namespace Go.Ev
open Go
section
variable {E : Env} {call : CallEv} {ops : Array Oper} {n lo0 : Nat}
theorem stepR_cases {i : Nat} {o : Oper} {S S' : RS} {x : RR} (h : stepR E call ops n lo0 i o S = some (x, S')) :
    aPut S.A n o.dst x.r = some S'.A ∧ x.k = S.next ∧ x.k' = S'.next ∧ x.k ≤ x.k' ∧
    ((x.kind = 0 ∧ S'.p = S.p ∧ S'.base = S.base ∧ S'.segs = S.segs ∧ S'.next = S.next ∧
        ((aWanted ops o S.A = false ∧ x.r = undefA) ∨ (aWanted ops o S.A = true ∧ constsOK o.op.operands.toList = true ∧ pureOp E.P o.op (aEval S.A) = some x.r))) ∨
     (x.kind = 1 ∧ heapy o.op = true ∧ S'.p = S.p ∧ S'.base = S.base ∧ S'.segs = (i, x) :: S.segs ∧ x.out.next = x.k' ∧ aWanted ops o S.A = true ∧ constsOK o.op.operands.toList = true ∧
        opStep E call o.op (aEval S.A) ⟨mergeAll S.base.objs (depsOf ((masks ops).get i) S.segs), S.next, S.next⟩ = some (x.r, x.out) ∧ cleanRange x.out.objs x.k x.k (x.k' - x.k) = true) ∨
     (x.kind = 2 ∧ heapy o.op = true ∧ barrier ops i = true ∧ S'.p = i + 1 ∧ S'.base = x.out ∧ S'.segs = [] ∧ x.out.next = x.k' ∧ aWanted ops o S.A = true ∧ constsOK o.op.operands.toList = true ∧
        opStep E call o.op (aEval S.A) ⟨mergeAll S.base.objs S.segs, S.next, lo0⟩ = some (x.r, x.out))) := by
  unfold stepR at h
  split at h
  · rename_i hw
    split at h
    · cases h
    · rename_i A1 hp
      cases h
      exact ⟨hp, rfl, rfl, Nat.le_refl _, .inl ⟨rfl, rfl, rfl, rfl, rfl, .inl ⟨hw, rfl⟩⟩⟩
  · rename_i hw
    split at h
    · cases h
    · rename_i hc
      split at h
      · split at h
        · cases h
        · rename_i r hr
          split at h
          · cases h
          · rename_i A1 hp
            cases h
            exact ⟨hp, rfl, rfl, Nat.le_refl _, .inl ⟨rfl, rfl, rfl, rfl, rfl, .inr ⟨hw, hc, hr⟩⟩⟩
      · rename_i hh
        split at h
        · rename_i hb
          split at h
          · cases h
          · rename_i r H1 hs
            split at h
            · cases h
            · rename_i A1 hp
              cases h
              exact ⟨hp, rfl, rfl, opStep_next hs, .inr (.inr ⟨rfl, hh, hb, rfl, rfl, rfl, rfl, hw, hc, hs⟩)⟩
        · split at h
          · cases h
          · rename_i r H1 hs
            split at h
            · cases h
            · rename_i hcl
              split at h
              · cases h
              · rename_i A1 hp
                cases h
                exact ⟨hp, rfl, rfl, opStep_next hs, .inr (.inl ⟨rfl, hh, rfl, rfl, rfl, rfl, hw, hc, hs, hcl⟩)⟩
theorem goR_seq : ∀ (l : List Oper) (i : Nat) (S F : RS), goR E call ops n lo0 l i S = some F →
    ∃ (st : Nat → RS) (rr : Nat → RR), st i = S ∧ (∀ j o, l[j]? = some o → stepR E call ops n lo0 (i + j) o (st (i + j)) = some (rr (i + j), st (i + j + 1))) ∧ st (i + l.length) = F
  | [], i, S, F, h => by
    simp [goR] at h; subst h
    exact ⟨fun _ => S, fun _ => ⟨0, undefA, 0, 0, S.base⟩, rfl, by simp, rfl⟩
  | o :: l, i, S, F, h => by
    unfold goR at h
    split at h
    · cases h
    · rename_i x S1 hs
      obtain ⟨st, rr, h1, h2, h3⟩ := goR_seq l (i + 1) S1 F h
      refine ⟨fun m => if m = i then S else st m, fun m => if m = i then x else rr m, by simp, fun j q hj => ?_, ?_⟩
      · cases j with
        | zero =>
          simp at hj; subst hj
          simp [h1, hs]
        | succ j =>
          simp at hj
          have := h2 j q hj
          rw [show i + (j + 1) = i + 1 + j from by omega]
          simp only [show ¬ (i + 1 + j = i) from by omega, show ¬ (i + 1 + j + 1 = i) from by omega, if_false]
          exact this
      · have hne : ¬ (i + (o :: l).length = i) := by simp
        show (if i + (o :: l).length = i then S else st (i + (o :: l).length)) = F
        rw [if_neg hne, ← h3]
        congr 1
        simp only [List.length_cons]
        omega
/-- The steps of a region, one behind the other. -/
structure Run (E : Env) (call : CallEv) (ops : Array Oper) (n lo0 : Nat) (A0 : Tr AV) (H0 : AHeap) (st : Nat → RS) (rr : Nat → RR) : Prop where
  start : st 0 = ⟨A0, 0, H0, [], H0.next⟩
  step : ∀ i o, ops[i]? = some o → stepR E call ops n lo0 i o (st i) = some (rr i, st (i + 1))
variable {A0 : Tr AV} {H0 : AHeap} {st : Nat → RS} {rr : Nat → RR}
theorem lt_of {i : Nat} {o : Oper} (h : ops[i]? = some o) : i < ops.size := (Array.getElem?_eq_some_iff.1 h).1
theorem some_of {i : Nat} (h : i < ops.size) : ∃ o, ops[i]? = some o := ⟨ops[i], Array.getElem?_eq_getElem h⟩
/-- What holds of the state ahead of operation i. -/
structure Seg (A0 : Tr AV) (H0 : AHeap) (st : Nat → RS) (rr : Nat → RR) (ops : Array Oper) (i : Nat) : Prop where
  ple : (st i).p ≤ i
  no2 : ∀ j, (st i).p ≤ j → j < i → (rr j).kind ≠ 2
  base : (st i).base = (st (st i).p).base
  pp : (st i).p = 0 ∨ (0 < (st i).p ∧ (rr ((st i).p - 1)).kind = 2)
  segs : ∀ j x, (j, x) ∈ (st i).segs ↔ (st i).p ≤ j ∧ j < i ∧ (rr j).kind = 1 ∧ x = rr j
  mono : ∀ j, j ≤ i → (st j).next ≤ (st i).next
  rks : ∀ j, j < i → (rr j).k = (st j).next ∧ (rr j).k' = (st (j + 1)).next
  tmps : ∀ t, (∃ j o, j < i ∧ ops[j]? = some o ∧ o.dst = some t ∧ tget (st i).A t = (rr j).r) ∨ ((∀ j o, j < i → ops[j]? = some o → o.dst ≠ some t) ∧ tget (st i).A t = tget A0 t)
theorem Run.seg (R : Run E call ops n lo0 A0 H0 st rr) : ∀ i, i ≤ ops.size → Seg A0 H0 st rr ops i
  | 0, _ => by
    have h0 := R.start
    refine ⟨by rw [h0]; exact Nat.le_refl _, fun j _ hj => absurd hj (Nat.not_lt_zero _), by rw [show (st 0).p = 0 from by rw [h0]], .inl (by rw [h0]), fun j x => ?_, fun j hj => ?_, fun j hj => absurd hj (Nat.not_lt_zero _), fun t => .inr ⟨fun j o hj => absurd hj (Nat.not_lt_zero _), by rw [h0]⟩⟩
    · rw [h0]; simp
    · have : j = 0 := by omega
      subst this; exact Nat.le_refl _
  | i + 1, hi => by
    have ih := R.seg i (by omega)
    obtain ⟨o, ho⟩ := some_of (ops := ops) (i := i) (by omega)
    obtain ⟨h1, h2, h3, h4, h5⟩ := stepR_cases (R.step i o ho)
    have hmono : ∀ j, j ≤ i + 1 → (st j).next ≤ (st (i + 1)).next := fun j hj => by
      rcases Nat.lt_or_ge j (i + 1) with c | c
      · have := ih.mono j (by omega); omega
      · have : j = i + 1 := by omega
        subst this; exact Nat.le_refl _
    have hrks : ∀ j, j < i + 1 → (rr j).k = (st j).next ∧ (rr j).k' = (st (j + 1)).next := fun j hj => by
      rcases Nat.lt_or_ge j i with c | c
      · exact ih.rks j c
      · have : j = i := by omega
        subst this; exact ⟨h2, h3⟩
    have htmps : ∀ t, (∃ j o, j < i + 1 ∧ ops[j]? = some o ∧ o.dst = some t ∧ tget (st (i + 1)).A t = (rr j).r) ∨ ((∀ j o, j < i + 1 → ops[j]? = some o → o.dst ≠ some t) ∧ tget (st (i + 1)).A t = tget A0 t) := by
      intro t
      by_cases hd : o.dst = some t
      · refine .inl ⟨i, o, by omega, ho, hd, ?_⟩
        rw [hd] at h1
        rw [aPut_tget h1, if_pos rfl]
      · have hsame : tget (st (i + 1)).A t = tget (st i).A t := by
          cases hdd : o.dst with
          | none => rw [hdd] at h1; simp [aPut] at h1; rw [← h1]
          | some d =>
            rw [hdd] at h1
            rw [aPut_tget h1, if_neg]
            rintro rfl
            exact hd hdd
        rcases ih.tmps t with ⟨j, q, q1, q2, q3, q4⟩ | ⟨q1, q2⟩
        · exact .inl ⟨j, q, by omega, q2, q3, hsame.trans q4⟩
        · refine .inr ⟨fun j q hj hq => ?_, hsame.trans q2⟩
          rcases Nat.lt_or_ge j i with c | c
          · exact q1 j q c hq
          · have : j = i := by omega
            subst this
            rw [ho] at hq
            obtain rfl := Option.some.inj hq
            exact hd
    rcases h5 with ⟨k0, k1, k2, k3, k4, _⟩ | ⟨k0, _, k1, k2, k3, _⟩ | ⟨k0, _, _, k1, k2, k3, _⟩
    · refine ⟨by rw [k1]; have := ih.ple; omega, fun j a b => ?_, by rw [k1, k2]; exact ih.base, by rw [k1]; exact ih.pp, fun j x => ?_, hmono, hrks, htmps⟩
      · rcases Nat.lt_or_ge j i with c | c
        · exact ih.no2 j (by rw [← k1]; exact a) c
        · have : j = i := by omega
          subst this; omega
      · rw [k3, k1, ih.segs]
        constructor
        · rintro ⟨a, b, c⟩; exact ⟨a, by omega, c⟩
        · rintro ⟨a, b, c, d⟩
          refine ⟨a, ?_, c, d⟩
          rcases Nat.lt_or_ge j i with e | e
          · exact e
          · have : j = i := by omega
            subst this; omega
    · refine ⟨by rw [k1]; have := ih.ple; omega, fun j a b => ?_, by rw [k1, k2]; exact ih.base, by rw [k1]; exact ih.pp, fun j x => ?_, hmono, hrks, htmps⟩
      · rcases Nat.lt_or_ge j i with c | c
        · exact ih.no2 j (by rw [← k1]; exact a) c
        · have : j = i := by omega
          subst this; omega
      · rw [k3, k1, List.mem_cons, ih.segs]
        constructor
        · rintro (a | ⟨a, b, c⟩)
          · obtain ⟨rfl, rfl⟩ := Prod.mk.inj a
            exact ⟨ih.ple, by omega, k0, rfl⟩
          · exact ⟨a, by omega, c⟩
        · rintro ⟨a, b, c, d⟩
          rcases Nat.lt_or_ge j i with e | e
          · exact .inr ⟨a, e, c, d⟩
          · have : j = i := by omega
            subst this; subst d; exact .inl rfl
    · refine ⟨by rw [k1]; omega, fun j a b => by omega, by rw [k1], .inr ⟨by omega, by rw [k1]; simpa using k0⟩, fun j x => ?_, hmono, hrks, htmps⟩
      rw [k3, k1]
      simp
      omega
/-- Two ranges of names share none. -/
theorem Run.apart (R : Run E call ops n lo0 A0 H0 st rr) {i j m : Nat} (hi : i < ops.size) (hj : j < ops.size) (h1 : (rr i).k ≤ m) (h2 : m < (rr i).k') (h3 : (rr j).k ≤ m) (h4 : m < (rr j).k') : i = j := by
  have s := R.seg ops.size (Nat.le_refl _)
  obtain ⟨a1, a2⟩ := s.rks i hi
  obtain ⟨b1, b2⟩ := s.rks j hj
  rcases Nat.lt_trichotomy i j with c | c | c
  · have := (R.seg j (by omega)).mono (i + 1) (by omega); omega
  · exact c
  · have := (R.seg i (by omega)).mono (j + 1) (by omega); omega
theorem mergeAll_get (t : Tr AObj) (m : Nat) : ∀ (L : List (Nat × RR)), (∀ y ∈ L, y.2.k' < 4000000000000000000 ∧ y.2.k ≤ y.2.k') →
    (∃ y ∈ L, y.2.k ≤ m ∧ m < y.2.k' ∧ (mergeAll t L).get m = y.2.out.objs.get m) ∨ ((∀ y ∈ L, ¬ (y.2.k ≤ m ∧ m < y.2.k' ∧ (y.2.out.objs.get m).isSome)) ∧ (mergeAll t L).get m = t.get m)
  | [], _ => .inr ⟨by simp, rfl⟩
  | (j, x) :: L, h => by
    have ih := mergeAll_get t m L fun y hy => h y (by simp [hy])
    obtain ⟨hx, hx2⟩ := h (j, x) (by simp)
    unfold mergeAll
    have hb : Nat.blt x.k' 4000000000000000000 = true := Nat.ble_eq_true_of_le hx
    simp only [hb]
    rw [mergeRange_get _ _ _ _ _ (by simp only at hx hx2; omega)]
    by_cases c : x.k ≤ m ∧ m < x.k + (x.k' - x.k) ∧ (x.out.objs.get m).isSome
    · rw [if_pos c]
      exact .inl ⟨(j, x), by simp, c.1, by have h6 := c.2.1; simp only at hx2 h6 ⊢; omega, rfl⟩
    · rw [if_neg c]
      rcases ih with ⟨y, y1, y2⟩ | ⟨y1, y2⟩
      · exact .inl ⟨y, by simp [y1], y2⟩
      · refine .inr ⟨fun y hy => ?_, y2⟩
        rcases List.mem_cons.1 hy with e | e
        · subst e; intro ⟨a, b, d⟩; exact c ⟨a, by simp only at hx2 a b ⊢; omega, d⟩
        · exact y1 y e
theorem depsOf_mem (m : Option Nat) : ∀ (l : List (Nat × RR)) (y : Nat × RR), y ∈ depsOf m l ↔ y ∈ l ∧ (match m with | some m => Nat.testBit m y.1 | none => false) = true
  | [], y => by simp [depsOf]
  | (j, x) :: l, y => by
    unfold depsOf
    split
    · rename_i h
      rw [List.mem_cons, List.mem_cons, depsOf_mem m l]
      constructor
      · rintro (e | e)
        · subst e; exact ⟨.inl rfl, h⟩
        · exact ⟨.inr e.1, e.2⟩
      · rintro ⟨e | e, f⟩
        · exact .inl e
        · exact .inr ⟨e, f⟩
    · rename_i h
      rw [List.mem_cons, depsOf_mem m l]
      constructor
      · rintro e; exact ⟨.inr e.1, e.2⟩
      · rintro ⟨e | e, f⟩
        · subst e; exact absurd (f.symm.trans h) (by simp)
        · exact ⟨e, f⟩
theorem cleanRange_spec (t : Tr AObj) (k : Nat) : ∀ (c n : Nat), cleanRange t k n c = true → ∀ m o x, n ≤ m → m < n + c → t.get m = some o → o.cls = some x → k ≤ x
  | 0, n, _, m, o, x, h1, h2, _, _ => by omega
  | c + 1, n, h, m, o, x, h1, h2, h3, h4 => by
    unfold cleanRange at h
    by_cases e : m = n
    · subst e
      rw [h3] at h
      simp only [h4] at h
      split at h
      · rename_i hb; exact Nat.le_of_ble_eq_true hb
      · cases h
    · have hrest : cleanRange t k (n + 1) c = true := by
        split at h
        · split at h
          · exact h
          · split at h
            · exact h
            · cases h
        · exact h
      exact cleanRange_spec t k c (n + 1) hrest m o x (by omega) (by omega) h3 h4
end
end Go.Ev
