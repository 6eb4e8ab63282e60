/- A region that draws its order: whatever order is drawn, what comes out is what was reckoned. -/
import Derived.Test.YtjlaiimcbkbciaaDoorEv23
noncomputable section
namespace Go.Ev
open Go
/-- What has become of memory since the region began. -/
structure PF (ρ0 : Ren) (H0 : AHeap) (w0 : World) (K : Nat) (ρ : Ren) (g : Nat → Option AObj) (w : World) : Prop where
  le : ρ0.le ρ
  new : ∀ m, ρ0 m = none → ρ m ≠ none → H0.next ≤ m ∧ m < K
  keep : ∀ m, m < H0.lo → g m = H0.objs.get m
  os : w.os = w0.os
  tape : w.tape = w0.tape
  output : w.output = w0.output
  size : w0.heap.size ≤ w.heap.size
  frame : ∀ k, k < w0.heap.size → ¬ Told ρ0 H0 k → w.heap[k]? = w0.heap[k]?
  told : ∀ b, ToldF ρ g b → w0.heap.size ≤ b ∨ Told ρ0 H0 b
theorem PF.step {ρ0 ρ ρ' : Ren} {H0 : AHeap} {w0 w w' : World} {K k k' : Nat} {g g' : Nat → Option AObj} (h : PF ρ0 H0 w0 K ρ g w) (hle : ρ.le ρ') (hnew : ∀ m, ρ m = none → ρ' m ≠ none → k ≤ m ∧ m < k') (hk : H0.next ≤ k) (hk' : k' ≤ K)
    (hkeep : ∀ m, m < H0.lo → g' m = g m) (hos : w'.os = w.os) (ht : w'.tape = w.tape) (ho : w'.output = w.output) (hs : w.heap.size ≤ w'.heap.size) (hf : ∀ b, b < w.heap.size → ¬ ToldF ρ g b → w'.heap[b]? = w.heap[b]?)
    (htold : ∀ b, ToldF ρ' g' b → w.heap.size ≤ b ∨ ToldF ρ g b) : PF ρ0 H0 w0 K ρ' g' w' := by
  refine ⟨Ren.le_trans h.le hle, fun m a b => ?_, fun m hm => (hkeep m hm).trans (h.keep m hm), hos.trans h.os, ht.trans h.tape, ho.trans h.output, Nat.le_trans h.size hs, fun b hb hn => ?_, fun b hb => ?_⟩
  · cases hr : ρ m with
    | none => have := hnew m hr b; omega
    | some x => exact h.new m a (by simp [hr])
  · rw [hf b (Nat.lt_of_lt_of_le hb h.size) (fun t => ?_), h.frame b hb hn]
    rcases h.told b t with c | c
    · omega
    · exact hn c
  · rcases htold b hb with c | c
    · exact .inl (Nat.le_trans h.size c)
    · exact h.told b c
section
variable {E : Env} {call : CallEv} {ops : Array Oper} {n : Nat} {B : Bas} {A0 : Tr AV} {H0 : AHeap} {st : Nat → RS} {rr : Nat → RR}
/-- The value of temporary t where the operations S have been carried out. -/
def VT (ops : Array Oper) (rr : Nat → RR) (A0 : Tr AV) (S : Nat → Prop) (t : Nat) (x : AV) : Prop :=
  (∃ j o, S j ∧ ops[j]? = some o ∧ o.dst = some t ∧ x = (rr j).r) ∨ ((∀ j o, S j → ops[j]? = some o → o.dst ≠ some t) ∧ x = tget A0 t)
/-- What is told of memory where the operations S have been carried out, the last barrier among them just ahead of p. -/
structure GS (ops : Array Oper) (st : Nat → RS) (rr : Nat → RR) (p : Nat) (S : Nat → Prop) (g : Nat → Option AObj) : Prop where
  own : ∀ j m, S j → p ≤ j → j < ops.size → (rr j).kind = 1 → (rr j).k ≤ m → m < (rr j).k' → g m = (rr j).out.objs.get m
  rest : ∀ m, (¬ ∃ j, S j ∧ p ≤ j ∧ j < ops.size ∧ (rr j).kind = 1 ∧ (rr j).k ≤ m ∧ m < (rr j).k') → g m = (st p).base.objs.get m
structure Inv (P : Program) (B : Bas) (ops : Array Oper) (st : Nat → RS) (rr : Nat → RR) (A0 : Tr AV) (H0 : AHeap) (ρ0 : Ren) (w0 : World) (a0 : Act) (S : Nat → Prop) (a : Act) (w : World) (ρ : Ren) (p : Nat) (g : Nat → Option AObj) : Prop where
  ple : p ≤ ops.size
  phase : p = 0 ∨ (0 < p ∧ (rr (p - 1)).kind = 2 ∧ S (p - 1))
  fst : (st p).p = p
  all : ∀ j, j < p → (rr j).kind ≠ 0 → S j
  later : ∀ j, p ≤ j → j < ops.size → (rr j).kind = 2 → ¬ S j
  gs : GS ops st rr p S g
  hr : HRF P B ρ g (st ops.size).next H0.lo w
  baseOld : ∀ m o, (st p).base.objs.get m = some o → m < (st p).next ∧ ∀ c, o.cls = some c → c < (st p).next
  outOld : ∀ j, S j → p ≤ j → j < ops.size → (rr j).kind = 1 → ∀ m o c, (rr j).out.objs.get m = some o → o.cls = some c → c < (rr j).k'
  fresh : ∀ j, j < ops.size → ¬ S j → ∀ m, (rr j).k ≤ m → m < (rr j).k' → ρ m = none
  pf : PF ρ0 H0 w0 (st ops.size).next ρ g w
  tr : ∀ t x, VT ops rr A0 S t x → VR ρ x (a.tmps.getD t undef)
  size : a.tmps.size = a0.tmps.size
  defers : a.defers = a0.defers
  closed : ∀ i o j, S i → ops[i]? = some o → j < ops.size → dep ops i j = true → S j
theorem Inv.segStart (R : Run E call ops n H0.lo A0 H0 st rr) {P : Program} {ρ0 : Ren} {w0 w : World} {a0 a : Act} {S : Nat → Prop} {ρ : Ren} {p : Nat} {g : Nat → Option AObj} (I : Inv P B ops st rr A0 H0 ρ0 w0 a0 S a w ρ p g)
    {i : Nat} (hi : i ≤ ops.size) (hp : p ≤ i) (hbar : ∀ e, e < i → (rr e).kind = 2 → S e) : (st i).p = p := by
  have s := R.seg i hi
  rcases Nat.lt_trichotomy (st i).p p with c | c | c
  · rcases I.phase with h | ⟨h1, h2, _⟩
    · omega
    · exact absurd h2 (s.no2 (p - 1) (by omega) (by omega))
  · exact c
  · rcases s.pp with h | ⟨h1, h2⟩
    · omega
    · have := s.ple
      exact absurd (hbar ((st i).p - 1) (by omega) h2) (I.later ((st i).p - 1) (by omega) (by omega) h2)
theorem kinds (R : Run E call ops n H0.lo A0 H0 st rr) {i : Nat} {o : Oper} (ho : ops[i]? = some o) (hk : (rr i).kind ≠ 0) : heapy o.op = true ∧ ((rr i).kind = 2 → barrier ops i = true) := by
  obtain ⟨_, _, _, _, h5⟩ := stepR_cases (R.step i o ho)
  rcases h5 with ⟨k0, _⟩ | ⟨k0, k1, _⟩ | ⟨k0, k1, k2, _⟩
  · exact absurd k0 hk
  · exact ⟨k1, fun h => by omega⟩
  · exact ⟨k1, fun _ => k2⟩
end
end Go.Ev
