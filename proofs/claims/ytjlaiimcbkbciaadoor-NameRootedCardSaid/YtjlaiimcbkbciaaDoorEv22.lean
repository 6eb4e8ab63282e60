/- A region that draws its order: reckoned in the text's order; what each operation may lean on is told apart. -/
import Derived.Test.YtjlaiimcbkbciaaDoorEv21
noncomputable section
namespace Go.Ev
open Go
/-- What may look at memory. -/
def heapy : Op → Bool
  | .move _ | .assign _ | .pick .. | .nilCheck _ | .binOp .. | .unOp .. | .makeInterface .. | .makeFunc .. | .fieldAddr .. | .field .. | .indexAddr .. | .index .. | .slice .. | .extract .. | .build .. | .typeAssert .. => false
  | _ => true
def edgeMask (ms : Tr Nat) : List Edge → Nat → Nat
  | [], m => m
  | e :: l, m => match Region.binds .any e with
    | true => edgeMask ms l (m ||| ((2 ^ e.on) ||| (match ms.get e.on with | some x => x | none => 0)))
    | false => edgeMask ms l m
def masksFrom : List Oper → Nat → Tr Nat → Tr Nat
  | [], _, ms => ms
  | o :: l, i, ms => masksFrom l (i + 1) (ms.set i (edgeMask ms o.after.toList 0))
/-- All that stand ahead of each, as bits. -/
def masks (ops : Array Oper) : Tr Nat := masksFrom ops.toList 0 .leaf
def dep (ops : Array Oper) (i j : Nat) : Bool := match (masks ops).get i with | some m => Nat.testBit m j | none => false
def upto (n : Nat) (f : Nat → Bool) : Bool := (List.range n).all f
/-- An operation of which all others that may look at memory stand ahead or behind. -/
def barrier (ops : Array Oper) (i : Nat) : Bool :=
  upto ops.size fun j => match ops[j]? with
    | none => true
    | some o => Nat.beq i j || !heapy o.op || (match Nat.blt j i with | true => dep ops i j | false => dep ops j i)
def looks (ops : Array Oper) (o : Oper) : List Tmp :=
  (o.op.operands.toList.filterMap fun | .tmp t => some t | _ => none) ++ (match o.guard with
    | none => []
    | some (j, _) => match (ops[j]?).bind (·.dst) with | some d => [d] | none => [])
/-- The region is of a form that can be reckoned so. -/
def fine (ops : Array Oper) : Bool :=
  Nat.ble ops.size 1000000 &&
  (upto ops.size fun i => match ops[i]? with
    | none => true
    | some o => (o.after.toList.all fun e => !Region.binds .any e || (Nat.blt e.on i && dep ops i e.on)) &&
      (upto ops.size fun j => !dep ops i j || (Nat.blt j i && (o.after.toList.any fun e => Region.binds .any e && (Nat.beq j e.on || dep ops e.on j)))) &&
      (upto ops.size fun j => match ops[j]? with
        | none => true
        | some q => Nat.beq i j || ((match o.dst, q.dst with | some d, some d' => !Nat.beq d d' | _, _ => true) &&
            (match q.dst with | none => true | some d => !natIn d (looks ops o) || (match Nat.blt j i with | true => dep ops i j | false => dep ops j i)))))
structure RR where
  kind : Nat
  r : AV
  k : Nat
  k' : Nat
  out : AHeap
structure RS where
  A : Tr AV
  p : Nat
  base : AHeap
  segs : List (Nat × RR)
  next : Nat
def mergeRange (t s : Tr AObj) : Nat → Nat → Tr AObj
  | _, 0 => t
  | lo, n + 1 => match s.get lo with
    | some o => mergeRange (t.set lo o) s (lo + 1) n
    | none => mergeRange t s (lo + 1) n
theorem mergeRange_get (s : Tr AObj) : ∀ (n lo : Nat) (t : Tr AObj) (m : Nat), lo + n < 2 ^ 63 → (mergeRange t s lo n).get m = if lo ≤ m ∧ m < lo + n ∧ (s.get m).isSome then s.get m else t.get m
  | 0, lo, t, m, _ => by
    unfold mergeRange
    rw [if_neg (by omega)]
  | n + 1, lo, t, m, h => by
    unfold mergeRange
    split
    · rename_i o ho
      rw [mergeRange_get s n (lo + 1) _ m (by omega), Tr.set_get _ _ _ _ (by omega)]
      by_cases c : m = lo
      · subst c
        rw [if_neg (by omega), if_pos rfl, if_pos ⟨Nat.le_refl _, by omega, by simp [ho]⟩, ho]
      · rw [if_neg c]
        by_cases c2 : lo + 1 ≤ m ∧ m < lo + 1 + n ∧ (s.get m).isSome
        · rw [if_pos c2, if_pos ⟨by omega, by omega, c2.2.2⟩]
        · rw [if_neg c2, if_neg (fun c3 => c2 ⟨by omega, by omega, c3.2.2⟩)]
    · rename_i ho
      rw [mergeRange_get s n (lo + 1) _ m (by omega)]
      by_cases c : m = lo
      · subst c
        rw [if_neg (by omega), if_neg (by simp [ho])]
      · by_cases c2 : lo + 1 ≤ m ∧ m < lo + 1 + n ∧ (s.get m).isSome
        · rw [if_pos c2, if_pos ⟨by omega, by omega, c2.2.2⟩]
        · rw [if_neg c2, if_neg (fun c3 => c2 ⟨by omega, by omega, c3.2.2⟩)]
/-- The parts that were made apart, laid together. -/
def mergeAll (t : Tr AObj) : List (Nat × RR) → Tr AObj
  | [] => t
  | (_, x) :: l => match Nat.blt x.k' 4000000000000000000 with
    | true => mergeRange (mergeAll t l) x.out.objs x.k (x.k' - x.k)
    | false => mergeAll t l
def depsOf (m : Option Nat) (l : List (Nat × RR)) : List (Nat × RR) :=
  match l with
  | [] => []
  | (j, x) :: l => match (match m with | some m => Nat.testBit m j | none => false) with
    | true => (j, x) :: depsOf m l
    | false => depsOf m l
/-- New rows lean on new ones alone. -/
def cleanRange (t : Tr AObj) (k : Nat) : Nat → Nat → Bool
  | _, 0 => true
  | n, c + 1 => match t.get n with
    | some o => match o.cls with
      | none => cleanRange t k (n + 1) c
      | some x => match Nat.ble k x with
        | true => cleanRange t k (n + 1) c
        | false => false
    | none => cleanRange t k (n + 1) c
def stepR (E : Env) (call : CallEv) (ops : Array Oper) (n lo0 i : Nat) (o : Oper) (S : RS) : Option (RR × RS) :=
  match aWanted ops o S.A with
  | false => match aPut S.A n o.dst undefA with
    | none => none
    | some A1 => some (⟨0, undefA, S.next, S.next, S.base⟩, { S with A := A1 })
  | true => match constsOK o.op.operands.toList with
    | false => none
    | true => match heapy o.op with
      | false => match pureOp E.P o.op (aEval S.A) with
        | none => none
        | some r => match aPut S.A n o.dst r with
          | none => none
          | some A1 => some (⟨0, r, S.next, S.next, S.base⟩, { S with A := A1 })
      | true => match barrier ops i with
        | true => match opStep E call o.op (aEval S.A) ⟨mergeAll S.base.objs S.segs, S.next, lo0⟩ with
          | none => none
          | some (r, H1) => match aPut S.A n o.dst r with
            | none => none
            | some A1 => some (⟨2, r, S.next, H1.next, H1⟩, ⟨A1, i + 1, H1, [], H1.next⟩)
        | false => match opStep E call o.op (aEval S.A) ⟨mergeAll S.base.objs (depsOf ((masks ops).get i) S.segs), S.next, S.next⟩ with
          | none => none
          | some (r, H1) => match cleanRange H1.objs S.next S.next (H1.next - S.next) with
            | false => none
            | true => match aPut S.A n o.dst r with
              | none => none
              | some A1 => some (⟨1, r, S.next, H1.next, H1⟩, ⟨A1, S.p, S.base, (i, ⟨1, r, S.next, H1.next, H1⟩) :: S.segs, H1.next⟩)
def goR (E : Env) (call : CallEv) (ops : Array Oper) (n lo0 : Nat) : List Oper → Nat → RS → Option RS
  | [], _, S => some S
  | o :: l, i, S => match stepR E call ops n lo0 i o S with
    | none => none
    | some (_, S1) => goR E call ops n lo0 l (i + 1) S1
def aDrawn (E : Env) (call : CallEv) (ops : Array Oper) (n : Nat) (A : Tr AV) (H : AHeap) : Option (Tr AV × AHeap) :=
  match fine ops with
  | false => none
  | true => match goR E call ops n H.lo ops.toList 0 ⟨A, 0, H, [], H.next⟩ with
    | none => none
    | some S => match Nat.blt S.next 4000000000000000000 with
      | true => some (S.A, ⟨mergeAll S.base.objs S.segs, S.next, H.lo⟩)
      | false => none

/-! ### What 'fine' gives -/
theorem upto_all {n : Nat} {f : Nat → Bool} (h : upto n f = true) {i : Nat} (hi : i < n) : f i = true := List.all_eq_true.1 h i (List.mem_range.2 hi)
structure Fine (ops : Array Oper) : Prop where
  small : ops.size ≤ 1000000
  edge : ∀ (i : Nat) (o : Oper), ops[i]? = some o → ∀ e ∈ o.after, Region.binds .any e = true → e.on < i ∧ dep ops i e.on = true
  back : ∀ (i : Nat) (o : Oper) (j : Nat), ops[i]? = some o → j < ops.size → dep ops i j = true → j < i ∧ ∃ e ∈ o.after, Region.binds .any e = true ∧ (j = e.on ∨ dep ops e.on j = true)
  dst : ∀ (i j : Nat) (o q : Oper) (d : Tmp), ops[i]? = some o → ops[j]? = some q → i ≠ j → o.dst = some d → q.dst ≠ some d
  look : ∀ (i j : Nat) (o q : Oper) (d : Tmp), ops[i]? = some o → ops[j]? = some q → i ≠ j → q.dst = some d → d ∈ looks ops o → (j < i ∧ dep ops i j = true) ∨ (i < j ∧ dep ops j i = true)
theorem fine_spec {ops : Array Oper} (h : fine ops = true) : Fine ops := by
  obtain ⟨h1, h2⟩ := bAnd h
  have lt : ∀ {i : Nat} {o : Oper}, ops[i]? = some o → i < ops.size := fun e => (Array.getElem?_eq_some_iff.1 e).1
  have row : ∀ i o, ops[i]? = some o → _ := fun i o e => upto_all h2 (lt e)
  refine ⟨Nat.le_of_ble_eq_true h1, fun i o e ed hed hb => ?_, fun i o j e hj hd => ?_, fun i j o q d e1 e2 hne hd1 hd2 => ?_, fun i j o q d e1 e2 hne hd1 hd2 => ?_⟩
  · have r := row i o e
    simp only [e] at r
    obtain ⟨r, _⟩ := bAnd r
    obtain ⟨r, _⟩ := bAnd r
    have := List.all_eq_true.1 r ed (Array.mem_toList_iff.2 hed)
    rw [hb] at this
    simp only [Bool.not_true, Bool.false_or] at this
    obtain ⟨t1, t2⟩ := bAnd this
    exact ⟨blt_t t1, t2⟩
  · have r := row i o e
    simp only [e] at r
    obtain ⟨r, _⟩ := bAnd r
    obtain ⟨_, r⟩ := bAnd r
    have := upto_all r hj
    rw [hd] at this
    simp only [Bool.not_true, Bool.false_or] at this
    obtain ⟨t1, t2⟩ := bAnd this
    refine ⟨blt_t t1, ?_⟩
    obtain ⟨ed, q1, q2⟩ := List.any_eq_true.1 t2
    obtain ⟨q2, q3⟩ := bAnd q2
    exact ⟨ed, Array.mem_toList_iff.1 q1, q2, (bOrT q3).imp Nat.eq_of_beq_eq_true id⟩
  · have r := row i o e1
    simp only [e1] at r
    obtain ⟨_, r⟩ := bAnd r
    have := upto_all r (lt e2)
    simp only [e2] at this
    rcases bOrT this with t | t
    · exact hne (Nat.eq_of_beq_eq_true t)
    · obtain ⟨t, _⟩ := bAnd t
      simp only [hd1, hd2] at t
      rw [Nat.beq_refl] at t
      cases t
  · have r := row i o e1
    simp only [e1] at r
    obtain ⟨_, r⟩ := bAnd r
    have := upto_all r (lt e2)
    simp only [e2] at this
    rcases bOrT this with t | t
    · exact absurd (Nat.eq_of_beq_eq_true t) hne
    · obtain ⟨_, t⟩ := bAnd t
      simp only [hd1] at t
      have hin : natIn d (looks ops o) = true := by rw [natIn_eq]; simpa using hd2
      rw [hin] at t
      simp only [Bool.not_true, Bool.false_or] at t
      cases c : Nat.blt j i with
      | true => rw [c] at t; exact .inl ⟨blt_t c, t⟩
      | false => rw [c] at t; have := blt_f c; exact .inr ⟨by omega, t⟩
theorem barrier_spec {ops : Array Oper} {i : Nat} (h : barrier ops i = true) {j : Nat} {o : Oper} (hj : ops[j]? = some o) (hh : heapy o.op = true) (hne : j ≠ i) : (j < i ∧ dep ops i j = true) ∨ (i < j ∧ dep ops j i = true) := by
  have := upto_all h (Array.getElem?_eq_some_iff.1 hj).1
  simp only [hj] at this
  rcases bOrT this with t | t
  · rcases bOrT t with t | t
    · exact absurd (Nat.eq_of_beq_eq_true t).symm hne
    · rw [hh] at t; cases t
  · cases c : Nat.blt j i with
    | true => rw [c] at t; exact .inl ⟨blt_t c, t⟩
    | false => rw [c] at t; have := blt_f c; exact .inr ⟨by omega, t⟩
end Go.Ev
