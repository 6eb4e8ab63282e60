/- Temporaries; guards; a region in the text's order. -/
import Derived.Test.YtjlaiimcbkbciaaDoorEv19
noncomputable section
namespace Go.Ev
open Go
def tget (A : Tr AV) (t : Nat) : AV :=
  match A.get t with
  | some a => a
  | none => undefA
def aEval (A : Tr AV) : Operand → AV
  | .tmp t => tget A t
  | .const v => match AV.ofValue 100 v with
    | some a => a
    | none => undefA
  | .global g => .glob g 0
  | .func f => .func (.func f) [] []
def constsOK (l : List Operand) : Bool :=
  l.all fun x => match x with
    | .const v => (AV.ofValue 100 v).isSome
    | _ => true
def TR (ρ : Ren) (A : Tr AV) (a : Act) : Prop := ∀ t, VR ρ (tget A t) (a.tmps.getD t undef)
theorem TR.mono {ρ ρ' : Ren} {A : Tr AV} {a : Act} (h : TR ρ A a) (k : ρ.le ρ') : TR ρ' A a := fun t => (h t).mono k
/-- What an operand reads, where its temporary is as told. -/
theorem evalOne {ρ : Ren} {A : Tr AV} {a : Act} {x : Operand} (hc : ∀ v, x = .const v → (AV.ofValue 100 v).isSome = true) (ht : ∀ t, x = .tmp t → VR ρ (tget A t) (a.tmps.getD t undef)) : VR ρ (aEval A x) (a.eval x) := by
  cases x with
  | tmp t => exact ht t rfl
  | const v =>
    have := hc v rfl
    simp only [aEval, Act.eval]
    cases ho : AV.ofValue 100 v with
    | none => rw [ho] at this; cases this
    | some b => exact ofValue_sound ρ _ _ _ ho
  | global g => rfl
  | func f => exact ⟨[], [], rfl, rfl, rfl⟩
theorem constsOK_one {l : List Operand} (h : constsOK l = true) {x : Operand} (hx : x ∈ l) : ∀ v, x = .const v → (AV.ofValue 100 v).isSome = true := by
  intro v hv
  subst hv
  exact List.all_eq_true.1 h _ hx
theorem TR.eval {ρ : Ren} {A : Tr AV} {a : Act} (h : TR ρ A a) {l : List Operand} (hc : constsOK l = true) : ∀ x ∈ l, VR ρ (aEval A x) (a.eval x) :=
  fun x hx => evalOne (constsOK_one hc hx) fun t _ => h t
def aPut (A : Tr AV) (n : Nat) (dst : Option Tmp) (r : AV) : Option (Tr AV) :=
  match dst with
  | none => some A
  | some d => match Nat.blt d n && Nat.blt d 1000000000000 with
    | true => some (A.set d r)
    | false => none
theorem Act.put_size (a : Act) (dst : Option Tmp) (v : Value) : (a.put dst v).tmps.size = a.tmps.size := by
  cases dst <;> simp [Act.put]
theorem Act.put_defers' (a : Act) (dst : Option Tmp) (v : Value) : (a.put dst v).defers = a.defers := by
  cases dst <;> simp [Act.put]
theorem put_getD (a : Act) (d : Nat) (v : Value) (h : d < a.tmps.size) (t : Nat) : (a.put (some d) v).tmps.getD t undef = if t = d then v else a.tmps.getD t undef := by
  simp only [Act.put, Array.getD_eq_getD_getElem?, Array.getElem?_setIfInBounds]
  by_cases c : t = d
  · subst c; simp [h]
  · rw [if_neg (fun e => c e.symm), if_neg c]
theorem aPut_tget {A A' : Tr AV} {n d : Nat} {r : AV} (h : aPut A n (some d) r = some A') (t : Nat) : tget A' t = if t = d then r else tget A t := by
  unfold aPut at h
  simp only at h
  split at h
  · rename_i hb
    obtain ⟨_, b2⟩ := bAnd hb
    have b2 := blt_t b2
    cases h
    unfold tget
    rw [Tr.set_get _ _ _ _ (by omega)]
    by_cases c : t = d
    · rw [if_pos c, if_pos c]
    · rw [if_neg c, if_neg c]
  · cases h
theorem aPut_lt {A A' : Tr AV} {n d : Nat} {r : AV} (h : aPut A n (some d) r = some A') : d < n := by
  unfold aPut at h
  simp only at h
  split at h
  · rename_i hb
    exact blt_t (bAnd hb).1
  · cases h
theorem TR.put {ρ : Ren} {A A' : Tr AV} {a : Act} {n : Nat} {dst : Option Tmp} {r : AV} {v : Value} (h : TR ρ A a) (hp : aPut A n dst r = some A') (hn : a.tmps.size = n) (hv : VR ρ r v) : TR ρ A' (a.put dst v) := by
  cases dst with
  | none => simp [aPut] at hp; subst hp; exact h
  | some d =>
    intro t
    rw [aPut_tget hp, put_getD _ _ _ (by rw [hn]; exact aPut_lt hp)]
    by_cases c : t = d
    · rw [if_pos c, if_pos c]; exact hv
    · rw [if_neg c, if_neg c]; exact h t
def eqB : Bool → Bool → Bool
  | true, true | false, false => true
  | _, _ => false
def aWanted (ops : Array Oper) (o : Oper) (A : Tr AV) : Bool :=
  match o.guard with
  | none => true
  | some (j, want) => match (ops[j]?).bind (·.dst) with
    | none => false
    | some d => match tget A d with
      | .bool b => eqB b want
      | _ => false
theorem VR.ofBool {ρ : Ren} {a : AV} {b : Bool} (h : VR ρ a (.bool b)) : a = .bool b := by
  cases a <;> simp [VR] at h
  · exact congrArg _ h.symm
theorem aWanted_sound {ρ : Ren} {ops : Array Oper} {o : Oper} {A : Tr AV} {a : Act} (h : ∀ j w d, o.guard = some (j, w) → (ops[j]?).bind (·.dst) = some d → VR ρ (tget A d) (a.tmps.getD d undef)) :
    Region.wanted o (yielded ops a.tmps) = aWanted ops o A := by
  unfold Region.wanted aWanted
  cases hg : o.guard with
  | none => rfl
  | some g =>
    obtain ⟨j, want⟩ := g
    simp only
    unfold yielded
    cases hd : (ops[j]?).bind (·.dst) with
    | none => simp
    | some d =>
      have hv := h j want d hg hd
      simp only [Option.bind_some]
      have ht : a.tmps.getD d undef = (a.tmps[d]?).getD undef := by simp [Array.getD_eq_getD_getElem?]
      split
      · rename_i b hb
        rw [ht, hb] at hv
        have := VR.ofBool hv
        rw [this]
        cases b <;> cases want <;> rfl
      · rename_i hb
        split
        · rename_i b hq
          rw [hq] at hv
          simp only [VR] at hv
          rw [ht] at hv
          cases hx : a.tmps[d]? with
          | none => rw [hx] at hv; cases hv
          | some x => rw [hx] at hv; simp at hv; subst hv; exact absurd hx (hb b)
        · simp
/-- A region, one operation behind the other. -/
def aOps (E : Env) (call : CallEv) (ops : Array Oper) (n : Nat) : List Oper → Tr AV → AHeap → Option (Tr AV × AHeap)
  | [], A, H => some (A, H)
  | o :: rest, A, H => match aWanted ops o A with
    | false => match aPut A n o.dst undefA with
      | none => none
      | some A1 => aOps E call ops n rest A1 H
    | true => match constsOK o.op.operands.toList with
      | false => none
      | true => match opStep E call o.op (aEval A) H with
        | none => none
        | some (r, H1) => match aPut A n o.dst r with
          | none => none
          | some A1 => aOps E call ops n rest A1 H1
theorem aOps_next {E : Env} {call : CallEv} {ops : Array Oper} {n : Nat} : ∀ (l : List Oper) {A A' : Tr AV} {H H' : AHeap}, aOps E call ops n l A H = some (A', H') → H.next ≤ H'.next
  | [], A, A', H, H', h => by simp [aOps] at h; obtain ⟨_, rfl⟩ := h; exact Nat.le_refl _
  | o :: rest, A, A', H, H', h => by
    unfold aOps at h
    split at h
    · split at h
      · cases h
      · exact aOps_next rest h
    · split at h
      · cases h
      · split at h
        · cases h
        · rename_i r H1 hs
          split at h
          · cases h
          · exact Nat.le_trans (opStep_next hs) (aOps_next rest h)
theorem aOps_sound {E : Env} {call : CallEv} {B : Bas} (hE : EOK E B) (hcall : CallOK E.P B call) {ops : Array Oper} {n : Nat} {Q : Exit → Act → World → Prop} :
    ∀ (l : List Oper) {A A' : Tr AV} {H H' : AHeap} {ρ : Ren} {a : Act} {w : World}, aOps E call ops n l A H = some (A', H') → HR E.P B ρ H w → Free ρ H.next H'.next → TR ρ A a → a.tmps.size = n →
      (∀ a' w' ρ', TR ρ' A' a' → a'.tmps.size = n → a'.defers = a.defers → HR E.P B ρ' H' w' → Post ρ H w ρ' H' w' → Q .normal a' w') → wpList E.P ops Q l a w
  | [], A, A', H, H', ρ, a, w, h, hh, hf, ht, hn, hq => by
    simp [aOps] at h
    obtain ⟨rfl, rfl⟩ := h
    exact hq a w ρ ht hn rfl hh (Post.refl _ _ _)
  | o :: rest, A, A', H, H', ρ, a, w, h, hh, hf, ht, hn, hq => by
    unfold aOps at h
    have hw := aWanted_sound (ρ := ρ) (ops := ops) (o := o) (A := A) (a := a) (fun _ _ d _ _ => ht d)
    unfold wpList
    split at h
    · rename_i hwf
      rw [hwf] at hw
      rw [if_neg (by rw [hw]; simp)]
      split at h
      · cases h
      · rename_i A1 hp
        exact aOps_sound hE hcall rest h hh hf (ht.put hp hn VR.undefA) (by rw [Act.put_size]; exact hn) fun a' w' ρ' t1 t2 t3 => hq a' w' ρ' t1 t2 (by rw [t3, Act.put_defers'])
    · rename_i hwf
      rw [hwf] at hw
      rw [if_pos hw]
      split at h
      · cases h
      · rename_i hc
        split at h
        · cases h
        · rename_i r H1 hs
          split at h
          · cases h
          · rename_i A1 hp
            have hnx := aOps_next rest h
            refine .inl (opStep_sound hE hcall hh hs (hf.mono hnx) (fun x hx => ht.eval hc x (Array.mem_toList_iff.2 hx)) fun v w' ρ' hv h1 p1 => ?_)
            exact aOps_sound hE hcall rest h h1 (p1.free hf) ((ht.mono p1.le).put hp hn hv) (by rw [Act.put_size]; exact hn) fun a' w'' ρ'' t1 t2 t3 t4 t5 =>
              hq a' w'' ρ'' t1 t2 (by rw [t3, Act.put_defers']) t4 (p1.trans t5)
end Go.Ev
