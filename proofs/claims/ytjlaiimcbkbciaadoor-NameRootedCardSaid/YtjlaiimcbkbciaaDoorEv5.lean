/- Operations that look at no memory: reckoned, and that this is what the model does. -/
import Derived.Test.YtjlaiimcbkbciaaDoorEv4
import Derived.Laws.StructEq
noncomputable section
namespace Go.Ev
open Go
def aCmp (op : BinOp) (x y : Int) : Option AV :=
  match op with
  | .eql => some (.bool (eqI x y))
  | .neq => some (.bool (!eqI x y))
  | .lss => some (.bool (ltI x y))
  | .leq => some (.bool (!ltI y x))
  | .gtr => some (.bool (ltI y x))
  | .geq => some (.bool (!ltI x y))
  | _ => none
def aStrOp (op : BinOp) (x y : List Nat) : Option AV :=
  match op with
  | .add => match Nat.ble (x.length + y.length) 9223372036854775807 with
    | true => some (.str (x ++ y))
    | false => none
  | .eql => some (.bool (eqL x y))
  | .neq => some (.bool (!eqL x y))
  | .lss => some (.bool (ltL x y))
  | .leq => some (.bool (ltL x y || eqL x y))
  | .gtr => some (.bool (!(ltL x y || eqL x y)))
  | .geq => some (.bool (!ltL x y))
  | _ => none
def isNilPtr : AV → Bool
  | .nilPtr => true
  | _ => false
/-- Equality of bools, and with nil. -/
def nilEq (d : TypeDesc) (x y : AV) : Option Bool :=
  match d, x, y with
  | .bool, .bool a, .bool b => some (a == b)
  | .pointer _, .nilPtr, .nilPtr => some true
  | .pointer _, .nilPtr, .ptr _ _ | .pointer _, .ptr _ _, .nilPtr | .pointer _, .nilPtr, .glob _ _ | .pointer _, .glob _ _, .nilPtr => some false
  | .slice _, .nilSlice, .nilSlice => some true
  | .slice _, .slice _ _ _ _, .nilSlice | .slice _, .sliceC _ _ _ _, .nilSlice | .slice _, .eslice _, .nilSlice => some false
  | .map _ _, .nilMap, .nilMap => some true
  | .map _ _, .map _, .nilMap => some false
  | .func _ _ _, .nilFunc, .nilFunc => some true
  | .func _ _ _, .func _ _ _, .nilFunc => some false
  | .interface _, .iface _ _, .nilIface | .interface _, .nilIface, .iface _ _ => some false
  | _, _, _ => none
def Plainly (u v : Value) : Prop := (∀ cs, u ≠ .agg cs) ∧ ¬ (u = .nilIface ∧ v = .nilIface) ∧
  (∀ t, binOp .eql t u v = do pure (.bool (← Op.equal t u v))) ∧ ∀ t, binOp .neq t u v = do pure (.bool (!(← Op.equal t u v)))
theorem nilEq_sound {P : Program} {ρ : Ren} {d : TypeDesc} {t : TypeId} {x y : AV} {b : Bool} {u v : Value} (h : nilEq d x y = some b) (hd : P.underlying t = some d) (hx : VR ρ x u) (hy : VR ρ y v) :
    (∀ n w, (Op.equalIn (n + 1) t u v).run P w = .ok b w) ∧ Plainly u v := by
  unfold nilEq at h
  split at h
  all_goals first
    | (cases h; done)
    | skip
  all_goals (simp only [VR] at hx hy; cases h)
  all_goals first
    | (obtain ⟨_, _, _, rfl⟩ := hx)
    | (obtain ⟨_, _, _, _, rfl⟩ := hx)
    | (obtain ⟨_, _, _, _, _, rfl⟩ := hx)
    | (obtain ⟨_, _, rfl, _, _⟩ := hx)
    | (obtain ⟨_, rfl, _⟩ := hx)
    | subst hx
  all_goals first
    | (obtain ⟨_, _, _, rfl⟩ := hy)
    | (obtain ⟨_, rfl, _⟩ := hy)
    | subst hy
  all_goals (refine ⟨fun n w => ?_, fun cs => by simp, by simp, fun t => rfl, fun t => rfl⟩)
  all_goals (unfold Op.equalIn; simp only [Sem.run_bind, run_und hd, Result.andThen_ok]; rfl)
/-- Equality of two values of one plain type. -/
def eqPlain (P : Program) (tx : TypeId) (a b : AV) : Option Bool :=
  match P.underlying tx, a, b with
  | some .bool, .bool x, .bool y => some (x == y)
  | some (.int _), .int k x, .int k' y => match eqK k k' with
    | true => some (eqI x y)
    | false => none
  | some .string, .str x, .str y => some (eqL x y)
  | _, _, _ => none
theorem eqPlain_sound {P : Program} {ρ : Ren} {tx : TypeId} {a b : AV} {r : Bool} {u v : Value} (h : eqPlain P tx a b = some r) (hx : VR ρ a u) (hy : VR ρ b v) (n : Nat) (w : World) :
    (Op.equalIn (n + 1) tx u v).run P w = .ok r w := by
  unfold eqPlain at h
  split at h
  · rename_i hd
    cases h
    simp only [VR] at hx hy
    subst hx hy
    unfold Op.equalIn; simp only [Sem.run_bind, run_und hd, Result.andThen_ok]; rfl
  · rename_i hd
    simp only [VR] at hx hy
    subst hx hy
    split at h
    · rename_i hk
      cases h
      have hk := eqK_eq hk
      subst hk
      unfold Op.equalIn; simp only [Sem.run_bind, run_und hd, Result.andThen_ok, if_true, eqI_eq]; rfl
    · cases h
  · rename_i x y hd
    cases h
    simp only [VR] at hx hy
    obtain ⟨rfl, ha⟩ := hx
    obtain ⟨rfl, hb⟩ := hy
    rw [← bs_beq ha hb]
    exact run_equalIn_string w n tx (bs x) (bs y) hd
  · cases h
/-- Equality of two values in interfaces. -/
def ifaceEq (P : Program) (t tx : TypeId) (vx : AV) (ty : TypeId) (vy : AV) : Option Bool :=
  match P.underlying t with
  | some (.interface _) => match Nat.beq tx ty with
    | false => some false
    | true => match P.info? tx with
      | none => none
      | some i => match i.comparable with
        | true => eqPlain P tx vx vy
        | false => none
  | _ => none
theorem ifaceEq_sound {P : Program} {ρ : Ren} {t tx ty : TypeId} {vx vy : AV} {r : Bool} {u v : Value} (h : ifaceEq P t tx vx ty vy = some r) (hx : VR ρ vx u) (hy : VR ρ vy v) (n : Nat) (w : World) :
    (Op.equalIn (n + 2) t (.iface tx u) (.iface ty v)).run P w = .ok r w := by
  unfold ifaceEq at h
  split at h
  · rename_i hd
    split at h
    · rename_i hb
      cases h
      have hne : tx ≠ ty := fun e => by subst e; rw [Nat.beq_refl] at hb; cases hb
      unfold Op.equalIn; simp only [Sem.run_bind, run_und hd, Result.andThen_ok, if_pos hne]; rfl
    · rename_i hb
      obtain rfl := Nat.eq_of_beq_eq_true hb
      split at h
      · cases h
      rename_i i hi
      split at h
      · rename_i hc
        have := eqPlain_sound h hx hy n w
        unfold Op.equalIn
        simp only [Sem.run_bind, run_und hd, Result.andThen_ok, ne_eq, not_true_eq_false, if_false, run_info hi, hc, Bool.not_true, Bool.false_eq_true]
        exact this
      · cases h
  · cases h
/-- An operation on two values. -/
def aBin (P : Program) (op : BinOp) (t : TypeId) (x y : AV) : Option AV :=
  match x, y with
  | .int k a, .int k' b => match eqK k k' with
    | false => match op with
      | .shl => match ltI b 0 with
        | true => none
        | false => some (.int k (wrapF k (a * 2 ^ (min b.toNat k.bits))))
      | .shr => match ltI b 0 with
        | true => none
        | false => some (.int k (a.fdiv (2 ^ (min b.toNat k.bits))))
      | _ => none
    | true => match op with
      | .add => some (.int k (wrapF k (a + b)))
      | .sub => some (.int k (wrapF k (a - b)))
      | .mul => some (.int k (wrapF k (a * b)))
      | .quo => match eqI b 0 with
        | true => none
        | false => some (.int k (wrapF k (a.tdiv b)))
      | .rem => match eqI b 0 with
        | true => none
        | false => some (.int k (a.tmod b))
      | .and => some (.int k (k.wrap ((BitVec.ofInt k.bits a &&& BitVec.ofInt k.bits b).toNat : Int)))
      | .or => some (.int k (k.wrap ((BitVec.ofInt k.bits a ||| BitVec.ofInt k.bits b).toNat : Int)))
      | .xor => some (.int k (k.wrap ((BitVec.ofInt k.bits a ^^^ BitVec.ofInt k.bits b).toNat : Int)))
      | .andNot => some (.int k (k.wrap ((BitVec.ofInt k.bits a &&& ~~~BitVec.ofInt k.bits b).toNat : Int)))
      | .shl => match ltI b 0 with
        | true => none
        | false => some (.int k (wrapF k (a * 2 ^ (min b.toNat k.bits))))
      | .shr => match ltI b 0 with
        | true => none
        | false => some (.int k (a.fdiv (2 ^ (min b.toNat k.bits))))
      | op => aCmp op a b
  | .str a, .str b => aStrOp op a b
  | .iface tx vx, .iface ty vy => match ifaceEq P t tx vx ty vy with
    | none => none
    | some b => match op with
      | .eql => some (.bool b)
      | .neq => some (.bool (!b))
      | _ => none
  | x, y => match P.underlying t with
    | none => none
    | some d => match nilEq d x y with
      | none => none
      | some b => match op with
        | .eql => some (.bool b)
        | .neq => some (.bool (!b))
        | _ => none
/-- Whether both sides are nil interfaces and one is written so: then they are equal. -/
def nilBoth (op : BinOp) (x y : Operand) (u : AV) (v : AV) (d : Option TypeDesc) : Option AV :=
  match u, v, d with
  | .nilIface, .nilIface, some (.interface _) => match (match x with | .const _ => true | _ => false) || (match y with | .const _ => true | _ => false) with
    | false => none
    | true => match op with
      | .eql => some (.bool true)
      | .neq => some (.bool false)
      | _ => none
  | _, _, _ => none

theorem eqGuard_skip {op : BinOp} {t : TypeId} {x y : Operand} {u v : Value} (h : ∀ cs, u ≠ .agg cs) (hn : ¬ (u = .nilIface ∧ v = .nilIface)) : eqGuard op t x y u v = pure () := by
  cases u with
  | agg cs => exact absurd rfl (h cs)
  | nilIface =>
    cases v with
    | nilIface => exact absurd ⟨rfl, rfl⟩ hn
    | _ => cases op <;> rfl
  | _ => cases op <;> rfl

theorem aBin_sound {P : Program} {ρ : Ren} {op : BinOp} {t : TypeId} {x y r : AV} {u v : Value} (h : aBin P op t x y = some r) (hx : VR ρ x u) (hy : VR ρ y v) (w : World) (o1 o2 : Operand) :
    ∃ z, (do eqGuard op t o1 o2 u v; binOp op t u v : Sem Value).run P w = .ok z w ∧ VR ρ r z := by
  unfold aBin at h
  split at h
  · rename_i k a k' b
    simp only [VR] at hx hy
    subst hx hy
    rw [eqGuard_skip (by simp) (by simp)]
    split at h
    · split at h
      · split at h
        · cases h
        · rename_i hb
          cases h
          rw [ltI_eq] at hb
          have hb' : ¬ b < 0 := by simpa using hb
          exact ⟨_, by simp [binOp, Op.shift, hb']; rfl, by simp [VR, wrapF_eq]⟩
      · split at h
        · cases h
        · rename_i hb
          cases h
          rw [ltI_eq] at hb
          have hb' : ¬ b < 0 := by simpa using hb
          exact ⟨_, by simp [binOp, Op.shift, hb']; rfl, by simp [VR]⟩
      · cases h
    rename_i hk
    have hkk := eqK_eq hk
    subst hkk
    split at h
    · cases h; exact ⟨_, by simp [binOp, Op.intArith]; rfl, by simp [VR, wrapF_eq]⟩
    · cases h; exact ⟨_, by simp [binOp, Op.intArith]; rfl, by simp [VR, wrapF_eq]⟩
    · cases h; exact ⟨_, by simp [binOp, Op.intArith]; rfl, by simp [VR, wrapF_eq]⟩
    · split at h
      · cases h
      · rename_i hb
        cases h
        rw [eqI_eq] at hb
        have hb' : b ≠ 0 := by simpa using hb
        exact ⟨_, by simp [binOp, Op.intDiv, hb']; rfl, by simp [VR, wrapF_eq]⟩
    · split at h
      · cases h
      · rename_i hb
        cases h
        rw [eqI_eq] at hb
        have hb' : b ≠ 0 := by simpa using hb
        exact ⟨_, by simp [binOp, Op.intDiv, hb']; rfl, by simp [VR]⟩
    · cases h; exact ⟨_, by simp [binOp, Op.intBits]; rfl, by simp [VR]⟩
    · cases h; exact ⟨_, by simp [binOp, Op.intBits]; rfl, by simp [VR]⟩
    · cases h; exact ⟨_, by simp [binOp, Op.intBits]; rfl, by simp [VR]⟩
    · cases h; exact ⟨_, by simp [binOp, Op.intBits]; rfl, by simp [VR]⟩
    · split at h
      · cases h
      · rename_i hb
        cases h
        rw [ltI_eq] at hb
        have hb' : ¬ b < 0 := by simpa using hb
        exact ⟨_, by simp [binOp, Op.shift, hb']; rfl, by simp [VR, wrapF_eq]⟩
    · split at h
      · cases h
      · rename_i hb
        cases h
        rw [ltI_eq] at hb
        have hb' : ¬ b < 0 := by simpa using hb
        exact ⟨_, by simp [binOp, Op.shift, hb']; rfl, by simp [VR]⟩
    · unfold aCmp at h
      split at h <;> cases h
      · exact ⟨_, by simp [binOp, Op.intCmp]; rfl, by simp [VR, eqI_eq]⟩
      · exact ⟨_, by simp [binOp, Op.intCmp]; rfl, by simp [VR, eqI_eq, bne]⟩
      · exact ⟨_, by simp [binOp, Op.intCmp]; rfl, by simp [VR, ltI_eq]⟩
      · exact ⟨_, by simp [binOp, Op.intCmp]; rfl, by simp [VR, ltI_eq, ← Int.not_lt]⟩
      · exact ⟨_, by simp [binOp, Op.intCmp]; rfl, by simp [VR, ltI_eq]⟩
      · exact ⟨_, by simp [binOp, Op.intCmp]; rfl, by simp [VR, ltI_eq, ← Int.not_lt]⟩
  · rename_i a b
    simp only [VR] at hx hy
    obtain ⟨rfl, ha⟩ := hx
    obtain ⟨rfl, hb⟩ := hy
    rw [eqGuard_skip (by simp) (by simp)]
    have e1 := bs_beq ha hb
    have e2 : Op.bytesLess (bs a).toList (bs b).toList = ltL a b := by rw [bs_toList, bs_toList]; exact bs_less ha hb
    unfold aStrOp at h
    split at h
    · split at h
      · rename_i hl
        cases h
        have hl' := Nat.le_of_ble_eq_true hl
        refine ⟨.string (bs a ++ bs b), ?_, ?_⟩
        · simp [binOp, Op.stringOp, bs_size]
          omega
        · rw [bs_append]
          exact ⟨rfl, fun x hx => by rcases List.mem_append.1 hx with h | h; exact ha x h; exact hb x h⟩
      · cases h
    · cases h; exact ⟨_, by simp [binOp, Op.stringOp]; rfl, by simp only [VR]; rw [e1]⟩
    · cases h; exact ⟨_, by simp [binOp, Op.stringOp]; rfl, by simp only [VR]; rw [e1]⟩
    · cases h; exact ⟨_, by simp [binOp, Op.stringOp]; rfl, by simp only [VR]; rw [e2]⟩
    · cases h; exact ⟨_, by simp [binOp, Op.stringOp]; rfl, by simp only [VR]; rw [e1, e2]⟩
    · cases h; exact ⟨_, by simp only [binOp, Op.stringOp, Sem.run_bind, Sem.run_pure, Result.andThen_ok]; rfl, by simp only [VR]; rw [e1, e2]⟩
    · cases h; exact ⟨_, by simp [binOp, Op.stringOp]; rfl, by simp only [VR]; rw [e2]⟩
    · cases h
  · rename_i tx vx ty vy
    simp only [VR] at hx hy
    obtain ⟨a, rfl, hx⟩ := hx
    obtain ⟨c, rfl, hy⟩ := hy
    split at h
    · cases h
    rename_i b hb
    have he' : ∀ w, (Op.equal t (.iface tx a) (.iface ty c)).run P w = .ok b w := ifaceEq_sound hb hx hy 9998
    rw [eqGuard_skip (by simp) (by simp)]
    have h3 : binOp .eql t (.iface tx a) (.iface ty c) = (do pure (.bool (← Op.equal t (.iface tx a) (.iface ty c))) : Sem Value) := rfl
    have h4 : binOp .neq t (.iface tx a) (.iface ty c) = (do pure (.bool (!(← Op.equal t (.iface tx a) (.iface ty c)))) : Sem Value) := rfl
    split at h
    · cases h
      exact ⟨.bool b, by rw [h3]; simp only [pure_bind, Sem.run_bind, he', Result.andThen_ok, Sem.run_pure], rfl⟩
    · cases h
      exact ⟨.bool (!b), by rw [h4]; simp only [pure_bind, Sem.run_bind, he', Result.andThen_ok, Sem.run_pure], rfl⟩
    · cases h
  · split at h
    · cases h
    rename_i d hd
    split at h
    · cases h
    rename_i b hb
    obtain ⟨he, h1, h2, h3, h4⟩ := nilEq_sound hb hd hx hy
    have he' : ∀ w, (Op.equal t u v).run P w = .ok b w := he 9999
    rw [eqGuard_skip h1 h2]
    split at h
    · cases h
      exact ⟨.bool b, by rw [h3]; simp only [pure_bind, Sem.run_bind, he', Result.andThen_ok, Sem.run_pure], rfl⟩
    · cases h
      exact ⟨.bool (!b), by rw [h4]; simp only [pure_bind, Sem.run_bind, he', Result.andThen_ok, Sem.run_pure], rfl⟩
    · cases h
theorem nilBoth_sound {P : Program} {ρ : Ren} {op : BinOp} {t : TypeId} {x y : Operand} {a b r : AV} {u v : Value} (h : nilBoth op x y a b (P.underlying t) = some r) (hx : VR ρ a u) (hy : VR ρ b v) (w : World) :
    ∃ z, (do eqGuard op t x y u v; binOp op t u v : Sem Value).run P w = .ok z w ∧ VR ρ r z := by
  unfold nilBoth at h
  split at h
  · rename_i hd
    simp only [VR] at hx hy
    subst hx hy
    split at h
    · cases h
    · rename_i hc
      have hg : eqGuard op t x y .nilIface .nilIface = pure () := by
        unfold eqGuard
        cases x <;> cases y <;> simp_all
      rw [hg]
      have he : ∀ n w, (Op.equalIn (n + 1) t .nilIface .nilIface).run P w = .ok true w := fun n w => by
        unfold Op.equalIn; simp only [Sem.run_bind, run_und hd, Result.andThen_ok]; rfl
      have he' : ∀ w, (Op.equal t .nilIface .nilIface).run P w = .ok true w := he 9999
      have h3 : binOp .eql t .nilIface .nilIface = (do pure (.bool (← Op.equal t .nilIface .nilIface)) : Sem Value) := rfl
      have h4 : binOp .neq t .nilIface .nilIface = (do pure (.bool (!(← Op.equal t .nilIface .nilIface))) : Sem Value) := rfl
      split at h <;> cases h
      · exact ⟨.bool true, by rw [h3]; simp only [pure_bind, Sem.run_bind, he', Result.andThen_ok, Sem.run_pure], rfl⟩
      · exact ⟨.bool false, by rw [h4]; simp only [pure_bind, Sem.run_bind, he', Result.andThen_ok, Sem.run_pure]; rfl, rfl⟩
  · cases h
end Go.Ev
