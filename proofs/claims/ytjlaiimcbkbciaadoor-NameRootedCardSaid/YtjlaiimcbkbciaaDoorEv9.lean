/- The operations that look at no memory, by one function: 'pureOp'. -/
import Derived.Test.YtjlaiimcbkbciaaDoorEv8
noncomputable section
namespace Go.Ev
open Go
def pureOp (P : Program) (op : Op) (ev : Operand → AV) : Option AV :=
  match op with
  | .move x => some (ev x)
  | .assign x => some (ev x)
  | .pick c a b => match ev c with
    | .bool true => some (ev a)
    | .bool false => some (ev b)
    | _ => none
  | .nilCheck x => match ev x with
    | .ptr g o => some (.ptr g o)
    | .glob g o => some (.glob g o)
    | .iface t a => some (.iface t a)
    | .func (.func f) a b => some (.func (.func f) a b)
    | _ => none
  | .binOp op t x y _ => match nilBoth op x y (ev x) (ev y) (P.underlying t) with
    | some r => some r
    | none => aBin P op t (ev x) (ev y)
  | .unOp op _ x => match op, ev x with
    | .not, .bool b => some (.bool (!b))
    | .neg, .int k n => some (.int k (wrapF k (0 - n)))
    | .xor, .int k n => some (.int k (k.wrap ((BitVec.ofInt k.bits (if k.signed then -1 else k.max) ^^^ BitVec.ofInt k.bits n).toNat : Int)))
    | _, _ => none
  | .convert s d x => aConvert P s d (ev x)
  | .makeInterface t x => match P.underlying t with
    | none => none
    | some (.interface _) => none
    | some _ => some (.iface t (ev x))
  | .makeFunc fn fs cs => some (.func fn (fs.toList.map ev) (cs.toList.map ev))
  | .fieldAddr s x f => aFieldAddr P s (ev x) f
  | .field t x f => aField P t (ev x) f
  | .indexAddr t x i => aIndexAddr P t (ev x) (ev i)
  | .index t x i => aIndex P t (ev x) (ev i)
  | .slice t x lo hi none => aSlice P t (ev x) (lo.map ev) (hi.map ev)
  | .extract x i => match ev x with
    | .tuple l => l[i]?
    | _ => none
  | .build t parts => aBuild P t (parts.toList.map fun p => (p.1, ev p.2))
  | .typeAssert x _ t ok => aAssert P (ev x) t ok
  | .call c => match c.callee with
    | .builtin b => aBuiltin P b c.argTypes (c.args.toList.map ev)
    | _ => none
  | _ => none
theorem VRL.ofMap {ρ : Ren} {ev : Operand → AV} {e : Operand → Value} : ∀ (l : List Operand), (∀ x ∈ l, VR ρ (ev x) (e x)) → VRL ρ (l.map ev) (l.map e)
  | [], _ => VRL.nil
  | x :: l, h => VRL.cons (h x (by simp)) (VRL.ofMap l fun y hy => h y (by simp [hy]))
theorem PartsR.ofMap {ρ : Ren} {ev : Operand → AV} {e : Operand → Value} : ∀ (l : List (Nat × Operand)), (∀ x ∈ l, VR ρ (ev x.2) (e x.2)) → PartsR ρ (l.map fun p => (p.1, ev p.2)) (l.map fun p => (p.1, e p.2))
  | [], _ => rfl
  | x :: l, h => ⟨e x.2, l.map fun p => (p.1, e p.2), rfl, h x (by simp), PartsR.ofMap l fun y hy => h y (by simp [hy])⟩
theorem VRO.ofMap {ρ : Ren} {ev : Operand → AV} {e : Operand → Value} (x : Option Operand) (h : ∀ y ∈ x.toArray, VR ρ (ev y) (e y)) : VRO ρ (x.map ev) (x.map e) := by
  cases x with
  | none => trivial
  | some y => exact h y (by simp)
theorem pureOp_sound {P : Program} {ρ : Ren} {o : Oper} {ev : Operand → AV} {e : Operand → Value} {r : AV} (h : pureOp P o.op ev = some r) (hr : ∀ x ∈ o.op.operands, VR ρ (ev x) (e x)) (w : World) :
    ∃ v, (execOp e o).run P w = .ok (.value v) w ∧ VR ρ r v := by
  have lift : ∀ {s : Sem Value} {r : AV}, (∃ z, s.run P w = .ok z w ∧ VR ρ r z) → ∃ v, (do pure (.value (← s)) : Sem Next).run P w = .ok (.value v) w ∧ VR ρ r v := by
    rintro s r ⟨z, hz, hv⟩
    exact ⟨z, by simp only [Sem.run_bind, hz, Result.andThen_ok, Sem.run_pure], hv⟩
  unfold execOp
  unfold pureOp at h
  split at h
  · rename_i x ho
    cases h
    simp only [ho] at hr ⊢
    exact ⟨_, rfl, hr x (by simp [Op.operands])⟩
  · rename_i x ho
    cases h
    simp only [ho] at hr ⊢
    exact ⟨_, rfl, hr x (by simp [Op.operands])⟩
  · rename_i c a b ho
    simp only [ho] at hr ⊢
    have hc := hr c (by simp [Op.operands])
    have ha := hr a (by simp [Op.operands])
    have hb := hr b (by simp [Op.operands])
    split at h
    · rename_i hcc
      cases h
      rw [hcc] at hc
      simp only [VR] at hc
      exact ⟨_, by simp [hc, asBool], ha⟩
    · rename_i hcc
      cases h
      rw [hcc] at hc
      simp only [VR] at hc
      exact ⟨_, by simp [hc, asBool], hb⟩
    · cases h
  · rename_i x ho
    simp only [ho] at hr ⊢
    have hx := hr x (by simp [Op.operands])
    split at h
    · rename_i g o hcc
      cases h
      rw [hcc] at hx
      have hx' := hx
      simp only [VR] at hx
      obtain ⟨b, c, hρ, he⟩ := hx
      exact ⟨e x, by simp only [he]; rfl, hx'⟩
    · rename_i g o hcc
      cases h
      rw [hcc] at hx
      have hx' := hx
      simp only [VR] at hx
      exact ⟨e x, by simp only [hx]; rfl, hx'⟩
    · rename_i g o hcc
      cases h
      rw [hcc] at hx
      have hx' := hx
      simp only [VR] at hx
      obtain ⟨u, he, _⟩ := hx
      exact ⟨e x, by simp only [he]; rfl, hx'⟩
    · rename_i f a b hcc
      cases h
      rw [hcc] at hx
      have hx' := hx
      simp only [VR] at hx
      obtain ⟨vs, us, he, _, _⟩ := hx
      exact ⟨e x, by simp only [he]; rfl, hx'⟩
    · cases h
  · rename_i op t x y yt ho
    simp only [ho] at hr ⊢
    have hx := hr x (by simp [Op.operands])
    have hy := hr y (by simp [Op.operands])
    refine lift ?_
    split at h
    · rename_i r' hn
      cases h
      exact nilBoth_sound hn hx hy w
    · exact aBin_sound h hx hy w x y
  · rename_i op t x ho
    simp only [ho] at hr ⊢
    have hx := hr x (by simp [Op.operands])
    refine lift ?_
    split at h
    · rename_i b hcc
      cases h
      rw [hcc] at hx
      simp only [VR] at hx
      exact ⟨.bool (!b), by rw [hx]; rfl, rfl⟩
    · rename_i k n hcc
      cases h
      rw [hcc] at hx
      simp only [VR] at hx
      exact ⟨.int k (k.wrap (0 - n)), by rw [hx]; rfl, by simp [VR, wrapF_eq]⟩
    · rename_i k n hcc
      cases h
      rw [hcc] at hx
      simp only [VR] at hx
      exact ⟨_, by rw [hx]; rfl, rfl⟩
    · cases h
  · rename_i s d x ho
    simp only [ho] at hr ⊢
    exact lift (aConvert_sound h (hr x (by simp [Op.operands])) w)
  · rename_i t x ho
    simp only [ho] at hr ⊢
    have hx := hr x (by simp [Op.operands])
    refine lift ?_
    split at h
    · cases h
    · cases h
    · rename_i d hni hd
      cases h
      refine ⟨.iface t (e x), ?_, e x, rfl, hx⟩
      cases d <;> first | exact absurd rfl (hni _) | (simp [Instr.makeInterface, run_und hd])
  · rename_i fn fs cs ho
    simp only [ho] at hr ⊢
    cases h
    refine lift ⟨_, rfl, (fs.toList.map e), (cs.toList.map e), ?_, VRL.ofMap _ fun x hx => hr x (by simp [Op.operands, Array.mem_toList_iff.1 hx]), VRL.ofMap _ fun x hx => hr x (by simp [Op.operands, Array.mem_toList_iff.1 hx])⟩
    congr 1
    · apply Array.ext'; simp
    · apply Array.ext'; simp
  · rename_i s x f ho
    simp only [ho] at hr ⊢
    exact lift (aFieldAddr_sound h (hr x (by simp [Op.operands])) w)
  · rename_i s x f ho
    simp only [ho] at hr ⊢
    exact lift (aField_sound h (hr x (by simp [Op.operands])) w)
  · rename_i t x i ho
    simp only [ho] at hr ⊢
    exact lift (aIndexAddr_sound h (hr x (by simp [Op.operands])) (hr i (by simp [Op.operands])) w)
  · rename_i t x i ho
    simp only [ho] at hr ⊢
    exact lift (aIndex_sound h (hr x (by simp [Op.operands])) (hr i (by simp [Op.operands])) w)
  · rename_i t x lo hi ho
    simp only [ho] at hr ⊢
    refine lift (aSlice_sound h (hr x (by simp [Op.operands])) (VRO.ofMap lo fun y hy => hr y ?_) (VRO.ofMap hi fun y hy => hr y ?_) w)
    · simp [Op.operands]; simp at hy; exact .inr (.inl hy)
    · simp [Op.operands]; simp at hy; exact .inr (.inr hy)
  · rename_i x i ho
    simp only [ho] at hr ⊢
    have hx := hr x (by simp [Op.operands])
    refine lift ?_
    split at h
    · rename_i l hcc
      rw [hcc] at hx
      simp only [VR] at hx
      obtain ⟨vs, he, hl⟩ := hx
      obtain ⟨v, hv, hvr⟩ := hl.get i _ h
      exact ⟨v, by rw [he]; simp [Instr.extract, hv], hvr⟩
    · cases h
  · rename_i t parts ho
    simp only [ho] at hr ⊢
    refine lift (aBuild_sound h ?_ w)
    have := PartsR.ofMap (ρ := ρ) (ev := ev) (e := e) parts.toList fun x hx => hr x.2 (by simp [Op.operands]; exact ⟨x.1, by simpa using hx⟩)
    simpa using this
  · rename_i x xt t ok ho
    simp only [ho] at hr ⊢
    exact lift (aAssert_sound h (hr x (by simp [Op.operands])) w)
  · rename_i c ho
    simp only [ho] at hr ⊢
    split at h
    · rename_i b hb
      have ha : VRL ρ (c.args.toList.map ev) (c.args.map e).toList := by
        have := VRL.ofMap (ρ := ρ) (ev := ev) (e := e) c.args.toList fun x hx => hr x (by simp [Op.operands, Call.operands, hb, Array.mem_toList_iff.1 hx])
        simpa using this
      obtain ⟨z, hz, hv⟩ := aBuiltin_sound h ha w o.type (c.args.map fun | .const _ => true | _ => false)
      exact ⟨z, by simp only [resolve, hb, pure_bind, invoke]; exact hz, hv⟩
    · cases h
  · cases h
end Go.Ev
