/- The reckoner's way with operations that look at no memory. -/
import Derived.Test.YtjlaiimcbkbciaaDoorEv3
noncomputable section
namespace Go.Ev
open Go
section
variable {P : Program} {w : World}
theorem run_info {t : TypeId} {i : TypeInfo} (h : P.info? t = some i) : (typeInfo t).run P w = .ok i w := by simp [typeInfo, h]
theorem run_size {t : TypeId} {i : TypeInfo} (h : P.info? t = some i) : (sizeOf t).run P w = .ok i.size w := by simp [sizeOf, run_info h]
theorem run_und {t : TypeId} {d : TypeDesc} (h : P.underlying t = some d) : (underlying t).run P w = .ok d w := by simp [underlying, h]
end
def aggB : TypeDesc → Bool
  | .struct _ | .array _ _ => true
  | _ => false
theorem run_agg {P : Program} {w : World} {t : TypeId} {d : TypeDesc} (h : P.underlying t = some d) : (isAgg t).run P w = .ok (aggB d) w := by
  simp only [isAgg, Sem.run_bind, run_und h, Result.andThen_ok]
  cases d <;> simp [aggB]
def aPart (P : Program) (t : TypeId) (l : List AV) (off : Nat) : Option AV :=
  match P.underlying t with
  | none => none
  | some d => match aggB d with
    | true => match P.info? t with
      | some i => match Nat.ble (off + i.size) l.length with
        | true => some (.agg ((l.drop off).take i.size))
        | false => none
      | none => none
    | false => l[off]?
theorem VRL.drop {ρ : Ren} : ∀ {l : List AV} {vs : List Value} (n : Nat), VRL ρ l vs → VRL ρ (l.drop n) (vs.drop n)
  | l, vs, 0, h => by simpa using h
  | [], vs, n + 1, h => by simp [VRL] at h; subst h; simpa using VRL.nil
  | a :: l, vs, n + 1, h => by
    obtain ⟨v, ws, rfl, _, h'⟩ := h
    simpa using VRL.drop n h'
theorem VRL.take {ρ : Ren} : ∀ {l : List AV} {vs : List Value} (n : Nat), VRL ρ l vs → VRL ρ (l.take n) (vs.take n)
  | l, vs, 0, h => by simpa using VRL.nil
  | [], vs, n + 1, h => by simp [VRL] at h; subst h; simpa using VRL.nil
  | a :: l, vs, n + 1, h => by
    obtain ⟨v, ws, rfl, h0, h'⟩ := h
    simpa using VRL.cons h0 (VRL.take n h')
theorem aPart_sound {P : Program} {ρ : Ren} {t : TypeId} {l : List AV} {off : Nat} {r : AV} {vs : List Value} (h : aPart P t l off = some r) (hl : VRL ρ l vs) (w : World) :
    ∃ v, (part t vs.toArray off).run P w = .ok v w ∧ VR ρ r v := by
  unfold aPart at h
  split at h
  · cases h
  rename_i d hd
  have hlen := hl.length
  split at h
  · rename_i ha
    split at h
    · rename_i i hi
      split at h
      · rename_i hb
        cases h
        have hb' := Nat.le_of_ble_eq_true hb
        refine ⟨_, by simp only [part, Sem.run_bind, run_agg hd, Result.andThen_ok, ha, if_true, run_size hi]; rfl, ⟨_, ?_, VRL.take i.size (VRL.drop off hl)⟩⟩
        congr 1
        apply Array.ext'
        simp
      · cases h
    · cases h
  · rename_i ha
    obtain ⟨v, hv, r⟩ := hl.get off _ h
    refine ⟨v, ?_, r⟩
    simp [part, run_agg hd, ha, hv]

/-! ### Constants -/
mutual
def AV.ofValue : Nat → Value → Option AV
  | 0, _ => none
  | _ + 1, .bool b => some (.bool b)
  | _ + 1, .int k n => some (.int k n)
  | _ + 1, .string s => some (.str (s.data.toList.map UInt8.toNat))
  | _ + 1, .pointer none => some .nilPtr
  | _ + 1, .slice none 0 0 => some .nilSlice
  | _ + 1, .map none => some .nilMap
  | _ + 1, .nilFunc => some .nilFunc
  | _ + 1, .nilIface => some .nilIface
  | f + 1, .iface t v => match AV.ofValue f v with
    | some a => some (.iface t a)
    | none => none
  | f + 1, .agg cs => match AV.ofValues f cs.toList with
    | some l => some (.agg l)
    | none => none
  | f + 1, .tuple cs => match AV.ofValues f cs.toList with
    | some l => some (.tuple l)
    | none => none
  | _ + 1, .func (.func f) first captured => match first.toList, captured.toList with
    | [], [] => some (.func (.func f) [] [])
    | _, _ => none
  | _ + 1, _ => none
def AV.ofValues : Nat → List Value → Option (List AV)
  | 0, _ => none
  | _ + 1, [] => some []
  | f + 1, v :: l => match AV.ofValue f v with
    | none => none
    | some a => match AV.ofValues f l with
      | none => none
      | some m => some (a :: m)
end
theorem bs_of (s : ByteArray) : bs (s.data.toList.map UInt8.toNat) = s := by
  unfold bs
  have : (s.data.toList.map UInt8.toNat).map UInt8.ofNat = s.data.toList := by
    rw [List.map_map]
    conv => rhs; rw [← List.map_id s.data.toList]
    apply List.map_congr_left
    intro x _
    simp
  rw [this]
mutual
theorem ofValue_sound (ρ : Ren) : ∀ (f : Nat) (v : Value) (a : AV), AV.ofValue f v = some a → VR ρ a v
  | 0, v, a, h => by simp [AV.ofValue] at h
  | f + 1, v, a, h => by
    unfold AV.ofValue at h
    split at h
    all_goals first
      | (cases h; rfl)
      | skip
    · cases h
    · cases h
      exact ⟨(by rw [bs_of]), fun x hx => by
        obtain ⟨y, _, rfl⟩ := List.mem_map.1 hx
        exact y.toNat_lt⟩
    · rename_i f' t v' heq
      cases heq
      split at h
      · rename_i a' ha
        cases h
        exact ⟨_, rfl, ofValue_sound ρ _ _ _ ha⟩
      · cases h
    · rename_i heq
      cases heq
      split at h
      · rename_i l hl
        cases h
        exact ⟨_, rfl, ofValues_sound ρ _ _ _ hl⟩
      · cases h
    · rename_i heq
      cases heq
      split at h
      · rename_i l hl
        cases h
        exact ⟨_, rfl, ofValues_sound ρ _ _ _ hl⟩
      · cases h
    · split at h
      · rename_i h1 h2
        cases h
        refine ⟨[], [], ?_, rfl, rfl⟩
        have e1 := Array.toList_eq_nil_iff.1 h1
        have e2 := Array.toList_eq_nil_iff.1 h2
        rw [e1, e2]
      · cases h
    · cases h
theorem ofValues_sound (ρ : Ren) : ∀ (f : Nat) (vs : List Value) (l : List AV), AV.ofValues f vs = some l → VRL ρ l vs
  | 0, _, _, h => by simp [AV.ofValues] at h
  | f + 1, [], l, h => by simp [AV.ofValues] at h; subst h; rfl
  | f + 1, v :: vs, l, h => by
    unfold AV.ofValues at h
    split at h
    · cases h
    · rename_i a ha
      split at h
      · cases h
      · rename_i m hm
        cases h
        exact ⟨v, vs, rfl, ofValue_sound ρ _ _ _ ha, ofValues_sound ρ _ _ _ hm⟩
end
def zeroOf (P : Program) (t : TypeId) : Option AV :=
  match P.info? t with
  | none => none
  | some i => match i.zero with
    | none => none
    | some z => AV.ofValue 100 z
theorem zeroOf_sound {P : Program} {t : TypeId} {a : AV} (h : zeroOf P t = some a) (ρ : Ren) : ∃ i z, P.info? t = some i ∧ i.zero = some z ∧ VR ρ a z := by
  unfold zeroOf at h
  split at h
  · cases h
  · rename_i i hi
    split at h
    · cases h
    · rename_i z hz
      exact ⟨i, z, hi, hz, ofValue_sound ρ _ _ _ h⟩
theorem run_zero {P : Program} {w : World} {t : TypeId} {i : TypeInfo} {z : Value} (h : P.info? t = some i) (hz : i.zero = some z) : (zeroValue t).run P w = .ok z w := by
  simp [zeroValue, run_info h, hz]
end Go.Ev
