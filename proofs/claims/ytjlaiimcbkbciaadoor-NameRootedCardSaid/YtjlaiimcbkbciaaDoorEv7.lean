/- All operations that look at no memory, by one function. -/
import Derived.Test.YtjlaiimcbkbciaaDoorEv6
noncomputable section
namespace Go.Ev
open Go
def aFieldAddr (P : Program) (s : TypeId) (x : AV) (f : Nat) : Option AV :=
  match P.underlying s with
  | some (.struct fields) => match fields[f]? with
    | none => none
    | some fd => match P.info? fd.type with
      | none => none
      | some i => match Nat.beq i.size 0 with
        | true => none
        | false => match x with
          | .ptr g off => some (.ptr g (off + fd.offset))
          | .glob b off => some (.glob b (off + fd.offset))
          | _ => none
  | _ => none
theorem aFieldAddr_sound {P : Program} {ρ : Ren} {s : TypeId} {x r : AV} {f : Nat} {v : Value} (h : aFieldAddr P s x f = some r) (hx : VR ρ x v) (w : World) :
    ∃ z, (Instr.fieldAt s v f).run P w = .ok z w ∧ VR ρ r z := by
  unfold aFieldAddr at h
  split at h
  · rename_i fields hd
    split at h
    · cases h
    rename_i fd hf
    split at h
    · cases h
    rename_i i hi
    split at h
    · cases h
    rename_i hz
    have hz := beq_f hz
    split at h
    · cases h
      simp only [VR] at hx
      obtain ⟨b, c, hr, rfl⟩ := hx
      refine ⟨_, ?_, b, c, hr, rfl⟩
      simp [Instr.fieldAt, run_und hd, hf, Instr.sureAddr, fieldPlace, run_size hi, hz, add_off]
    · cases h
      simp only [VR] at hx
      subst hx
      refine ⟨_, ?_, rfl⟩
      simp [Instr.fieldAt, run_und hd, hf, Instr.sureAddr, fieldPlace, run_size hi, hz, add_off]
    · cases h
  · cases h
def aField (P : Program) (t : TypeId) (x : AV) (f : Nat) : Option AV :=
  match P.underlying t, x with
  | some (.struct fields), .agg l => match fields[f]? with
    | none => none
    | some fd => aPart P fd.type l fd.offset
  | _, _ => none
theorem aField_sound {P : Program} {ρ : Ren} {t : TypeId} {x r : AV} {f : Nat} {v : Value} (h : aField P t x f = some r) (hx : VR ρ x v) (w : World) :
    ∃ z, (Instr.field t v f).run P w = .ok z w ∧ VR ρ r z := by
  unfold aField at h
  split at h
  · rename_i fields l hd
    simp only [VR] at hx
    obtain ⟨vs, rfl, hl⟩ := hx
    split at h
    · cases h
    rename_i fd hf
    obtain ⟨z, hz, r⟩ := aPart_sound h hl w
    exact ⟨z, by simp [Instr.field, run_und hd, hf, asAgg, hz], r⟩
  · cases h
def aIndexAddr (P : Program) (t : TypeId) (x ix : AV) : Option AV :=
  match aNat ix, P.underlying t, x with
  | some n, some (.slice e), .slice g off len _ => match P.info? e, Nat.blt n len with
    | some i, true => some (.ptr g (off + n * i.size))
    | _, _ => none
  | some n, some (.slice e), .sliceC g off len _ => match P.info? e, Nat.blt n len with
    | some i, true => some (.ptr g (off + n * i.size))
    | _, _ => none
  | some n, some (.array len e), .ptr g off => match P.info? e, Nat.blt n len with
    | some i, true => some (.ptr g (off + n * i.size))
    | _, _ => none
  | some n, some (.array len e), .glob g off => match P.info? e, Nat.blt n len with
    | some i, true => some (.glob g (off + n * i.size))
    | _, _ => none
  | _, _, _ => none
theorem aIndexAddr_sound {P : Program} {ρ : Ren} {t : TypeId} {x ix r : AV} {v u : Value} (h : aIndexAddr P t x ix = some r) (hx : VR ρ x v) (hi : VR ρ ix u) (w : World) :
    ∃ z, (Instr.indexAt t v u).run P w = .ok z w ∧ VR ρ r z := by
  unfold aIndexAddr at h
  split at h
  all_goals first
    | (cases h; done)
    | skip
  all_goals
    (rename_i hn hd
     obtain ⟨k, rfl⟩ := aNat_sound hn hi
     split at h
     · rename_i i hinf hlt
       have hlt := blt_t hlt
       cases h
       simp only [VR] at hx
       first
         | (obtain ⟨b, c, hr, _, rfl⟩ := hx; refine ⟨_, ?_, b, c, hr, rfl⟩)
         | (obtain ⟨b, c, hr, rfl⟩ := hx; refine ⟨_, ?_, b, c, hr, rfl⟩)
         | (subst hx; refine ⟨_, ?_, rfl⟩)
       simp only [Instr.indexAt, asIntOf, Sem.run_bind, run_und hd, Instr.sureAddr, Result.andThen_ok, Sem.run_pure]
       rw [if_pos ⟨by omega, by omega⟩]
       simp only [Sem.run_bind, run_size hinf, Result.andThen_ok, Sem.run_pure, Int.toNat_natCast, add_off]
     · cases h)
def aIndex (P : Program) (t : TypeId) (x ix : AV) : Option AV :=
  match aNat ix, P.underlying t, x with
  | some n, some .string, .str l => match l[n]? with
    | some c => some (.int .u8 (Int.ofNat c))
    | none => none
  | some n, some (.array len e), .agg l => match P.info? e, Nat.blt n len with
    | some i, true => aPart P e l (n * i.size)
    | _, _ => none
  | _, _, _ => none
theorem bs_get (l : List Nat) (n : Nat) : (bs l)[n]? = (l[n]?).map UInt8.ofNat := by
  have hs := bs_size l
  by_cases h : n < l.length
  · rw [ByteArray.getElem?_lt' _ _ (by omega), List.getElem?_eq_getElem h]
    simp only [Option.map_some]
    congr 1
    have h3 : (bs l).data.size = l.length := by simp [bs]
    show (bs l).data[n]'(by omega) = _
    simp [bs]
  · rw [ByteArray.getElem?_ge' _ _ (by omega), List.getElem?_eq_none (by omega)]; rfl
theorem aIndex_sound {P : Program} {ρ : Ren} {t : TypeId} {x ix r : AV} {v u : Value} (h : aIndex P t x ix = some r) (hx : VR ρ x v) (hi : VR ρ ix u) (w : World) :
    ∃ z, (Instr.index t v u).run P w = .ok z w ∧ VR ρ r z := by
  unfold aIndex at h
  split at h
  · rename_i n l hn hd
    obtain ⟨k, rfl⟩ := aNat_sound hn hi
    simp only [VR] at hx
    obtain ⟨rfl, hl⟩ := hx
    split at h
    · rename_i c hc
      cases h
      have hm : c < 256 := hl c (List.mem_of_getElem? hc)
      refine ⟨.int .u8 (Int.ofNat c), ?_, rfl⟩
      have e : (bs l)[n]? = some (UInt8.ofNat c) := by rw [bs_get, hc]; rfl
      simp [Instr.index, asIntOf, run_und hd, e, Nat.mod_eq_of_lt hm]
    · cases h
  · rename_i n len e l hn hd
    obtain ⟨k, rfl⟩ := aNat_sound hn hi
    simp only [VR] at hx
    obtain ⟨vs, rfl, hl⟩ := hx
    split at h
    · rename_i i hinf hlt
      have hlt := blt_t hlt
      obtain ⟨z, hz, r⟩ := aPart_sound h hl w
      exact ⟨z, by simp [Instr.index, asIntOf, run_und hd, hlt, run_size hinf, hz], r⟩
    · cases h
  · cases h
def aConvert (P : Program) (s d : TypeId) (x : AV) : Option AV :=
  match P.underlying s, P.underlying d, x with
  | some _, some (.int k), .int _ n => some (.int k (wrapF k n))
  | some _, some .string, .str l => some (.str l)
  | some (.slice e), some .string, .nilSlice => match P.underlying e with
    | some (.int .u8) => some (.str [])
    | _ => none
  | _, _, _ => none
theorem aConvert_sound {P : Program} {ρ : Ren} {s d : TypeId} {x r : AV} {v : Value} (h : aConvert P s d x = some r) (hx : VR ρ x v) (w : World) :
    ∃ z, (convert s d v).run P w = .ok z w ∧ VR ρ r z := by
  unfold aConvert at h
  split at h
  · rename_i hs hd
    cases h
    simp only [VR] at hx
    subst hx
    exact ⟨_, by simp only [convert, Sem.run_bind, run_und hs, run_und hd, Result.andThen_ok]; rfl, by simp [VR, wrapF_eq]⟩
  · rename_i hs hd
    cases h
    simp only [VR] at hx
    obtain ⟨rfl, hl⟩ := hx
    exact ⟨_, by simp only [convert, Sem.run_bind, run_und hs, run_und hd, Result.andThen_ok]; rfl, rfl, hl⟩
  · rename_i e hs hd
    simp only [VR] at hx
    subst hx
    split at h
    · rename_i he
      cases h
      refine ⟨.string (bs []), ?_, rfl, by simp⟩
      simp only [convert, Sem.run_bind, run_und hs, run_und hd, run_und he, Result.andThen_ok]
      rfl
    · cases h
  · cases h
def aAssert (P : Program) (x : AV) (t : TypeId) (ok : Bool) : Option AV :=
  match P.underlying t with
  | none => none
  | some d => match d, x with
    | .interface _, .nilIface => match ok with
      | true => match zeroOf P t with
        | some z => some (.tuple [z, .bool false])
        | none => none
      | false => none
    | .interface want, .iface u _ => match P.info? u with
      | none => none
      | some i => match Instr.missingMethod want i.methods with
        | none => some (match ok with | true => .tuple [x, .bool true] | false => x)
        | some _ => match ok with
          | true => match zeroOf P t with
            | some z => some (.tuple [z, .bool false])
            | none => none
          | false => none
    | _, .nilIface => match ok with
      | true => match zeroOf P t with
        | some z => some (.tuple [z, .bool false])
        | none => none
      | false => none
    | _, .iface u v => match Nat.beq u t with
      | true => some (match ok with | true => .tuple [v, .bool true] | false => v)
      | false => match ok with
        | true => match zeroOf P t with
          | some z => some (.tuple [z, .bool false])
          | none => none
        | false => none
    | _, _ => none
theorem aAssert_sound {P : Program} {ρ : Ren} {x r : AV} {xt t : TypeId} {ok : Bool} {v : Value} (h : aAssert P x t ok = some r) (hx : VR ρ x v) (w : World) :
    ∃ z, (Instr.typeAssert v xt t ok).run P w = .ok z w ∧ VR ρ r z := by
  have zz : ∀ {a : AV}, zeroOf P t = some a → ∃ z, (zeroValue t).run P w = .ok z w ∧ VR ρ a z := fun h => by
    obtain ⟨i, z, hi, hz, rr⟩ := zeroOf_sound h ρ
    exact ⟨z, run_zero hi hz, rr⟩
  unfold aAssert at h
  split at h
  · cases h
  rename_i d hd
  split at h
  · simp only [VR] at hx; subst hx
    split at h
    · split at h
      · rename_i z hz
        cases h
        obtain ⟨z', e, rr⟩ := zz hz
        exact ⟨_, by simp [Instr.typeAssert, run_und hd, e], _, rfl, VRL.cons rr (VRL.cons rfl VRL.nil)⟩
      · cases h
    · cases h
  · simp only [VR] at hx
    obtain ⟨v', rfl, hv⟩ := hx
    split at h
    · cases h
    rename_i i hi
    split at h
    · rename_i hm
      cases ok
      · cases h
        exact ⟨_, by simp [Instr.typeAssert, run_und hd, run_info hi, hm], _, rfl, hv⟩
      · cases h
        exact ⟨_, by simp [Instr.typeAssert, run_und hd, run_info hi, hm], _, rfl, VRL.cons ⟨_, rfl, hv⟩ (VRL.cons rfl VRL.nil)⟩
    · rename_i m hm
      split at h
      · split at h
        · rename_i z hz
          cases h
          obtain ⟨z', e, rr⟩ := zz hz
          exact ⟨_, by simp [Instr.typeAssert, run_und hd, run_info hi, hm, e], _, rfl, VRL.cons rr (VRL.cons rfl VRL.nil)⟩
        · cases h
      · cases h
  · rename_i hni
    simp only [VR] at hx; subst hx
    split at h
    · split at h
      · rename_i z hz
        cases h
        obtain ⟨z', e, rr⟩ := zz hz
        refine ⟨.tuple #[z', .bool false], ?_, _, rfl, VRL.cons rr (VRL.cons rfl VRL.nil)⟩
        cases d <;> first | exact absurd rfl (hni _) | (simp [Instr.typeAssert, run_und hd, e])
      · cases h
    · cases h
  · rename_i u v0 hni
    simp only [VR] at hx
    obtain ⟨v', rfl, hv⟩ := hx
    split at h
    · rename_i hq
      have hq := Nat.eq_of_beq_eq_true hq
      cases ok
      · cases h
        refine ⟨v', ?_, hv⟩
        cases d <;> first | exact absurd rfl (hni _) | (simp [Instr.typeAssert, run_und hd, hq])
      · cases h
        refine ⟨.tuple #[v', .bool true], ?_, _, rfl, VRL.cons hv (VRL.cons rfl VRL.nil)⟩
        cases d <;> first | exact absurd rfl (hni _) | (simp [Instr.typeAssert, run_und hd, hq])
    · rename_i hq
      have hq := beq_f hq
      split at h
      · split at h
        · rename_i z hz
          cases h
          obtain ⟨z', e, rr⟩ := zz hz
          refine ⟨.tuple #[z', .bool false], ?_, _, rfl, VRL.cons rr (VRL.cons rfl VRL.nil)⟩
          cases d <;> first | exact absurd rfl (hni _) | (simp [Instr.typeAssert, run_und hd, hq, e])
        · cases h
      · cases h
  · cases h
end Go.Ev
