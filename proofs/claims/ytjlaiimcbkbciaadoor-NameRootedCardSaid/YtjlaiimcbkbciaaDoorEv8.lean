/- Literals of structs and arrays; and all operations that look at no memory in one function. -/
import Derived.Test.YtjlaiimcbkbciaaDoorEv7
noncomputable section
namespace Go.Ev
open Go
theorem fold_set (off : Nat) : ∀ (xs : List Value) (k : Nat) (arr : Array Value) (j : Nat), off + k + xs.length ≤ arr.size →
    ((xs.zipIdx k).foldl (fun cs (c, j) => cs.setIfInBounds (off + j) c) arr)[j]? = if off + k ≤ j ∧ j < off + k + xs.length then xs[j - (off + k)]? else arr[j]? := by
  intro xs
  induction xs with
  | nil => intro k arr j _; simp; intro h1 h2; omega
  | cons x xs ih =>
    intro k arr j h
    simp only [List.length_cons] at h
    simp only [List.zipIdx_cons, List.foldl_cons]
    rw [ih (k + 1) _ j (by simp; omega), Array.getElem?_setIfInBounds]
    simp only [List.length_cons]
    by_cases h1 : off + (k + 1) ≤ j ∧ j < off + (k + 1) + xs.length
    · rw [if_pos h1, if_pos (by omega), show j - (off + k) = (j - (off + (k + 1))) + 1 from by omega, List.getElem?_cons_succ]
    · rw [if_neg h1]
      by_cases h2 : off + k = j
      · rw [if_pos h2, if_pos (by omega), if_pos (by omega), show j - (off + k) = 0 from by omega]; rfl
      · rw [if_neg h2, if_neg (by omega)]
theorem fold_size (off : Nat) : ∀ (xs : List Value) (k : Nat) (arr : Array Value), ((xs.zipIdx k).foldl (fun cs (c, j) => cs.setIfInBounds (off + j) c) arr).size = arr.size := by
  intro xs
  induction xs with
  | nil => intro k arr; rfl
  | cons x xs ih => intro k arr; simp only [List.zipIdx_cons, List.foldl_cons]; rw [ih]; simp
def aFill (place : Nat → Option (Nat × Nat)) (cells : List AV) : List (Nat × AV) → Option (List AV)
  | [] => some cells
  | (i, a) :: rest => match place i with
    | none => none
    | some (off, size) => match Nat.beq a.cells.length size && Nat.ble (off + size) cells.length with
      | true => aFill place (cells.take off ++ (a.cells ++ cells.drop (off + size))) rest
      | false => none
def PartsR (ρ : Ren) : List (Nat × AV) → List (Nat × Value) → Prop
  | [], ps => ps = []
  | (i, a) :: l, ps => ∃ v qs, ps = (i, v) :: qs ∧ VR ρ a v ∧ PartsR ρ l qs
theorem aFill_sound {ρ : Ren} {place : Nat → Option (Nat × Nat)} : ∀ (parts : List (Nat × AV)) (ps : List (Nat × Value)) (cells r : List AV) (arr : Array Value),
    aFill place cells parts = some r → PartsR ρ parts ps → VRL ρ cells arr.toList → ∃ out, Instr.fill place arr ps = some out ∧ VRL ρ r out.toList
  | [], ps, cells, r, arr, h, hp, hc => by
    simp [PartsR] at hp; subst hp
    simp [aFill] at h; subst h
    exact ⟨arr, rfl, hc⟩
  | (i, a) :: l, ps, cells, r, arr, h, hp, hc => by
    obtain ⟨v, qs, rfl, hv, hq⟩ := hp
    unfold aFill at h
    split at h
    · cases h
    rename_i off size hpl
    split at h
    · rename_i hb
      obtain ⟨b1, b2⟩ := bAnd hb
      have b1 := Nat.eq_of_beq_eq_true b1
      have b2 := Nat.le_of_ble_eq_true b2
      have hcl := hv.cells
      have hlen := hcl.length
      have hcs := hc.length
      simp only [Array.length_toList] at hcs hlen
      have hz : v.cells.zipIdx.foldl (fun cs (c, j) => cs.setIfInBounds (off + j) c) arr = (v.cells.toList.zipIdx 0).foldl (fun cs (c, j) => cs.setIfInBounds (off + j) c) arr := by
        rw [← Array.foldl_toList]
        congr 1
        simp
      have hstep : VRL ρ (cells.take off ++ (a.cells ++ cells.drop (off + size))) (v.cells.zipIdx.foldl (fun cs (c, j) => cs.setIfInBounds (off + j) c) arr).toList := by
        rw [hz]
        refine VRL.mk ?_ fun j b hj => ?_
        · rw [Array.length_toList, fold_size]; simp; omega
        · rw [Array.getElem?_toList, fold_set off _ 0 arr j (by simp; omega)]
          rw [List.getElem?_append] at hj
          simp only [List.length_take] at hj
          by_cases c1 : j < off
          · rw [if_pos (by omega)] at hj
            rw [if_neg (by omega)]
            rw [List.getElem?_take, if_pos c1] at hj
            simpa using hc.get j b hj
          · rw [if_neg (by omega)] at hj
            rw [List.getElem?_append] at hj
            by_cases c2 : j - min off cells.length < a.cells.length
            · rw [if_pos c2] at hj
              rw [if_pos (by simp; omega)]
              rw [show j - (off + 0) = j - min off cells.length from by omega]
              exact hcl.get _ b hj
            · rw [if_neg c2] at hj
              rw [if_neg (by simp; omega)]
              rw [List.getElem?_drop] at hj
              rw [show off + size + (j - min off cells.length - a.cells.length) = j from by omega] at hj
              simpa using hc.get j b hj
      obtain ⟨out, ho, hr⟩ := aFill_sound l qs _ r _ h hq hstep
      refine ⟨out, ?_, hr⟩
      unfold Instr.fill
      simp only [hpl]
      rw [if_neg (by simp; omega)]
      exact ho
    · cases h
def aPlaces (P : Program) (fields : List Field) : Option (List (Nat × Nat)) :=
  match fields with
  | [] => some []
  | f :: l => match P.info? f.type with
    | none => none
    | some i => match aPlaces P l with
      | none => none
      | some m => some ((f.offset, i.size) :: m)
theorem aPlaces_sound {P : Program} {w : World} : ∀ {fields : List Field} {m : List (Nat × Nat)}, aPlaces P fields = some m →
    (fields.mapM fun f => do pure (f.offset, ← sizeOf f.type) : Sem (List (Nat × Nat))).run P w = .ok m w
  | [], m, h => by simp [aPlaces] at h; subst h; rfl
  | f :: l, m, h => by
    unfold aPlaces at h
    split at h
    · cases h
    rename_i i hi
    split at h
    · cases h
    rename_i m' hm
    cases h
    rw [List.mapM_cons]
    simp only [Sem.run_bind, run_size hi, Result.andThen_ok, Sem.run_pure, aPlaces_sound hm]
def aBuild (P : Program) (t : TypeId) (parts : List (Nat × AV)) : Option AV :=
  match zeroOf P t with
  | none => none
  | some z => match P.underlying t with
    | some (.struct fields) => match aPlaces P fields.toList with
      | none => none
      | some m => match aFill (m[·]?) z.cells parts with
        | some l => some (.agg l)
        | none => none
    | some (.array _ e) => match P.info? e with
      | none => none
      | some i => match aFill (fun k => some (k * i.size, i.size)) z.cells parts with
        | some l => some (.agg l)
        | none => none
    | _ => none
theorem aBuild_sound {P : Program} {ρ : Ren} {t : TypeId} {parts : List (Nat × AV)} {r : AV} {ps : Array (Nat × Value)} (h : aBuild P t parts = some r) (hp : PartsR ρ parts ps.toList) (w : World) :
    ∃ z, (Instr.build t ps).run P w = .ok z w ∧ VR ρ r z := by
  unfold aBuild at h
  split at h
  · cases h
  rename_i z hz
  obtain ⟨i0, z0, hi0, hz0, hr0⟩ := zeroOf_sound hz ρ
  split at h
  · rename_i fields hd
    split at h
    · cases h
    rename_i m hm
    split at h
    · rename_i l hl
      cases h
      obtain ⟨out, ho, hr⟩ := aFill_sound _ _ _ _ _ hl hp hr0.cells
      refine ⟨.agg out, ?_, out.toList, by simp, hr⟩
      have hpl : (fields.mapM fun f => do pure (f.offset, ← sizeOf f.type) : Sem (Array (Nat × Nat))).run P w = .ok m.toArray w := by
        rw [← Array.toArray_toList (xs := fields)]
        rw [List.mapM_toArray]
        rw [Sem.run_map, aPlaces_sound hm]
        rfl
      simp only [Instr.build, Sem.run_bind, run_zero hi0 hz0, run_und hd, Result.andThen_ok, hpl]
      have : (fun k : Nat => m.toArray[k]?) = (fun k : Nat => m[k]?) := by funext k; simp
      rw [this, ho]
      rfl
    · cases h
  · rename_i n e hd
    split at h
    · cases h
    rename_i i hi
    split at h
    · rename_i l hl
      cases h
      obtain ⟨out, ho, hr⟩ := aFill_sound _ _ _ _ _ hl hp hr0.cells
      refine ⟨.agg out, ?_, out.toList, by simp, hr⟩
      simp only [Instr.build, Sem.run_bind, run_zero hi0 hz0, run_und hd, Result.andThen_ok, run_size hi, ho]
      rfl
    · cases h
  · cases h
def aBuiltin (P : Program) (b : Builtin) (ts : Array TypeId) (args : List AV) : Option AV :=
  match b, args with
  | .len, [x] => match ts[0]? with
    | none => none
    | some t => match P.underlying t, x with
      | some .string, .str l => some (.int .i64 (Int.ofNat l.length))
      | some (.array n _), _ => some (.int .i64 (Int.ofNat n))
      | some (.slice _), .slice _ _ n _ | some (.slice _), .sliceC _ _ n _ => some (.int .i64 (Int.ofNat n))
      | some (.slice _), .nilSlice | some (.slice _), .eslice _ => some (.int .i64 0)
      | some (.map _ _), .nilMap => some (.int .i64 0)
      | _, _ => none
  | .min, [.int k x, .int _ y] => some (.int k (match ltI y x with | true => y | false => x))
  | .max, [.int k x, .int _ y] => some (.int k (match ltI x y with | true => y | false => x))
  | _, _ => none
theorem aBuiltin_sound {P : Program} {ρ : Ren} {b : Builtin} {ts : Array TypeId} {args : List AV} {r : AV} {vs : Array Value} (h : aBuiltin P b ts args = some r) (ha : VRL ρ args vs.toList) (w : World) (t : TypeId) (cs : Array Bool) :
    ∃ z, (builtin b ts t cs vs).run P w = .ok (.value z) w ∧ VR ρ r z := by
  unfold aBuiltin at h
  split at h
  · rename_i x
    obtain ⟨v, ws, he, hx, hn⟩ := ha
    simp only [VRL] at hn
    subst hn
    have hvs : vs = #[v] := by apply Array.ext'; simpa using he
    subst hvs
    split at h
    · cases h
    rename_i t0 ht
    have key : ∀ n : Nat, (Builtin.len_ ts t #[v]).run P w = .ok (goInt n) w → ∃ z, (builtin .len ts t cs #[v]).run P w = .ok (.value z) w ∧ VR ρ (.int .i64 (Int.ofNat n)) z := fun n hr =>
      ⟨goInt n, by simp [builtin, hr], rfl⟩
    split at h
    · rename_i l hd
      cases h
      simp only [VR] at hx
      obtain ⟨rfl, _⟩ := hx
      refine key _ ?_
      simp [Builtin.len_, ht, run_und hd, bs_size]
    · rename_i n e hd
      cases h
      refine key _ ?_
      simp [Builtin.len_, ht, run_und hd]
    · rename_i e g o n c hd
      cases h
      simp only [VR] at hx
      obtain ⟨_, _, _, _, rfl⟩ := hx
      refine key _ ?_
      simp [Builtin.len_, ht, run_und hd]
    · rename_i e g o n c hd
      cases h
      simp only [VR] at hx
      obtain ⟨_, _, _, rfl⟩ := hx
      refine key _ ?_
      simp [Builtin.len_, ht, run_und hd]
    · rename_i e hd
      cases h
      simp only [VR] at hx
      subst hx
      refine key 0 ?_
      simp [Builtin.len_, ht, run_und hd]
    · rename_i e g hd
      cases h
      simp only [VR] at hx
      obtain ⟨_, _, _, _, _, rfl⟩ := hx
      refine key 0 ?_
      simp [Builtin.len_, ht, run_und hd]
    · rename_i k e hd
      cases h
      simp only [VR] at hx
      subst hx
      refine key 0 ?_
      simp [Builtin.len_, ht, run_und hd]
    · cases h
  · rename_i k x k' y
    obtain ⟨v, ws, he, hx, v2, ws2, rfl, hy, hn⟩ := ha
    simp only [VRL] at hn
    subst hn
    simp only [VR] at hx hy
    subst hx hy
    have hvs : vs = #[.int k x, .int k' y] := by apply Array.ext'; simpa using he
    subst hvs
    cases h
    refine ⟨_, by simp [builtin, Builtin.min_, Builtin.min2]; rfl, ?_⟩
    simp only [VR, ltI_eq]
    by_cases c : y < x <;> simp [c]
  · rename_i k x k' y
    obtain ⟨v, ws, he, hx, v2, ws2, rfl, hy, hn⟩ := ha
    simp only [VRL] at hn
    subst hn
    simp only [VR] at hx hy
    subst hx hy
    have hvs : vs = #[.int k x, .int k' y] := by apply Array.ext'; simpa using he
    subst hvs
    cases h
    refine ⟨_, by simp [builtin, Builtin.max_, Builtin.max2]; rfl, ?_⟩
    simp only [VR, ltI_eq]
    by_cases c : x < y <;> simp [c]
  · cases h
end Go.Ev
