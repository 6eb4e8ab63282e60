/- append, copy, conversions between texts and bytes. -/
import Derived.Test.YtjlaiimcbkbciaaDoorEv11
noncomputable section
namespace Go.Ev
open Go
section
variable {P : Program} {B : Bas} {ρ : Ren} {H : AHeap} {w : World}
/-- What append and copy read: how many elements, their cells. -/
def aSrc (H : AHeap) (size : Nat) (x : AV) : Option (Nat × List AV) :=
  match x with
  | .nilSlice => some (0, [])
  | .eslice _ => some (0, [])
  | .str l => match size with
    | 1 => some (l.length, l.map fun b => .int .u8 (Int.ofNat b))
    | _ => none
  | .slice g off n _ => match H.objs.get g with
    | some (.cells _ k _ t) => match Nat.ble (off + n * size) k with
      | true => match aLoadCells t (n * size) off with
        | some l => some (n, l)
        | none => none
      | false => none
    | _ => none
  | .sliceC g off n _ => match H.objs.get g with
    | some (.cells _ k _ t) => match Nat.ble (off + n * size) k with
      | true => match aLoadCells t (n * size) off with
        | some l => some (n, l)
        | none => none
      | false => none
    | _ => none
  | _ => none
theorem VRL.bytes (ρ : Ren) : ∀ (l : List Nat), (∀ x ∈ l, x < 256) → VRL ρ (l.map fun b => .int .u8 (Int.ofNat b)) ((l.map UInt8.ofNat).map fun b => Value.int .u8 b.toNat)
  | [], _ => VRL.nil
  | x :: l, h => by
    refine VRL.cons ?_ (VRL.bytes ρ l fun y hy => h y (by simp [hy]))
    have := h x (by simp)
    simp [VR, Nat.mod_eq_of_lt this]
theorem aSrc_sound (h : HR P B ρ H w) {size n : Nat} {x : AV} {l : List AV} {v : Value} (hs : aSrc H size x = some (n, l)) (hx : VR ρ x v) :
    ∃ vs, VRL ρ l vs ∧ vs.length = n * size ∧ (∀ w' : World, (Builtin.lenOf v).run P w' = .ok n w') ∧ ∀ w' : World, w'.heap = w.heap → (Builtin.firstCells size n v).run P w' = .ok vs.toArray w' := by
  have cells : ∀ {g off k cap : Nat} {b cp : Nat} {e : TypeId} {c : Option Nat} {t : Tr AV} {l : List AV}, H.objs.get g = some (.cells e k c t) → ρ g = some (b, cp) → off + n * size ≤ k → aLoadCells t (n * size) off = some l →
      ∃ vs, VRL ρ l vs ∧ vs.length = n * size ∧ (∀ w' : World, (Builtin.lenOf (.slice (some ⟨b, off, none⟩) n cap)).run P w' = .ok n w') ∧ ∀ w' : World, w'.heap = w.heap → (Builtin.firstCells size n (.slice (some ⟨b, off, none⟩) n cap)).run P w' = .ok vs.toArray w' := by
    intro g off k cap b cp e c t l hg hr hle hl
    obtain ⟨vs, h1, h2, h3⟩ := h.cellsL hg hr _ _ _ hl hle
    refine ⟨vs, h1, h2, fun w' => rfl, fun w' hw => ?_⟩
    refine run_firstCells_some w' size n _ n cap vs h2 fun j v hj => ?_
    rw [add_off]
    have := h3 j v hj
    simpa [World.cell?, hw] using this
  unfold aSrc at hs
  split at hs
  · cases hs
    simp only [VR] at hx; subst hx
    exact ⟨[], VRL.nil, by simp, fun _ => rfl, fun w' _ => by simp [Builtin.firstCells]⟩
  · cases hs
    simp only [VR] at hx
    obtain ⟨b, c, _, off, cap, rfl⟩ := hx
    exact ⟨[], VRL.nil, by simp, fun _ => rfl, fun w' _ => by simp [Builtin.firstCells, loadCells, loadCellsFrom]⟩
  · rename_i l'
    split at hs
    · cases hs
      simp only [VR] at hx
      obtain ⟨rfl, hl⟩ := hx
      refine ⟨_, VRL.bytes ρ l' hl, by simp, fun _ => by simp [Builtin.lenOf, bs_size], fun w' _ => ?_⟩
      simp only [Builtin.firstCells, Sem.run_pure]
      congr 1
      apply Array.ext'
      rw [bs_extract]
      simp [bs]
    · cases hs
  · rename_i g off n' sh
    split at hs
    · rename_i e k c t hg
      split at hs
      · rename_i hb
        split at hs
        · rename_i l' hl
          cases hs
          simp only [VR] at hx
          obtain ⟨b, cp, hr, _, rfl⟩ := hx
          exact cells hg hr (Nat.le_of_ble_eq_true hb) hl
        · cases hs
      · cases hs
    · cases hs
  · rename_i g off n' cap
    split at hs
    · rename_i e k c t hg
      split at hs
      · rename_i hb
        split at hs
        · rename_i l' hl
          cases hs
          simp only [VR] at hx
          obtain ⟨b, cp, hr, rfl⟩ := hx
          exact cells hg hr (Nat.le_of_ble_eq_true hb) hl
        · cases hs
      · cases hs
    · cases hs
  · cases hs

/-- What append does where there is room. -/
theorem append_fits {ts : Array TypeId} {ty t u e : TypeId} {d : TypeDesc} {i : TypeInfo} {base : Option Addr} {sLen sCap n : Nat} {v : Value} {vs : List Value}
    (h0 : ts[0]? = some t) (h1 : ts[1]? = some u) (ht : P.underlying t = some (.slice e)) (hu : P.underlying u = some d) (hd : ∀ k, d ≠ .int k) (hi : P.info? e = some i)
    (hn : ∀ w' : World, (Builtin.lenOf v).run P w' = .ok n w') (hc : (Builtin.firstCells i.size n v).run P w = .ok vs.toArray w) (hfit : sLen + n ≤ sCap) :
    (Builtin.append_ ts ty #[.slice base sLen sCap, v]).run P w =
      (match base with
        | some a => ((storeCells (a.add (sLen * i.size)) vs 0).run P w).andThen fun _ w' => .ok (.slice base (sLen + n) sCap) w'
        | none => .ok (.slice base (sLen + n) sCap) w) := by
  have hz : (match d with | .int _ => true | _ => false) = false := by cases d <;> first | rfl | exact absurd rfl (hd _)
  simp only [Builtin.append_, h0, h1, Sem.run_bind, run_und ht, run_und hu, run_size hi, Result.andThen_ok, Sem.run_pure, List.getElem?_toArray, List.getElem?_cons_zero, List.getElem?_cons_succ]
  simp only [hz, Bool.false_eq_true, if_false, Sem.run_bind, hn, Result.andThen_ok, hfit, if_true, Bool.not_false, hc]
  cases base with
  | none => simp
  | some a => simp
/-- What append does where there is none. -/
theorem append_grows {ts : Array TypeId} {ty t u e : TypeId} {d : TypeDesc} {i : TypeInfo} {z : Value} {base : Option Addr} {sLen sCap n : Nat} {v : Value} {vs us : List Value}
    (h0 : ts[0]? = some t) (h1 : ts[1]? = some u) (ht : P.underlying t = some (.slice e)) (hu : P.underlying u = some d) (hd : ∀ k, d ≠ .int k) (hi : P.info? e = some i) (hz0 : i.zero = some z)
    (hn : ∀ w' : World, (Builtin.lenOf v).run P w' = .ok n w') (hc : (Builtin.firstCells i.size n v).run P w.drew = .ok vs.toArray w.drew) (ho : (Builtin.firstCells i.size sLen (.slice base sLen sCap)).run P w.drew = .ok us.toArray w.drew)
    (hfit : sCap < sLen + n) (hb : (sLen + n) * i.bytes ≤ 140737488355328) (hsm : sLen + n ≤ 1000000000) :
    (Builtin.append_ ts ty #[.slice base sLen sCap, v]).run P w =
      .ok (.slice (some ⟨w.heap.size, 0, none⟩) (sLen + n) (grownCap w (sLen + n) sCap e))
        (w.drew.alloc (.cells (us.toArray ++ vs.toArray ++ Builtin.zeroCells z.cells (grownCap w (sLen + n) sCap e - (sLen + n))) e)) := by
  have hz : (match d with | .int _ => true | _ => false) = false := by cases d <;> first | rfl | exact absurd rfl (hd _)
  have hnf : ¬ (sLen + n ≤ sCap) := by omega
  have h48 := growslice_fits hfit hb
  have h48' : ¬ (Builtin.nextslicecap (sLen + n) sCap * i.bytes > 2 ^ 48) := by omega
  have h63 : ¬ (((sLen + n : Nat) : Int) > IntKind.i64.max ∧ (False ∨ i.bytes = 0)) := by
    rw [IntKind.max_i64]; omega
  simp only [Builtin.append_, h0, h1, Sem.run_bind, run_und ht, run_und hu, run_size hi, Result.andThen_ok, Sem.run_pure, List.getElem?_toArray, List.getElem?_cons_zero, List.getElem?_cons_succ]
  simp only [hz, Bool.false_eq_true, if_false, Sem.run_bind, hn, Result.andThen_ok, hnf, run_info hi]
  rw [if_neg h63]
  simp only [Sem.run_bind, run_info hi, Result.andThen_ok]
  rw [if_neg h48']
  simp only [Sem.run_bind, run_choose, Question.forced, Bool.false_eq_true, if_false, Result.andThen_ok, run_askRoom, World.drew_eq, run_info hi, ho, Bool.not_false, if_true, hc, run_zero hi hz0, run_newRow, Sem.run_pure, grownCap]
  rfl
end
end Go.Ev
