/- The rest of the operations that look at no memory. -/
import Derived.Test.YtjlaiimcbkbciaaDoorEv5
noncomputable section
namespace Go.Ev
open Go
def aNat : AV → Option Nat
  | .int _ (.ofNat n) => some n
  | _ => none
theorem aNat_sound {ρ : Ren} {a : AV} {n : Nat} {v : Value} (h : aNat a = some n) (r : VR ρ a v) : ∃ k, v = .int k (n : Int) := by
  unfold aNat at h
  split at h
  · cases h; exact ⟨_, r⟩
  · cases h
def aLo (x : Option AV) (d : Nat) : Option Nat :=
  match x with
  | none => some d
  | some a => aNat a
def VRO (ρ : Ren) (x : Option AV) (v : Option Value) : Prop :=
  match x, v with
  | none, none => True
  | some a, some v => VR ρ a v
  | _, _ => False
theorem bounds_run {P : Program} {w : World} {ρ : Ren} (isS : Bool) {len cap l h : Nat} {lo hi : Option AV} {vl vh : Option Value} (hl : aLo lo 0 = some l) (hh : aLo hi len = some h)
    (rl : VRO ρ lo vl) (rh : VRO ρ hi vh) (h1 : l ≤ h) (h2 : h ≤ cap) : (Instr.sliceBounds isS len cap vl vh none).run P w = .ok (l, h, cap) w := by
  have e1 : (match vh with
      | some v => Instr.sliceBound v cap (if isS = true then .sliceAcap else .sliceAlen)
      | none => pure len : Sem Nat).run P w = .ok h w := by
    unfold aLo at hh
    cases hi with
    | none =>
      cases vh with
      | none => simp at hh; subst hh; rfl
      | some v => exact absurd rh (by simp [VRO])
    | some a =>
      cases vh with
      | none => exact absurd rh (by simp [VRO])
      | some v =>
        obtain ⟨k, rfl⟩ := aNat_sound hh rh
        simp only
        rw [run_sliceBound (h0 := by omega) (h1 := by omega)]
        simp
  have e2 : (match vl with
      | some v => Instr.sliceBound v h .sliceB
      | none => pure 0 : Sem Nat).run P w = .ok l w := by
    unfold aLo at hl
    cases lo with
    | none =>
      cases vl with
      | none => simp at hl; subst hl; rfl
      | some v => exact absurd rl (by simp [VRO])
    | some a =>
      cases vl with
      | none => exact absurd rl (by simp [VRO])
      | some v =>
        obtain ⟨k, rfl⟩ := aNat_sound hl rl
        simp only
        rw [run_sliceBound (h0 := by omega) (h1 := by omega)]
        simp
  unfold Instr.sliceBounds
  cases vh with
  | none =>
    cases vl with
    | none => simp at e1 e2; subst e1; simp [← e2]
    | some v => simp at e1 e2; subst e1; simp [e2]
  | some u =>
    cases vl with
    | none => simp at e1 e2; simp [e1, ← e2]
    | some v => simp at e1 e2; simp [e1, e2]
def aSlice (P : Program) (t : TypeId) (x : AV) (lo hi : Option AV) : Option AV :=
  match P.underlying t, x with
  | some .string, .str s => match aLo lo 0, aLo hi s.length with
    | some l, some h => match Nat.ble l h && Nat.ble h s.length with
      | true => some (.str ((s.drop l).take (h - l)))
      | false => none
    | _, _ => none
  | some (.slice e), .nilSlice => match aLo lo 0, aLo hi 0 with
    | some 0, some 0 => match P.info? e with
      | some _ => some .nilSlice
      | none => none
    | _, _ => none
  | some (.slice e), .slice g off len sh => match P.info? e, aLo lo 0, aLo hi len with
    | some i, some l, some h => match Nat.ble l h && Nat.ble h len with
      | true => match Nat.blt l len || Nat.beq l 0 with
        | true => some (.slice g (off + l * i.size) (h - l) (sh + l))
        | false => some (.eslice g)
      | false => none
    | _, _, _ => none
  | some (.slice e), .sliceC g off len cap => match P.info? e, aLo lo 0, aLo hi len with
    | some i, some l, some h => match Nat.ble l h && Nat.ble h cap with
      | true => match Nat.beq cap l with
        | true => some (.sliceC g off (h - l) (cap - l))
        | false => some (.sliceC g (off + l * i.size) (h - l) (cap - l))
      | false => none
    | _, _, _ => none
  | some (.slice e), .eslice g => match P.info? e, aLo lo 0, aLo hi 0 with
    | some _, some 0, some 0 => some (.eslice g)
    | _, _, _ => none
  | some (.array n e), .ptr g off => match P.info? e, aLo lo 0, aLo hi n with
    | some i, some l, some h => match Nat.ble l h && Nat.ble h n with
      | true => match Nat.beq n l with
        | true => some (.sliceC g off (h - l) (n - l))
        | false => some (.sliceC g (off + l * i.size) (h - l) (n - l))
      | false => none
    | _, _, _ => none
  | _, _ => none
theorem blt_t {a b : Nat} (h : Nat.blt a b = true) : a < b := Nat.le_of_ble_eq_true h
theorem blt_f {a b : Nat} (h : Nat.blt a b = false) : b ≤ a := by
  rcases Nat.lt_or_ge a b with h' | h'
  · have : Nat.blt a b = true := Nat.ble_eq_true_of_le h'
    rw [this] at h; cases h
  · exact h'
theorem beq_f {a b : Nat} (h : Nat.beq a b = false) : a ≠ b := fun e => by subst e; rw [Nat.beq_refl] at h; cases h
theorem bOrF {a b : Bool} (h : (a || b) = false) : a = false ∧ b = false := by simpa using h
theorem bOrT {a b : Bool} (h : (a || b) = true) : a = true ∨ b = true := by simpa using h
theorem bAnd {a b : Bool} (h : (a && b) = true) : a = true ∧ b = true := by simpa using h
theorem add_off (b off n : Nat) : (⟨b, off, none⟩ : Addr).add n = ⟨b, off + n, none⟩ := by
  unfold Addr.add
  split
  · rename_i h; subst h; rfl
  · rfl
theorem aSlice_sound {P : Program} {ρ : Ren} {t : TypeId} {x r : AV} {lo hi : Option AV} {v : Value} {vl vh : Option Value} (h : aSlice P t x lo hi = some r) (hx : VR ρ x v)
    (rl : VRO ρ lo vl) (rh : VRO ρ hi vh) (w : World) : ∃ z, (Instr.sliceAt t v vl vh none).run P w = .ok z w ∧ VR ρ r z := by
  unfold aSlice at h
  split at h
  · rename_i s hd
    simp only [VR] at hx
    obtain ⟨rfl, hs⟩ := hx
    split at h
    · rename_i l h' hl hh
      split at h
      · rename_i hc
        cases h
        obtain ⟨c1, c2⟩ := bAnd hc
        have c1 := Nat.le_of_ble_eq_true c1
        have c2 := Nat.le_of_ble_eq_true c2
        refine ⟨_, ?_, ⟨rfl, fun y hy => hs y (List.mem_of_mem_drop (List.mem_of_mem_take hy))⟩⟩
        have hb := bounds_run (P := P) (w := w) false (len := (bs s).size) (cap := (bs s).size) hl (by rw [bs_size]; exact hh) rl rh c1 (by rw [bs_size]; exact c2)
        simp only [Instr.sliceAt, Instr.slice, Sem.run_bind, run_und hd, Result.andThen_ok]
        simp [hb, bs_extract]
      · cases h
    · cases h
  · rename_i e hd
    simp only [VR] at hx
    subst hx
    split at h
    · rename_i hl hh
      split at h
      · rename_i i hi
        cases h
        refine ⟨_, ?_, rfl⟩
        have hb := bounds_run (P := P) (w := w) true (len := 0) (cap := 0) hl hh rl rh (Nat.le_refl _) (Nat.le_refl _)
        simp only [Instr.sliceAt, Instr.slice, Sem.run_bind, run_und hd, Result.andThen_ok]
        simp [hb, run_size hi]
      · cases h
    · cases h
  · rename_i e g off len sh hd
    simp only [VR] at hx
    obtain ⟨b, c, hr, hcap, rfl⟩ := hx
    split at h
    · rename_i i l h' hi hl hh
      split at h
      · rename_i hc
        obtain ⟨c1, c2⟩ := bAnd hc
        have c1 := Nat.le_of_ble_eq_true c1
        have c2 := Nat.le_of_ble_eq_true c2
        have hb := bounds_run (P := P) (w := w) true (len := len) (cap := c - sh) hl hh rl rh c1 (by omega)
        have hrun : (Instr.sliceAt t (.slice (some ⟨b, off, none⟩) len (c - sh)) vl vh none).run P w =
            .ok (.slice (some (if c - sh = l then ⟨b, off, none⟩ else ⟨b, off + l * i.size, none⟩)) (h' - l) (c - sh - l)) w := by
          simp only [Instr.sliceAt, Instr.slice, Sem.run_bind, run_und hd, Result.andThen_ok]
          simp only [hb, Result.andThen_ok, run_size hi, Sem.run_pure, Option.map_some, add_off]
          split <;> rfl
        split at h
        · rename_i hlt
          cases h
          refine ⟨_, hrun, b, c, hr, by omega, ?_⟩
          have : (if c - sh = l then (⟨b, off, none⟩ : Addr) else ⟨b, off + l * i.size, none⟩) = ⟨b, off + l * i.size, none⟩ := by
            by_cases h0 : l = 0
            · subst h0; simp
            · rw [if_neg]
              rcases bOrT hlt with h1 | h1
              · have := blt_t h1; omega
              · exact absurd (Nat.eq_of_beq_eq_true h1) h0
          rw [this, show c - sh - l = c - (sh + l) from by omega]
        · rename_i hlt
          cases h
          refine ⟨_, hrun, b, c, hr, ?_⟩
          have hl2 := blt_f (bOrF hlt).1
          have e0 : h' - l = 0 := by omega
          rw [e0]
          split
          · exact ⟨_, _, rfl⟩
          · exact ⟨_, _, rfl⟩
      · cases h
    · cases h
  · rename_i e g off len cap hd
    simp only [VR] at hx
    obtain ⟨b, c, hr, rfl⟩ := hx
    split at h
    · rename_i i l h' hi hl hh
      split at h
      · rename_i hc
        obtain ⟨c1, c2⟩ := bAnd hc
        have c1 := Nat.le_of_ble_eq_true c1
        have c2 := Nat.le_of_ble_eq_true c2
        have hb := bounds_run (P := P) (w := w) true (len := len) (cap := cap) hl hh rl rh c1 c2
        have hrun : (Instr.sliceAt t (.slice (some ⟨b, off, none⟩) len cap) vl vh none).run P w =
            .ok (.slice (some (if cap = l then ⟨b, off, none⟩ else ⟨b, off + l * i.size, none⟩)) (h' - l) (cap - l)) w := by
          simp only [Instr.sliceAt, Instr.slice, Sem.run_bind, run_und hd, Result.andThen_ok]
          simp only [hb, Result.andThen_ok, run_size hi, Sem.run_pure, Option.map_some, add_off]
          split <;> rfl
        split at h
        · rename_i hq
          cases h
          have hq := Nat.eq_of_beq_eq_true hq
          rw [if_pos hq] at hrun
          exact ⟨_, hrun, b, c, hr, rfl⟩
        · rename_i hq
          cases h
          have hq : cap ≠ l := fun e => by subst e; rw [Nat.beq_refl] at hq; cases hq
          rw [if_neg hq] at hrun
          exact ⟨_, hrun, b, c, hr, rfl⟩
      · cases h
    · cases h
  · rename_i e g hd
    simp only [VR] at hx
    obtain ⟨b, c, hr, off, cap, rfl⟩ := hx
    split at h
    · rename_i i hl hh hi
      cases h
      have hb := bounds_run (P := P) (w := w) true (len := 0) (cap := cap) hh hi rl rh (Nat.le_refl _) (by omega)
      refine ⟨_, ?_, b, c, hr, off, cap, rfl⟩
      simp only [Instr.sliceAt, Instr.slice, Sem.run_bind, run_und hd, Result.andThen_ok]
      simp only [hb, Result.andThen_ok, run_size hl, Sem.run_pure, Option.map_some, add_off]
      simp
    · cases h
  · rename_i n e g off hd
    simp only [VR] at hx
    obtain ⟨b, c, hr, rfl⟩ := hx
    split at h
    · rename_i i l h' hi hl hh
      split at h
      · rename_i hc
        obtain ⟨c1, c2⟩ := bAnd hc
        have c1 := Nat.le_of_ble_eq_true c1
        have c2 := Nat.le_of_ble_eq_true c2
        have hb := bounds_run (P := P) (w := w) false (len := n) (cap := n) hl hh rl rh c1 c2
        have hrun : (Instr.sliceAt t (.pointer (some ⟨b, off, none⟩)) vl vh none).run P w =
            .ok (.slice (some (if n = l then ⟨b, off, none⟩ else ⟨b, off + l * i.size, none⟩)) (h' - l) (n - l)) w := by
          simp only [Instr.sliceAt, Sem.run_bind, run_und hd, Result.andThen_ok, Instr.sureAddr, Sem.run_pure]
          simp only [hb, Result.andThen_ok, run_size hi, add_off]
        split at h
        · rename_i hq
          cases h
          have hq := Nat.eq_of_beq_eq_true hq
          rw [if_pos hq] at hrun
          exact ⟨_, hrun, b, c, hr, rfl⟩
        · rename_i hq
          cases h
          have hq : n ≠ l := fun e => by subst e; rw [Nat.beq_refl] at hq; cases hq
          rw [if_neg hq] at hrun
          exact ⟨_, hrun, b, c, hr, rfl⟩
      · cases h
    · cases h
  · cases h
end Go.Ev
