/- A region that draws its order: the barrier, the end, and the whole. -/
import Derived.Test.YtjlaiimcbkbciaaDoorEv25
noncomputable section
namespace Go.Ev
open Go
section
variable {E : Env} {call : CallEv} {ops : Array Oper} {n : Nat} {B : Bas} {A0 : Tr AV} {H0 : AHeap} {st : Nat → RS} {rr : Nat → RR}
variable {ρ0 : Ren} {w0 w : World} {a0 a : Act} {S : Nat → Prop} {ρ : Ren} {p : Nat} {g : Nat → Option AObj}
/-- All parts that were made apart, laid together, are what is told of. -/
theorem Inv.whole (R : Run E call ops n H0.lo A0 H0 st rr) (hbound : (st ops.size).next < 4000000000000000000) (I : Inv E.P B ops st rr A0 H0 ρ0 w0 a0 S a w ρ p g) {i : Nat} (hi : i ≤ ops.size) (hp : p ≤ i) (hst : (st i).p = p)
    (hall : ∀ j, p ≤ j → j < i → (rr j).kind = 1 → S j) (hnone : ∀ j, i ≤ j → j < ops.size → (rr j).kind = 1 → ¬ S j) : ∀ m, (mergeAll (st i).base.objs (st i).segs).get m = g m := by
  have s := R.seg i hi
  have sn := R.seg ops.size (Nat.le_refl _)
  have hbase : (st i).base = (st p).base := by rw [s.base, hst]
  intro m
  rcases mergeAll_get (st i).base.objs m (st i).segs (fun y hy => by
    obtain ⟨_, q3, _, q4⟩ := (s.segs y.1 y.2).1 hy
    have hyl : y.1 < ops.size := by omega
    obtain ⟨oy, hoy⟩ := some_of hyl
    obtain ⟨_, _, _, h4, _⟩ := stepR_cases (R.step y.1 oy hoy)
    have h6 : (rr y.1).k' ≤ (st ops.size).next := by rw [(sn.rks y.1 hyl).2]; exact sn.mono (y.1 + 1) (by omega)
    rw [q4]
    exact ⟨by omega, h4⟩) with ⟨y, y1, y2, y3, y4⟩ | ⟨y1, y2⟩
  · obtain ⟨q1, q2, q3, q4⟩ := (s.segs y.1 y.2).1 y1
    rw [q4] at y2 y3 y4
    rw [hst] at q1
    rw [y4, I.gs.own y.1 m (hall y.1 q1 q2 q3) q1 (by omega) q3 y2 y3]
  · rw [y2, hbase]
    by_cases c : ∃ j, S j ∧ p ≤ j ∧ j < ops.size ∧ (rr j).kind = 1 ∧ (rr j).k ≤ m ∧ m < (rr j).k'
    · obtain ⟨j, c1, c2, c3, c4, c5, c6⟩ := c
      have hji : j < i := by
        rcases Nat.lt_or_ge j i with h | h
        · exact h
        · exact absurd c1 (hnone j h c3 c4)
      rw [I.gs.own j m c1 c2 c3 c4 c5 c6]
      have hin : (j, rr j) ∈ (st i).segs := (s.segs j (rr j)).2 ⟨by rw [hst]; exact c2, hji, c4, rfl⟩
      have := y1 _ hin
      cases ho : (rr j).out.objs.get m with
      | some q => exact absurd ⟨c5, c6, by simp [ho]⟩ this
      | none =>
        cases hb : (st p).base.objs.get m with
        | none => rfl
        | some q =>
          have h8 := (I.baseOld m q hb).1
          have h9 := (sn.rks j c3).1
          have h10 := (R.seg j (Nat.le_of_lt c3)).mono p c2
          omega
    · exact (I.gs.rest m c).symm
theorem told_eq {H : AHeap} (h : ∀ m, H.objs.get m = g m) (b : Nat) : Told ρ H b ↔ ToldF ρ g b := by
  constructor
  · rintro ⟨m, o, cp, e, r⟩; exact ⟨m, o, cp, by rw [← h]; exact e, r⟩
  · rintro ⟨m, o, cp, e, r⟩; exact ⟨m, o, cp, by rw [h]; exact e, r⟩
/-- An operation of which all others that may look at memory stand ahead or behind. -/
theorem Inv.step2 (R : Run E call ops n H0.lo A0 H0 st rr) (F : Fine ops) (hn : a0.tmps.size = n) (I : Inv E.P B ops st rr A0 H0 ρ0 w0 a0 S a w ρ p g) {i : Nat} {o : Oper} (ho : ops[i]? = some o) (hi : ¬ S i)
    (hrd : ∀ j, j < ops.size → dep ops i j = true → S j) (hk : (rr i).kind = 2) (hp : p ≤ i)
    {v : Value} {w' : World} {ρ' : Ren} {L : Tr AObj} (hL : ∀ m, L.get m = g m) (hv : VR ρ' (rr i).r v) (hout : HR E.P B ρ' (rr i).out w')
    (hpost : Post ρ ⟨L, (st i).next, H0.lo⟩ w ρ' (rr i).out w') (hnx : (rr i).out.next = (rr i).k') (hlo0 : H0.lo ≤ H0.next) :
    Inv E.P B ops st rr A0 H0 ρ0 w0 a0 (fun j => j = i ∨ S j) (a.put o.dst v) w' ρ' (i + 1) (rr i).out.objs.get := by
  obtain ⟨h1, h2, h3, h4, h5⟩ := stepR_cases (R.step i o ho)
  have hil := lt_of ho
  have hbar : barrier ops i = true ∧ (st (i + 1)).p = i + 1 ∧ (st (i + 1)).base = (rr i).out := by
    rcases h5 with ⟨k0, _⟩ | ⟨k0, _⟩ | ⟨_, _, k1, k2, k3, _⟩
    · omega
    · omega
    · exact ⟨k1, k2, k3⟩
  obtain ⟨hb1, hb2, hb3⟩ := hbar
  have s := R.seg i (Nat.le_of_lt hil)
  have sn := R.seg ops.size (Nat.le_refl _)
  have hK : (rr i).k' ≤ (st ops.size).next := by rw [(sn.rks i hil).2]; exact sn.mono (i + 1) (by omega)
  have later : ∀ j, i < j → j < ops.size → (rr j).kind ≠ 0 → ¬ S j := by
    intro j c1 c2 c3 hS
    obtain ⟨q, hq⟩ := some_of c2
    obtain ⟨hh, _⟩ := kinds R hq c3
    rcases barrier_spec hb1 hq hh (by omega) with ⟨c, _⟩ | ⟨_, c⟩
    · omega
    · exact hi (I.closed j q i hS hq hil c)
  have hk0 : H0.next ≤ (rr i).k := by
    rw [h2]
    have := s.mono 0 (Nat.zero_le _)
    rw [R.start] at this
    exact this
  refine ⟨by omega, .inr ⟨by omega, by simpa using hk, .inl (by omega)⟩, hb2, fun j c1 c2 => ?_, fun j c1 c2 c3 c4 => ?_, ⟨fun j m hj c1 c2 c3 => ?_, fun m hm => by rw [hb3]⟩,
    hout.sub (fun _ _ e => e) (fun m q e => by have := hout.old m q e; omega) (fun m q c e ec => by have := hout.clo m q c e ec; omega) (by have := I.hr.lim; omega) (by omega),
    fun m q e => ?_, fun j hj c1 c2 c3 => ?_, fun j c1 c2 m u1 u2 => ?_,
    I.pf.step hpost.le (fun m x y => by
      have := hpost.new m x y
      simp only at this
      rw [hnx] at this
      rw [h2]
      exact this) hk0 hK (fun m hm => by rw [hpost.keep m hm]; exact hL m) hpost.os hpost.tape hpost.output hpost.size (fun b hb ht => hpost.frame b hb fun t => ht ((told_eq hL b).1 t)) (fun b hb => by
        rcases hpost.told b hb with c | c
        · exact .inl c
        · exact .inr ((told_eq hL b).1 c)),
    trStep F ho hi I.tr hpost.le hv (by rw [I.size, hn]; exact h1), by rw [Act.put_size]; exact I.size, by rw [Act.put_defers']; exact I.defers, closedStep I hrd⟩
  · rcases Nat.lt_or_ge j i with c | c
    · obtain ⟨q, hq⟩ := some_of (ops := ops) (i := j) (by omega)
      obtain ⟨hh, _⟩ := kinds R hq c2
      rcases barrier_spec hb1 hq hh (by omega) with ⟨_, d⟩ | ⟨d, _⟩
      · exact .inr (hrd j (by omega) d)
      · omega
    · exact .inl (by omega)
  · rcases c4 with c4 | c4
    · omega
    · exact later j (by omega) c2 (by omega) c4
  · rcases hj with hj | hj
    · omega
    · exact absurd hj (later j (by omega) c2 (by omega))
  · rw [hb3] at e
    rw [← h3, ← hnx]
    exact ⟨hout.old m q e, fun c hc => hout.clo m q c e hc⟩
  · rcases hj with hj | hj
    · omega
    · exact absurd hj (later j (by omega) c2 (by omega))
  · have hj : ¬ S j := fun h => c2 (.inr h)
    have hf := I.fresh j c1 hj m u1 u2
    cases hr : ρ' m with
    | none => rfl
    | some z =>
      have := hpost.new m hf (by simp [hr])
      simp only at this
      rw [hnx, ← h2] at this
      have := R.apart c1 hil u1 u2 this.1 this.2
      exact absurd (.inl this) c2
/-- The end of the region. -/
theorem Inv.done (R : Run E call ops n H0.lo A0 H0 st rr) (hbound : (st ops.size).next < 4000000000000000000) (I : Inv E.P B ops st rr A0 H0 ρ0 w0 a0 S a w ρ p g) (hall : ∀ j, j < ops.size → S j) :
    HR E.P B ρ ⟨mergeAll (st ops.size).base.objs (st ops.size).segs, (st ops.size).next, H0.lo⟩ w ∧ Post ρ0 H0 w0 ρ ⟨mergeAll (st ops.size).base.objs (st ops.size).segs, (st ops.size).next, H0.lo⟩ w ∧ TR ρ (st ops.size).A a := by
  have hst := I.segStart R (Nat.le_refl _) I.ple (fun e he _ => hall e he)
  have hw := I.whole R hbound (Nat.le_refl _) I.ple hst (fun j _ c _ => hall j c) (fun j c1 c2 => by omega)
  have hget : (mergeAll (st ops.size).base.objs (st ops.size).segs).get = g := funext hw
  have s := R.seg ops.size (Nat.le_refl _)
  refine ⟨by show HRF _ _ _ _ _ _ _; simp only [hget]; exact I.hr, ?_, fun t => ?_⟩
  · refine ⟨I.pf.le, I.pf.new, ?_, rfl, fun m hm => by simp only [hget]; exact I.pf.keep m hm, I.pf.os, I.pf.tape, I.pf.output, I.pf.size, I.pf.frame, fun b hb => I.pf.told b ((told_eq (fun m => by simp only [hget]) b).1 hb)⟩
    have := s.mono 0 (Nat.zero_le _)
    rw [R.start] at this
    exact this
  · refine I.tr t _ ?_
    rcases s.tmps t with ⟨j, q, h1, h2, h3, h4⟩ | ⟨h1, h2⟩
    · exact .inl ⟨j, q, hall j h1, h2, h3, h4⟩
    · exact .inr ⟨fun j q _ hq => h1 j q (lt_of hq) hq, h2⟩
end
end Go.Ev
