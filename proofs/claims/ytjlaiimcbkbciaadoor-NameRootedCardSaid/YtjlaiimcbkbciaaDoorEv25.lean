/- A region that draws its order: each step keeps what is told. -/
import Derived.Test.YtjlaiimcbkbciaaDoorEv24
noncomputable section
namespace Go.Ev
open Go
section
variable {E : Env} {call : CallEv} {ops : Array Oper} {n : Nat} {B : Bas} {A0 : Tr AV} {H0 : AHeap} {st : Nat → RS} {rr : Nat → RR}
variable {ρ0 : Ren} {w0 w : World} {a0 a : Act} {S : Nat → Prop} {ρ : Ren} {p : Nat} {g : Nat → Option AObj}
theorem Inv.look (R : Run E call ops n H0.lo A0 H0 st rr) (F : Fine ops) (I : Inv E.P B ops st rr A0 H0 ρ0 w0 a0 S a w ρ p g) {i : Nat} {o : Oper} (ho : ops[i]? = some o) (hi : ¬ S i) (hrd : ∀ j, j < ops.size → dep ops i j = true → S j)
    {t : Tmp} (ht : t ∈ looks ops o) : VT ops rr A0 S t (tget (st i).A t) := by
  have s := R.seg i (Nat.le_of_lt (lt_of ho))
  rcases s.tmps t with ⟨j, q, h1, h2, h3, h4⟩ | ⟨h1, h2⟩
  · rcases F.look i j o q t ho h2 (by omega) h3 ht with ⟨_, c⟩ | ⟨c, _⟩
    · exact .inl ⟨j, q, hrd j (lt_of h2) c, h2, h3, h4⟩
    · omega
  · refine .inr ⟨fun j q hj hq hd => ?_, h2⟩
    have hne : i ≠ j := fun e => hi (e ▸ hj)
    rcases F.look i j o q t ho hq hne hd ht with ⟨c, _⟩ | ⟨_, c⟩
    · exact h1 j q c hq hd
    · exact hi (I.closed j q i hj hq (lt_of ho) c)
theorem trStep {ρ' : Ren} {i : Nat} {o : Oper} {A1 : Tr AV} {v : Value} (F : Fine ops) (ho : ops[i]? = some o) (hi : ¬ S i) (htr : ∀ t x, VT ops rr A0 S t x → VR ρ x (a.tmps.getD t undef)) (hle : ρ.le ρ') (hv : VR ρ' (rr i).r v)
    (hp : aPut (st i).A a.tmps.size o.dst (rr i).r = some A1) : ∀ t x, VT ops rr A0 (fun j => j = i ∨ S j) t x → VR ρ' x ((a.put o.dst v).tmps.getD t undef) := by
  intro t x hx
  have other : o.dst ≠ some t → (a.put o.dst v).tmps.getD t undef = a.tmps.getD t undef := fun hne => by
    cases hd : o.dst with
    | none => rfl
    | some d =>
      rw [hd] at hp
      rw [put_getD _ _ _ (aPut_lt hp), if_neg]
      rintro rfl
      exact hne hd
  rcases hx with ⟨j, q, hj, hq, hd, rfl⟩ | ⟨h1, h2⟩
  · rcases hj with rfl | hj
    · rw [ho] at hq
      obtain rfl := Option.some.inj hq
      rw [hd] at hp ⊢
      rw [put_getD _ _ _ (aPut_lt hp), if_pos rfl]
      exact hv
    · have hne : j ≠ i := fun e => hi (e ▸ hj)
      rw [other (fun e => F.dst j i q o t hq ho hne hd e)]
      exact (htr t _ (.inl ⟨j, q, hj, hq, hd, rfl⟩)).mono hle
  · rw [other (h1 i o (.inl rfl) ho)]
    exact (htr t x (.inr ⟨fun j q hj hq => h1 j q (.inr hj) hq, h2⟩)).mono hle
theorem closedStep (I : Inv E.P B ops st rr A0 H0 ρ0 w0 a0 S a w ρ p g) {i : Nat} (hrd : ∀ j, j < ops.size → dep ops i j = true → S j) :
    ∀ k o j, (k = i ∨ S k) → ops[k]? = some o → j < ops.size → dep ops k j = true → (j = i ∨ S j) := by
  rintro k o j (rfl | hk) ho hj hd
  · exact .inr (hrd j hj hd)
  · exact .inr (I.closed k o j hk ho hj hd)
/-- An operation that does nothing to memory. -/
theorem Inv.step0 (R : Run E call ops n H0.lo A0 H0 st rr) (F : Fine ops) (hn : a0.tmps.size = n) (I : Inv E.P B ops st rr A0 H0 ρ0 w0 a0 S a w ρ p g) {i : Nat} {o : Oper} (ho : ops[i]? = some o) (hi : ¬ S i) (hrd : ∀ j, j < ops.size → dep ops i j = true → S j)
    (hk : (rr i).kind = 0) {v : Value} (hv : VR ρ (rr i).r v) : Inv E.P B ops st rr A0 H0 ρ0 w0 a0 (fun j => j = i ∨ S j) (a.put o.dst v) w ρ p g := by
  obtain ⟨h1, h2, h3, _, _⟩ := stepR_cases (R.step i o ho)
  refine ⟨I.ple, I.phase.imp id fun ⟨x, y, z⟩ => ⟨x, y, .inr z⟩, I.fst, fun j a b => .inr (I.all j a b), fun j a b c d => ?_, ⟨fun j m hj a b c => ?_, fun m hm => I.gs.rest m fun ⟨j, x, y⟩ => hm ⟨j, .inr x, y⟩⟩, I.hr, I.baseOld, fun j hj a b c => ?_, fun j a b => I.fresh j a fun x => b (.inr x), I.pf,
    trStep F ho hi I.tr (Ren.le_refl _) hv (by rw [I.size, hn]; exact h1), by rw [Act.put_size]; exact I.size, by rw [Act.put_defers']; exact I.defers, closedStep I hrd⟩
  · rcases d with rfl | d
    · omega
    · exact I.later j a b c d
  · rcases hj with rfl | hj
    · omega
    · exact I.gs.own j m hj a b c
  · rcases hj with rfl | hj
    · omega
    · exact I.outOld j hj a b c
/-- All that an operation leans on, as it is told of. -/
theorem Inv.inSub (R : Run E call ops n H0.lo A0 H0 st rr) (I : Inv E.P B ops st rr A0 H0 ρ0 w0 a0 S a w ρ p g) {i : Nat} (hi : i < ops.size) (hp : p ≤ i) (hbound : (st ops.size).next < 4000000000000000000) (hst : (st i).p = p) (L : List (Nat × RR)) (hL : ∀ y ∈ L, y ∈ (st i).segs ∧ S y.1) :
    ∀ m o, (mergeAll (st i).base.objs L).get m = some o → g m = some o ∧ m < (st i).next ∧ ∀ c, o.cls = some c → c < (st i).next := by
  have s := R.seg i (Nat.le_of_lt hi)
  have sn := R.seg ops.size (Nat.le_refl _)
  have hk : ∀ j, j < ops.size → (rr j).k' ≤ (st ops.size).next := fun j hj => by rw [(sn.rks j hj).2]; exact sn.mono (j + 1) (by omega)
  have hbase : (st i).base = (st p).base := by rw [s.base, hst]
  intro m o hm
  have hy : ∀ y ∈ L, y.2.k' < 4000000000000000000 ∧ y.2.k ≤ y.2.k' := by
    rintro ⟨j, x⟩ hy
    obtain ⟨_, q2, _, rfl⟩ := (s.segs j x).1 (hL _ hy).1
    have hj : j < ops.size := by omega
    obtain ⟨q, hq⟩ := some_of hj
    obtain ⟨_, _, _, h4, _⟩ := stepR_cases (R.step j q hq)
    exact ⟨by have := hk j hj; simp only; omega, h4⟩
  rcases mergeAll_get (st i).base.objs m L hy with ⟨⟨j, x⟩, y1, y2, y3, y4⟩ | ⟨y1, y2⟩
  · obtain ⟨q1, q2, q3, rfl⟩ := (s.segs j x).1 (hL _ y1).1
    have hSj := (hL _ y1).2
    rw [y4] at hm
    have hj : j < ops.size := by omega
    have hki : (rr j).k' ≤ (st i).next := by rw [(sn.rks j hj).2]; exact s.mono (j + 1) (by omega)
    refine ⟨?_, by simp only at y3; omega, fun c hc => ?_⟩
    · rw [I.gs.own j m hSj (by rw [← hst]; exact q1) hj q3 y2 y3]; exact hm
    · have := I.outOld j hSj (by rw [← hst]; exact q1) hj q3 m o c hm hc; omega
  · rw [y2, hbase] at hm
    obtain ⟨b1, b2⟩ := I.baseOld m o hm
    have hpi : (st p).next ≤ (st i).next := s.mono p hp
    refine ⟨?_, by omega, fun c hc => by have := b2 c hc; omega⟩
    rw [I.gs.rest m ?_]
    · exact hm
    · rintro ⟨j, _, hpj, hj, _, hk1, hk2⟩
      have h1 := (sn.rks j hj).1
      have h2 := (R.seg j (Nat.le_of_lt hj)).mono p hpj
      omega
/-- An operation that makes memory of its own alone. -/
theorem Inv.step1 (R : Run E call ops n H0.lo A0 H0 st rr) (F : Fine ops) (hn : a0.tmps.size = n) (hlo0 : H0.lo ≤ H0.next) (hbound : (st ops.size).next < 4000000000000000000) (I : Inv E.P B ops st rr A0 H0 ρ0 w0 a0 S a w ρ p g) {i : Nat} {o : Oper} (ho : ops[i]? = some o) (hi : ¬ S i)
    (hrd : ∀ j, j < ops.size → dep ops i j = true → S j) (hk : (rr i).kind = 1) (hst : (st i).p = p) (hp : p ≤ i)
    {v : Value} {w' : World} {ρ' : Ren} (hv : VR ρ' (rr i).r v) (hout : HR E.P B ρ' (rr i).out w')
    (hpost : Post ρ ⟨mergeAll (st i).base.objs (depsOf ((masks ops).get i) (st i).segs), (st i).next, (st i).next⟩ w ρ' (rr i).out w') (hcl : cleanRange (rr i).out.objs (rr i).k (rr i).k ((rr i).k' - (rr i).k) = true) (hnx : (rr i).out.next = (rr i).k') :
    Inv E.P B ops st rr A0 H0 ρ0 w0 a0 (fun j => j = i ∨ S j) (a.put o.dst v) w' ρ' p (over_ g (rr i).out (rr i).k (rr i).k') := by
  obtain ⟨h1, h2, h3, h4, _⟩ := stepR_cases (R.step i o ho)
  have hil := lt_of ho
  have s := R.seg i (Nat.le_of_lt hil)
  have sn := R.seg ops.size (Nat.le_refl _)
  have hK : (rr i).k' ≤ (st ops.size).next := by rw [(sn.rks i hil).2]; exact sn.mono (i + 1) (by omega)
  have hsub := I.inSub R hil hp hbound hst (depsOf ((masks ops).get i) (st i).segs) (fun y hy => by
    obtain ⟨q1, q2⟩ := (depsOf_mem _ _ _).1 hy
    refine ⟨q1, ?_⟩
    obtain ⟨_, q3, _, _⟩ := (s.segs y.1 y.2).1 q1
    refine hrd y.1 (by omega) ?_
    unfold dep
    exact q2)
  have hpk : (st p).next ≤ (rr i).k := by rw [h2]; exact s.mono p hp
  -- whose is a name that g tells of
  have whose : ∀ m q, g m = some q → (∃ j, S j ∧ p ≤ j ∧ j < ops.size ∧ (rr j).kind = 1 ∧ (rr j).k ≤ m ∧ m < (rr j).k' ∧ (rr j).out.objs.get m = some q) ∨ ((st p).base.objs.get m = some q) := by
    intro m q hq
    by_cases c : ∃ j, S j ∧ p ≤ j ∧ j < ops.size ∧ (rr j).kind = 1 ∧ (rr j).k ≤ m ∧ m < (rr j).k'
    · obtain ⟨j, c1, c2, c3, c4, c5, c6⟩ := c
      exact .inl ⟨j, c1, c2, c3, c4, c5, c6, by rw [← I.gs.own j m c1 c2 c3 c4 c5 c6]; exact hq⟩
    · exact .inr (by rw [← I.gs.rest m c]; exact hq)
  -- its class is of the same operation
  have cl : ∀ j, S j → p ≤ j → j < ops.size → (rr j).kind = 1 → ∀ m q c, (rr j).k ≤ m → m < (rr j).k' → (rr j).out.objs.get m = some q → q.cls = some c → (rr j).k ≤ c ∧ c < (rr j).k' := by
    intro j c1 c2 c3 c4 m q c c5 c6 c7 c8
    refine ⟨?_, I.outOld j c1 c2 c3 c4 m q c c7 c8⟩
    obtain ⟨oj, hoj⟩ := some_of c3
    obtain ⟨_, _, _, _, h5⟩ := stepR_cases (R.step j oj hoj)
    rcases h5 with ⟨k0, _⟩ | ⟨_, _, _, _, _, _, _, _, _, hc⟩ | ⟨k0, _⟩
    · omega
    · exact cleanRange_spec _ _ _ _ hc m q c c5 (by omega) c7 c8
    · omega
  have hun : ∀ m, (rr i).k ≤ m → m < (rr i).k' → g m = none := by
    intro m c1 c2
    cases hg : g m with
    | none => rfl
    | some q =>
      rcases whose m q hg with ⟨j, d1, _, d3, _, d5, d6, _⟩ | hb
      · have := R.apart d3 hil d5 d6 c1 c2
        subst this
        exact absurd d1 hi
      · have := (I.baseOld m q hb).1; omega
  obtain ⟨c1, c2, c3⟩ := comb (k := (rr i).k) (k' := (rr i).k') I.hr (fun m q hm => (hsub m q hm).1) (fun m q hm => by rw [h2]; exact (hsub m q hm).2.1) hout hpost h2.symm h2.symm hnx hK hun
    (fun m q c d1 d2 d3 => by
      have hm : m < (rr i).k' := by rw [← hnx]; exact hout.old m q d2
      exact cleanRange_spec _ _ _ _ hcl m q c d1 (by omega) d2 d3)
    (fun m q m2 q2 c d1 d2 d3 d4 d5 => by
      -- the class of what lies apart is no class of what is leant on
      rcases whose m q d1 with ⟨j, e1, e2, e3, e4, e5, e6, e7⟩ | hb
      · obtain ⟨f1, f2⟩ := cl j e1 e2 e3 e4 m q c e5 e6 e7 d4
        have hsm := hsub m2 q2 d3
        rcases whose m2 q2 hsm.1 with ⟨j2, g1, g2, g3, g4, g5, g6, g7⟩ | hb2
        · obtain ⟨f3, f4⟩ := cl j2 g1 g2 g3 g4 m2 q2 c g5 g6 g7 d5
          have hjj := R.apart e3 g3 f1 f2 f3 f4
          subst hjj
          -- then m lies in what is leant on, too
          rcases mergeAll_get (st i).base.objs m (depsOf ((masks ops).get i) (st i).segs) (fun y hy => by
            obtain ⟨q1, _⟩ := (depsOf_mem _ _ _).1 hy
            obtain ⟨_, q3, _, q4⟩ := (s.segs y.1 y.2).1 q1
            have hyl : y.1 < ops.size := by omega
            obtain ⟨oy, hoy⟩ := some_of hyl
            obtain ⟨_, _, _, h4, _⟩ := stepR_cases (R.step y.1 oy hoy)
            have h6 : (rr y.1).k' ≤ (st ops.size).next := by rw [(sn.rks y.1 hyl).2]; exact sn.mono (y.1 + 1) (by omega)
            rw [q4]
            exact ⟨by omega, h4⟩) with ⟨y, y1, y2, y3, y4⟩ | ⟨y1, y2⟩
          · obtain ⟨q1, _⟩ := (depsOf_mem _ _ _).1 y1
            obtain ⟨_, q3, _, q4⟩ := (s.segs y.1 y.2).1 q1
            rw [q4] at y2 y3
            have := R.apart (by omega) e3 y2 y3 e5 e6
            rw [q4, this, e7] at y4
            simp only at d2
            rw [y4] at d2; cases d2
          · -- j is among those that i leans on, for m2 is there
            rcases mergeAll_get (st i).base.objs m2 (depsOf ((masks ops).get i) (st i).segs) (fun y hy => by
              obtain ⟨q1, _⟩ := (depsOf_mem _ _ _).1 hy
              obtain ⟨_, q3, _, q4⟩ := (s.segs y.1 y.2).1 q1
              have hyl : y.1 < ops.size := by omega
              obtain ⟨oy, hoy⟩ := some_of hyl
              obtain ⟨_, _, _, h4, _⟩ := stepR_cases (R.step y.1 oy hoy)
              have h6 : (rr y.1).k' ≤ (st ops.size).next := by rw [(sn.rks y.1 hyl).2]; exact sn.mono (y.1 + 1) (by omega)
              rw [q4]
              exact ⟨by omega, h4⟩) with ⟨z, z1, z2, z3, z4⟩ | ⟨z1, z2⟩
            · obtain ⟨q1, _⟩ := (depsOf_mem _ _ _).1 z1
              obtain ⟨_, q3, _, q4⟩ := (s.segs z.1 z.2).1 q1
              rw [q4] at z2 z3
              have hz := R.apart (by omega) g3 z2 z3 g5 g6
              refine y1 z z1 ⟨by rw [q4, hz]; exact e5, by rw [q4, hz]; exact e6, by rw [q4, hz, e7]; rfl⟩
            · simp only at d3
              rw [z2] at d3
              have hbase : (st i).base = (st p).base := by rw [s.base, hst]
              rw [hbase] at d3
              have h8 := (I.baseOld m2 q2 d3).1
              have h9 := (sn.rks j g3).1
              have h10 := (R.seg j (Nat.le_of_lt g3)).mono p g2
              omega
        · have h8 := (I.baseOld m2 q2 hb2).2 c d5
          have h9 := (sn.rks j e3).1
          have h10 := (R.seg j (Nat.le_of_lt e3)).mono p e2
          omega
      · -- what stands in the base is always leant on
        have hbase : (st i).base = (st p).base := by rw [s.base, hst]
        rcases mergeAll_get (st i).base.objs m (depsOf ((masks ops).get i) (st i).segs) (fun y hy => by
          obtain ⟨q1, _⟩ := (depsOf_mem _ _ _).1 hy
          obtain ⟨_, q3, _, q4⟩ := (s.segs y.1 y.2).1 q1
          have hyl : y.1 < ops.size := by omega
          obtain ⟨oy, hoy⟩ := some_of hyl
          obtain ⟨_, _, _, h4, _⟩ := stepR_cases (R.step y.1 oy hoy)
          have h6 : (rr y.1).k' ≤ (st ops.size).next := by rw [(sn.rks y.1 hyl).2]; exact sn.mono (y.1 + 1) (by omega)
          rw [q4]
          exact ⟨by omega, h4⟩) with ⟨y, y1, y2, y3, y4⟩ | ⟨y1, y2⟩
        · obtain ⟨q1, _⟩ := (depsOf_mem _ _ _).1 y1
          obtain ⟨q0, q3, _, q4⟩ := (s.segs y.1 y.2).1 q1
          rw [q4] at y2 y3
          have hyl : y.1 < ops.size := by omega
          have h8 := (I.baseOld m q hb).1
          have h9 := (sn.rks y.1 hyl).1
          have h10 := (R.seg y.1 (Nat.le_of_lt hyl)).mono p (by rw [← hst]; exact q0)
          omega
        · simp only at d2
          rw [y2, hbase, hb] at d2; cases d2)
    (fun m q c d1 d2 d3 => by
      rcases whose m q d1 with ⟨j, e1, e2, e3, e4, e5, e6, e7⟩ | hb
      · obtain ⟨f1, f2⟩ := cl j e1 e2 e3 e4 m q c e5 e6 e7 d2
        have := R.apart e3 hil f1 f2 d3.1 d3.2
        subst this
        exact hi e1
      · have := (I.baseOld m q hb).2 c d2; omega)
  have hk0 : H0.next ≤ (rr i).k := by
    rw [h2]
    have := s.mono 0 (Nat.zero_le _)
    rw [R.start] at this
    exact this
  refine ⟨I.ple, I.phase.imp id fun ⟨x, y, z⟩ => ⟨x, y, .inr z⟩, I.fst, fun j x y => .inr (I.all j x y), fun j x y z d => ?_, ⟨fun j m hj x y z u1 u2 => ?_, fun m hm => ?_⟩, c1, I.baseOld, fun j hj x y z m q c d1 d2 => ?_, fun j x y m u1 u2 => ?_,
    I.pf.step hpost.le (fun m x y => by
      have := hpost.new m x y
      simp only at this
      rw [hnx] at this
      rw [h2]
      exact this) hk0 hK (fun m hm => ?_) hpost.os hpost.tape hpost.output hpost.size c2 c3,
    trStep F ho hi I.tr hpost.le hv (by rw [I.size, hn]; exact h1), by rw [Act.put_size]; exact I.size, by rw [Act.put_defers']; exact I.defers, closedStep I hrd⟩
  · rcases d with rfl | d
    · omega
    · exact I.later j x y z d
  · unfold over_
    rcases hj with rfl | hj
    · rw [if_pos ⟨u1, u2⟩]
    · rw [if_neg]
      · exact I.gs.own j m hj x y z u1 u2
      · rintro ⟨v1, v2⟩
        have := R.apart y hil u1 u2 v1 v2
        subst this
        exact hi hj
  · unfold over_
    rw [if_neg]
    · exact I.gs.rest m fun ⟨j, x, y⟩ => hm ⟨j, .inr x, y⟩
    · rintro ⟨v1, v2⟩
      exact hm ⟨i, .inl rfl, hp, hil, hk, v1, v2⟩
  · rcases hj with rfl | hj
    · rw [← hnx]; exact hout.clo m q c d1 d2
    · exact I.outOld j hj x y z m q c d1 d2
  · have hj : ¬ S j := fun h => y (.inr h)
    have hf := I.fresh j x hj m u1 u2
    cases hr : ρ' m with
    | none => rfl
    | some z =>
      have := hpost.new m hf (by simp [hr])
      simp only at this
      rw [hnx, ← h2] at this
      have := R.apart x hil u1 u2 this.1 this.2
      exact absurd (.inl this) y
  · unfold over_
    rw [if_neg (by omega)]
end
end Go.Ev
