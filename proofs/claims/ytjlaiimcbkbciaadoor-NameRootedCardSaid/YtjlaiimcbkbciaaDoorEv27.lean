/- A region that draws its order: sound. -/
import Derived.Test.YtjlaiimcbkbciaaDoorEv26
noncomputable section
namespace Go.Ev
open Go
section
variable {E : Env} {call : CallEv} {ops : Array Oper} {n : Nat} {B : Bas} {A0 : Tr AV} {H0 : AHeap} {st : Nat → RS} {rr : Nat → RR}
variable {ρ0 : Ren} {w0 : World} {a0 : Act}
def Listed (listed : Array Bool) : Nat → Prop := fun j => listed.getD j false = true
theorem listed_set {listed : Array Bool} {i : Nat} (hi : i < listed.size) : Listed (listed.setIfInBounds i true) = fun j => j = i ∨ Listed listed j := by
  funext j
  apply propext
  unfold Listed
  by_cases c : j = i
  · subst c; simp [hi]
  · rw [getD_set_ne false (fun e => c e.symm)]
    constructor
    · exact .inr
    · rintro (h | h)
      · exact absurd h c
      · exact h
theorem all_of_ready_nil (F : Fine ops) {listed : Array Bool} (hs : listed.size = ops.size) (h : Region.ready .any ops listed = []) : ∀ j, j < ops.size → Listed listed j := by
  intro j
  induction j using Nat.strongRecOn with
  | _ j ih =>
    intro hj
    by_cases c : Listed listed j
    · exact c
    · exfalso
      obtain ⟨o, ho⟩ := some_of hj
      have : j ∈ Region.ready .any ops listed := mem_ready.2 ⟨by
        unfold Listed at c
        have hl : j < listed.size := by omega
        simp [hl] at c ⊢
        exact c, o, ho, fun e he hb => by
          have := (F.edge j o ho e he hb).1
          exact ih e.on this (by omega)⟩
      rw [h] at this
      cases this
theorem drawn_any (hE : EOK E B) (hcall : CallOK E.P B call) (R : Run E call ops n H0.lo A0 H0 st rr) (F : Fine ops) (hn : a0.tmps.size = n) (hlo0 : H0.lo ≤ H0.next) (hbound : (st ops.size).next < 4000000000000000000) {Q : Exit → Act → World → Prop}
    (hQ : ∀ a w ρ p g S, Inv E.P B ops st rr A0 H0 ρ0 w0 a0 S a w ρ p g → (∀ j, j < ops.size → S j) → Q .normal a w) :
    ∀ (fuel : Nat) (listed : Array Bool) (L : List Nat) (a : Act) (w : World) (ρ : Ren) (p : Nat) (g : Nat → Option AObj), L.length ≤ fuel → listed.size = ops.size → (∀ j, j < ops.size → ¬ Listed listed j → j ∈ L) →
      Inv E.P B ops st rr A0 H0 ρ0 w0 a0 (Listed listed) a w ρ p g → wpAny E.P .any ops Q fuel listed a w
  | 0, listed, L, a, w, ρ, p, g, hL, hs, hin, I => by
    have hall : ∀ j, j < ops.size → Listed listed j := fun j hj => by
      by_cases c : Listed listed j
      · exact c
      · have := hin j hj c
        have : L = [] := List.eq_nil_of_length_eq_zero (by omega)
        subst this
        simp at *
    refine ⟨?_, hQ a w ρ p g _ I hall⟩
    cases hr : Region.ready .any ops listed with
    | nil => rfl
    | cons j l =>
      have : j ∈ Region.ready .any ops listed := by rw [hr]; simp
      obtain ⟨h0, o, ho, _⟩ := mem_ready.1 this
      have := hall j (lt_of ho)
      unfold Listed at this
      have hl : j < listed.size := by have := lt_of ho; omega
      simp [hl] at h0 this
      rw [h0] at this
      cases this
  | fuel + 1, listed, L, a, w, ρ, p, g, hL, hs, hin, I => by
    refine ⟨fun hr => hQ a w ρ p g _ I (all_of_ready_nil F hs hr), fun i hr => ?_⟩
    obtain ⟨hi0, o, ho, hedge⟩ := mem_ready.1 hr
    have hil := lt_of ho
    have hli : i < listed.size := by omega
    have hi : ¬ Listed listed i := by
      unfold Listed
      simp [hli] at hi0 ⊢
      exact hi0
    have hrd : ∀ j, j < ops.size → dep ops i j = true → Listed listed j := fun j hj hd => by
      obtain ⟨_, e, he, hb, hx⟩ := F.back i o j ho hj hd
      have hl := hedge e he hb
      rcases hx with rfl | hx
      · exact hl
      · obtain ⟨q, hq⟩ := some_of (ops := ops) (i := e.on) (by have := (F.edge i o ho e he hb).1; omega)
        exact I.closed e.on q j hl hq hj hx
    have hk' : ∀ (a' : Act) (w' : World) (ρ' : Ren) (p' : Nat) (g' : Nat → Option AObj), Inv E.P B ops st rr A0 H0 ρ0 w0 a0 (fun j => j = i ∨ Listed listed j) a' w' ρ' p' g' → wpAny E.P .any ops Q fuel (listed.setIfInBounds i true) a' w' := by
      intro a' w' ρ' p' g' I'
      have hiL := hin i hil hi
      refine drawn_any hE hcall R F hn hlo0 hbound hQ fuel (listed.setIfInBounds i true) (L.erase i) a' w' ρ' p' g' (by rw [List.length_erase_of_mem hiL]; omega) (by simp [hs]) (fun j hj hnj => ?_) (by rw [listed_set hli]; exact I')
      rw [listed_set hli] at hnj
      have hne : j ≠ i := fun e => hnj (.inl e)
      exact (List.mem_erase_of_ne hne).2 (hin j hj fun h => hnj (.inr h))
    have hlook : ∀ t ∈ looks ops o, VR ρ (tget (st i).A t) (a.tmps.getD t undef) := fun t ht => I.tr t _ (I.look R F ho hi hrd ht)
    have hw := aWanted_sound (ρ := ρ) (ops := ops) (o := o) (A := (st i).A) (a := a) (fun j w d hg hd => hlook d (by simp [looks, hg, hd]))
    have hops : constsOK o.op.operands.toList = true → ∀ x ∈ o.op.operands, VR ρ (aEval (st i).A x) (a.eval x) := fun hc x hx =>
      evalOne (constsOK_one hc (Array.mem_toList_iff.2 hx)) fun t ht => hlook t (by
        subst ht
        simp only [looks, List.mem_append, List.mem_filterMap]
        exact .inl ⟨.tmp t, Array.mem_toList_iff.2 hx, rfl⟩)
    obtain ⟨h1, h2, h3, h4, h5⟩ := stepR_cases (R.step i o ho)
    have hfree : Free ρ (rr i).k (rr i).k' := fun m c1 c2 => I.fresh i hil hi m c1 c2
    have hpi : (rr i).kind ≠ 0 → p ≤ i := fun hk => by
      rcases Nat.lt_or_ge i p with c | c
      · exact absurd (I.all i c hk) hi
      · exact c
    have hbar : heapy o.op = true → ∀ e, e < i → (rr e).kind = 2 → Listed listed e := fun hh e he hk => by
      obtain ⟨q, hq⟩ := some_of (ops := ops) (i := e) (by omega)
      have := (kinds R hq (by omega)).2 hk
      rcases barrier_spec this ho hh (by omega) with ⟨c, _⟩ | ⟨_, c⟩
      · omega
      · exact hrd e (by omega) c
    unfold wpOp
    simp only [ho]
    rcases h5 with ⟨k0, k1, k2, k3, k4, hx⟩ | ⟨k0, k1, k2, k3, k4, k5, k6, k7, k8, k9⟩ | ⟨k0, k1, k2, k3, k4, k5, k6, k7, k8, k9⟩
    · rcases hx with ⟨x1, x2⟩ | ⟨x1, x2, x3⟩
      · rw [hw, x1]
        simp only [Bool.false_eq_true, if_false]
        exact hk' _ _ _ _ _ (I.step0 R F hn ho hi hrd k0 (v := undef) (by rw [x2]; exact VR.undefA))
      · rw [hw, x1]
        simp only [if_true]
        obtain ⟨v, e1, e2⟩ := pureOp_sound (e := a.eval) x3 (hops x2) w
        refine .inl ?_
        simp only [Oper.wp, e1, Oper.upon]
        exact hk' _ _ _ _ _ (I.step0 R F hn ho hi hrd k0 e2)
    · rw [hw, k6]
      simp only [if_true]
      have hp := hpi (by omega)
      have hst := I.segStart R (Nat.le_of_lt hil) hp (hbar k1)
      have s := R.seg i (Nat.le_of_lt hil)
      have hsub := I.inSub R hil hp hbound hst (depsOf ((masks ops).get i) (st i).segs) (fun y hy => by
        obtain ⟨q1, q2⟩ := (depsOf_mem _ _ _).1 hy
        refine ⟨q1, ?_⟩
        obtain ⟨_, q3, _, _⟩ := (s.segs y.1 y.2).1 q1
        refine hrd y.1 (by omega) ?_
        unfold dep
        exact q2)
      have hlim : (st i).next < 2 ^ 63 := by have := (R.seg ops.size (Nat.le_refl _)).mono i (by omega); omega
      have hHin : HR E.P B ρ ⟨mergeAll (st i).base.objs (depsOf ((masks ops).get i) (st i).segs), (st i).next, (st i).next⟩ w :=
        I.hr.sub (fun m q e => (hsub m q e).1) (fun m q e => (hsub m q e).2.1) (fun m q c e ec => (hsub m q e).2.2 c ec) hlim (Nat.le_refl _)
      refine .inl (opStep_sound hE hcall hHin k8 (by rw [k5]; simp only; rw [← h2]; exact hfree) (hops k7) fun v w' ρ' hv hh hpost => ?_)
      exact hk' _ _ _ _ _ (I.step1 R F hn hlo0 hbound ho hi hrd k0 hst hp hv hh hpost k9 k5)
    · rw [hw, k7]
      simp only [if_true]
      have hp := hpi (by omega)
      have hst := I.segStart R (Nat.le_of_lt hil) hp (hbar k1)
      have s := R.seg i (Nat.le_of_lt hil)
      have hall : ∀ j, p ≤ j → j < i → (rr j).kind = 1 → Listed listed j := fun j _ c hk => by
        obtain ⟨q, hq⟩ := some_of (ops := ops) (i := j) (by omega)
        rcases barrier_spec k2 hq (kinds R hq (by omega)).1 (by omega) with ⟨_, d⟩ | ⟨d, _⟩
        · exact hrd j (by omega) d
        · omega
      have hnone : ∀ j, i ≤ j → j < ops.size → (rr j).kind = 1 → ¬ Listed listed j := fun j c1 c2 hk hS => by
        obtain ⟨q, hq⟩ := some_of c2
        by_cases e : j = i
        · subst e; exact hi hS
        · rcases barrier_spec k2 hq (kinds R hq (by omega)).1 e with ⟨d, _⟩ | ⟨_, d⟩
          · omega
          · exact hi (I.closed j q i hS hq hil d)
      have hwh := I.whole R hbound (Nat.le_of_lt hil) hp hst hall hnone
      have hsub := I.inSub R hil hp hbound hst (st i).segs (fun y hy => by
        obtain ⟨q0, q3, q5, _⟩ := (s.segs y.1 y.2).1 hy
        exact ⟨hy, hall y.1 (by rw [← hst]; exact q0) q3 q5⟩)
      have hlim : (st i).next < 2 ^ 63 := by have := (R.seg ops.size (Nat.le_refl _)).mono i (by omega); omega
      have hlo : H0.lo ≤ (st i).next := by
        have := s.mono 0 (Nat.zero_le _)
        rw [R.start] at this
        simp only at this
        omega
      have hHin : HR E.P B ρ ⟨mergeAll (st i).base.objs (st i).segs, (st i).next, H0.lo⟩ w :=
        I.hr.sub (fun m q e => (hsub m q e).1) (fun m q e => (hsub m q e).2.1) (fun m q c e ec => (hsub m q e).2.2 c ec) hlim hlo
      refine .inl (opStep_sound hE hcall hHin k9 (by rw [k6]; simp only; rw [← h2]; exact hfree) (hops k8) fun v w' ρ' hv hh hpost => ?_)
      exact hk' _ _ _ _ _ (I.step2 R F hn ho hi hrd k0 hp hwh hv hh hpost k6 hlo0)
theorem aDrawn_sound (hE : EOK E B) (hcall : CallOK E.P B call) (hm : E.P.follows .mixedOrders = true) {A A' : Tr AV} {H H' : AHeap} {ρ : Ren} {a : Act} {w : World} (h : aDrawn E call ops n A H = some (A', H')) (hh : HR E.P B ρ H w) (hf : Free ρ H.next H'.next)
    (ht : TR ρ A a) (hn : a.tmps.size = n) {Q : Exit → Act → World → Prop} {id : Nat}
    (hQ : ∀ a' w' ρ', TR ρ' A' a' → a'.tmps.size = n → a'.defers = a.defers → HR E.P B ρ' H' w' → Post ρ H w ρ' H' w' → Q .normal a' w') : (Code.region id ops true).wp E.P Q a w := by
  unfold aDrawn at h
  split at h
  · cases h
  rename_i hfine
  have F := fine_spec hfine
  split at h
  · cases h
  rename_i S hgo
  split at h
  · rename_i hb
    have hb := blt_t hb
    cases h
    obtain ⟨st, rr, s1, s2, s3⟩ := goR_seq _ _ _ _ hgo
    simp only [Nat.zero_add, Array.length_toList] at s2 s3
    have R : Run E call ops n H.lo A H st rr := ⟨s1, fun i o ho => s2 i o (by simpa using ho)⟩
    subst s3
    have hd : HR E.P B ρ H w.drew := hh.drew
    have sn := R.seg ops.size (Nat.le_refl _)
    have hnx : H.next ≤ (st ops.size).next := by
      have := sn.mono 0 (Nat.zero_le _)
      rw [s1] at this
      exact this
    have hlim : (st ops.size).next < 2 ^ 63 := by omega
    have I0 : Inv E.P B ops st rr A H ρ w.drew a (Listed (Array.replicate ops.size false)) a w.drew ρ 0 H.objs.get := by
      have hnl : ∀ j, ¬ Listed (Array.replicate ops.size false) j := fun j => by
        unfold Listed
        simp only [Array.getD_eq_getD_getElem?, Array.getElem?_replicate]
        split <;> simp
      refine ⟨Nat.zero_le _, .inl rfl, by rw [s1], fun j hj => absurd hj (Nat.not_lt_zero _), fun j _ _ _ => hnl j, ⟨fun j _ hj => absurd hj (hnl j), fun m _ => by rw [s1]⟩,
        hd.sub (fun _ _ e => e) (fun m q e => by have := hd.old m q e; omega) (fun m q c e ec => by have := hd.clo m q c e ec; omega) hlim (by have := hd.lole; omega),
        fun m q e => ?_, fun j hj => absurd hj (hnl j), fun j hj _ m c1 c2 => ?_, ⟨Ren.le_refl _, fun m c1 c2 => absurd c1 c2, fun _ _ => rfl, rfl, rfl, rfl, Nat.le_refl _, fun _ _ _ => rfl, fun b hb => .inr hb⟩, fun t x hx => ?_, rfl, rfl, fun i _ _ hi => absurd hi (hnl i)⟩
      · rw [s1] at e ⊢
        exact ⟨hd.old m q e, fun c hc => hd.clo m q c e hc⟩
      · have h1 := (sn.rks j hj).1
        have h2 := (sn.rks j hj).2
        have h3 := sn.mono (j + 1) (by omega)
        have h4 := (R.seg j (Nat.le_of_lt hj)).mono 0 (Nat.zero_le _)
        rw [s1] at h4
        simp only at h4
        exact hf m (by omega) (by simp only; omega)
      · rcases hx with ⟨j, _, hj, _⟩ | ⟨_, h2⟩
        · exact absurd hj (hnl j)
        · subst h2; exact ht t
    refine wp_region_any hm ?_
    show wpAny E.P .any ops Q ops.size (Array.replicate ops.size false) a w.drew
    refine drawn_any hE hcall R F hn hh.lole hb (fun a' w' ρ' p' g' S' I' hall => ?_) ops.size (Array.replicate ops.size false) (List.range ops.size) a w.drew ρ 0 H.objs.get (by simp) (by simp) (fun j hj _ => List.mem_range.2 hj) I0
    obtain ⟨d1, d2, d3⟩ := I'.done R hb hall
    exact hQ a' w' ρ' d3 (I'.size.trans hn) I'.defers d1 d2.ofDrew
  · cases h
end
end Go.Ev
