/- Code; functions; calls within calls. -/
import Derived.Test.YtjlaiimcbkbciaaDoorEv27
noncomputable section
namespace Go.Ev
open Go
inductive AEx where
  | normal
  | exit (id : Nat)
  | ret
def AEx.toExit : AEx → Exit
  | .normal => .normal
  | .exit id => .exit id
  | .ret => .ret
def constOne : Operand → Bool
  | .const v => (AV.ofValue 100 v).isSome
  | _ => true
def aCode (E : Env) (call : CallEv) (n : Nat) : Nat → Code → Tr AV → AHeap → Option (AEx × Tr AV × AHeap)
  | 0, _, _, _ => none
  | f + 1, c, A, H => match c with
    | .skip => some (.normal, A, H)
    | .label _ => some (.normal, A, H)
    | .exit id => some (.exit id, A, H)
    | .ret => some (.ret, A, H)
    | .seq x y => match aCode E call n f x A H with
      | none => none
      | some (.normal, A1, H1) => aCode E call n f y A1 H1
      | some r => some r
    | .cond c x y => match constOne c with
      | false => none
      | true => match aEval A c with
        | .bool true => aCode E call n f x A H
        | .bool false => aCode E call n f y A H
        | _ => none
    | .block id b => match aCode E call n f b A H with
      | none => none
      | some (.exit i, A1, H1) => match Nat.beq i id with
        | true => some (.normal, A1, H1)
        | false => some (.exit i, A1, H1)
      | some r => some r
    | .loop b => match aCode E call n f b A H with
      | none => none
      | some (.normal, A1, H1) => aCode E call n f (.loop b) A1 H1
      | some r => some r
    | .region _ ops draw => match draw with
      | false => match aOps E call ops n ops.toList A H with
        | none => none
        | some (A1, H1) => some (.normal, A1, H1)
      | true => match aDrawn E call ops n A H with
        | none => none
        | some (A1, H1) => some (.normal, A1, H1)
    | _ => none
section
variable {E : Env} {call : CallEv} {n : Nat} {B : Bas}
theorem aDrawn_next {ops : Array Oper} {A A' : Tr AV} {H H' : AHeap} (h : aDrawn E call ops n A H = some (A', H')) : H.next ≤ H'.next := by
  unfold aDrawn at h
  split at h
  · cases h
  split at h
  · cases h
  rename_i S hgo
  split at h
  · cases h
    obtain ⟨st, rr, s1, s2, s3⟩ := goR_seq _ _ _ _ hgo
    simp only [Nat.zero_add, Array.length_toList] at s2 s3
    have R : Run E call ops n H.lo A H st rr := ⟨s1, fun i o ho => s2 i o (by simpa using ho)⟩
    subst s3
    have := (R.seg ops.size (Nat.le_refl _)).mono 0 (Nat.zero_le _)
    rw [s1] at this
    exact this
  · cases h
theorem aCode_next : ∀ (f : Nat) (c : Code) (A : Tr AV) (H : AHeap) (ex : AEx) (A' : Tr AV) (H' : AHeap), aCode E call n f c A H = some (ex, A', H') → H.next ≤ H'.next
  | 0, c, A, H, ex, A', H', h => by simp [aCode] at h
  | f + 1, c, A, H, ex, A', H', h => by
    have ih := aCode_next f
    unfold aCode at h
    split at h
    · cases h; exact Nat.le_refl _
    · cases h; exact Nat.le_refl _
    · cases h; exact Nat.le_refl _
    · cases h; exact Nat.le_refl _
    · split at h
      · cases h
      · rename_i A1 H1 h1
        exact Nat.le_trans (ih _ _ _ _ _ _ h1) (ih _ _ _ _ _ _ h)
      · rename_i r h1 _
        cases h
        exact ih _ _ _ _ _ _ (by assumption)
    · split at h
      · cases h
      · split at h
        · exact ih _ _ _ _ _ _ h
        · exact ih _ _ _ _ _ _ h
        · cases h
    · split at h
      · cases h
      · rename_i i A1 H1 h1
        split at h
        · cases h; exact ih _ _ _ _ _ _ h1
        · cases h; exact ih _ _ _ _ _ _ h1
      · cases h
        exact ih _ _ _ _ _ _ (by assumption)
    · split at h
      · cases h
      · rename_i A1 H1 h1
        exact Nat.le_trans (ih _ _ _ _ _ _ h1) (ih _ _ _ _ _ _ h)
      · cases h
        exact ih _ _ _ _ _ _ (by assumption)
    · split at h
      · split at h
        · cases h
        · rename_i A1 H1 h1
          cases h
          exact aOps_next _ h1
      · split at h
        · cases h
        · rename_i A1 H1 h1
          cases h
          exact aDrawn_next h1
    · cases h
def Goal (E : Env) (call : CallEv) (n : Nat) (B : Bas) (f : Nat) : Prop :=
  ∀ (c : Code) (A : Tr AV) (H : AHeap) (ex : AEx) (A' : Tr AV) (H' : AHeap), aCode E call n f c A H = some (ex, A', H') → ∀ (ρ : Ren) (a : Act) (w : World) (Q : Exit → Act → World → Prop),
    HR E.P B ρ H w → Free ρ H.next H'.next → TR ρ A a → a.tmps.size = n →
    (∀ a' w' ρ', TR ρ' A' a' → a'.tmps.size = n → a'.defers = a.defers → HR E.P B ρ' H' w' → Post ρ H w ρ' H' w' → Q ex.toExit a' w') → c.wp E.P Q a w
theorem aLoop_sound : ∀ (f : Nat), (∀ k, k < f → Goal E call n B k) → ∀ (b : Code) (A : Tr AV) (H : AHeap) (ex : AEx) (A' : Tr AV) (H' : AHeap), aCode E call n f (.loop b) A H = some (ex, A', H') → ∀ (ρ : Ren) (a : Act) (w : World) (Q : Exit → Act → World → Prop),
    HR E.P B ρ H w → Free ρ H.next H'.next → TR ρ A a → a.tmps.size = n →
    (∀ a' w' ρ', TR ρ' A' a' → a'.tmps.size = n → a'.defers = a.defers → HR E.P B ρ' H' w' → Post ρ H w ρ' H' w' → Q ex.toExit a' w') → Code.rounds E.P b Q f a w
  | 0, _, b, A, H, ex, A', H', h, _, _, _, _, _, _, _, _, _ => by simp [aCode] at h
  | f + 1, hg, b, A, H, ex, A', H', h, ρ, a, w, Q, hh, hf, ht, hn, hq => by
    unfold aCode at h
    simp only at h
    rw [rounds_succ]
    split at h
    · cases h
    · rename_i A1 H1 h1
      have hnx := aCode_next _ _ _ _ _ _ _ h
      refine hg f (Nat.lt_succ_self f) b A H _ A1 H1 h1 ρ a w _ hh (hf.mono hnx) ht hn fun a1 w1 ρ1 t1 t2 t3 t4 t5 => ?_
      show Code.rounds E.P b Q f a1 w1
      exact aLoop_sound f (fun k hk => hg k (by omega)) b A1 H1 ex A' H' h ρ1 a1 w1 Q t4 (t5.free hf) t1 t2 fun a' w' ρ' s1 s2 s3 s4 s5 => hq a' w' ρ' s1 s2 (s3.trans t3) s4 (t5.trans s5)
    · rename_i r hne hr
      cases h
      refine hg f (Nat.lt_succ_self f) b A H ex A' H' (by assumption) ρ a w _ hh hf ht hn fun a1 w1 ρ1 t1 t2 t3 t4 t5 => ?_
      have := hq a1 w1 ρ1 t1 t2 t3 t4 t5
      cases ex with
      | normal => exact absurd rfl (hne A' H')
      | exit id => exact this
      | ret => exact this
theorem aCode_sound (hE : EOK E B) (hcall : CallOK E.P B call) (hm : E.P.follows .mixedOrders = true) : ∀ f, Goal E call n B f := by
  intro f
  induction f using Nat.strongRecOn with
  | _ f ih =>
    cases f with
    | zero => intro c A H ex A' H' h; simp [aCode] at h
    | succ f =>
      intro c A H ex A' H' h ρ a w Q hh hf ht hn hq
      have ihf := ih f (Nat.lt_succ_self f)
      have h0 := h
      unfold aCode at h
      split at h
      · cases h; exact wp_skip (hq a w ρ ht hn rfl hh (Post.refl _ _ _))
      · cases h; exact wp_label (hq a w ρ ht hn rfl hh (Post.refl _ _ _))
      · cases h; exact wp_exit (hq a w ρ ht hn rfl hh (Post.refl _ _ _))
      · cases h; exact wp_ret (hq a w ρ ht hn rfl hh (Post.refl _ _ _))
      · rename_i x y
        refine wp_seq ?_
        split at h
        · cases h
        · rename_i A1 H1 h1
          have hnx := aCode_next _ _ _ _ _ _ _ h
          refine ihf x A H _ A1 H1 h1 ρ a w _ hh (hf.mono hnx) ht hn fun a1 w1 ρ1 t1 t2 t3 t4 t5 => ?_
          show y.wp E.P Q a1 w1
          exact ihf y A1 H1 ex A' H' h ρ1 a1 w1 Q t4 (t5.free hf) t1 t2 fun a' w' ρ' s1 s2 s3 s4 s5 => hq a' w' ρ' s1 s2 (s3.trans t3) s4 (t5.trans s5)
        · rename_i r hne hr
          cases h
          refine ihf x A H ex A' H' (by assumption) ρ a w _ hh hf ht hn fun a1 w1 ρ1 t1 t2 t3 t4 t5 => ?_
          have := hq a1 w1 ρ1 t1 t2 t3 t4 t5
          cases ex with
          | normal => exact absurd rfl (hne A' H')
          | exit id => exact this
          | ret => exact this
      · rename_i co x y
        split at h
        · cases h
        rename_i hc
        have hv : VR ρ (aEval A co) (a.eval co) := evalOne (fun v hv => by subst hv; exact hc) fun t _ => ht t
        split at h
        · rename_i hb
          rw [hb] at hv
          exact wp_cond_true hv (ihf x A H ex A' H' h ρ a w Q hh hf ht hn hq)
        · rename_i hb
          rw [hb] at hv
          exact wp_cond_false hv (ihf y A H ex A' H' h ρ a w Q hh hf ht hn hq)
        · cases h
      · rename_i id b
        refine wp_block ?_
        split at h
        · cases h
        · rename_i i A1 H1 h1
          split at h
          · rename_i hi
            cases h
            refine ihf b A H _ A' H' h1 ρ a w _ hh hf ht hn fun a1 w1 ρ1 t1 t2 t3 t4 t5 => ?_
            show (if i = id then Q .normal a1 w1 else Q (.exit i) a1 w1)
            rw [if_pos (Nat.eq_of_beq_eq_true hi)]
            exact hq a1 w1 ρ1 t1 t2 t3 t4 t5
          · rename_i hi
            cases h
            refine ihf b A H _ A' H' h1 ρ a w _ hh hf ht hn fun a1 w1 ρ1 t1 t2 t3 t4 t5 => ?_
            show (if i = id then Q .normal a1 w1 else Q (.exit i) a1 w1)
            rw [if_neg (beq_f hi)]
            exact hq a1 w1 ρ1 t1 t2 t3 t4 t5
        · rename_i r hne hr
          cases h
          refine ihf b A H ex A' H' (by assumption) ρ a w _ hh hf ht hn fun a1 w1 ρ1 t1 t2 t3 t4 t5 => ?_
          have := hq a1 w1 ρ1 t1 t2 t3 t4 t5
          cases ex with
          | normal => exact this
          | exit i => exact absurd rfl (hne i A' H')
          | ret => exact this
      · rename_i b
        exact wp_loop_rounds (f + 1) (aLoop_sound (f + 1) (fun k hk => ih k hk) b A H ex A' H' h0 ρ a w Q hh hf ht hn hq)
      · rename_i id ops draw
        split at h
        · split at h
          · cases h
          · rename_i A1 H1 h1
            cases h
            exact wp_region_list (aOps_sound hE hcall _ h1 hh hf ht hn hq)
        · split at h
          · cases h
          · rename_i A1 H1 h1
            cases h
            exact aDrawn_sound hE hcall hm h1 hh hf ht hn hq
      · cases h
/-! ### Functions -/
def aResults (P : Program) (A : Tr AV) (H : AHeap) : List ResultVar → Option (List AV)
  | [] => some []
  | .tmp t :: l => match aResults P A H l with
    | none => none
    | some m => some (tget A t :: m)
  | .cell c t :: l => match aLoad P H t (tget A c) with
    | none => none
    | some v => match aResults P A H l with
      | none => none
      | some m => some (v :: m)
def resOf (tmps : Array Value) : ResultVar → Sem Value
  | .tmp t => pure (tmps.getD t undef)
  | .cell c t => do loadVar t (← asAddr (tmps.getD c undef))
theorem results_eq (fn : Func) (tmps : Array Value) : results fn tmps = (do
    let vs ← fn.results.mapM (resOf tmps)
    pure (if h : vs.size = 1 then vs[0] else .tuple vs)) := rfl
theorem aResults_sound {P : Program} {ρ : Ren} {A : Tr AV} {H : AHeap} {a : Act} {w : World} (hh : HR P B ρ H w) (ht : TR ρ A a) : ∀ (l : List ResultVar) (m : List AV), aResults P A H l = some m →
    ∃ vs, VRL ρ m vs ∧ (l.mapM (resOf a.tmps)).run P w = .ok vs w
  | [], m, h => by simp [aResults] at h; subst h; exact ⟨[], VRL.nil, rfl⟩
  | .tmp t :: l, m, h => by
    unfold aResults at h
    split at h
    · cases h
    rename_i m' hm
    cases h
    obtain ⟨vs, h1, h2⟩ := aResults_sound hh ht l m' hm
    refine ⟨a.tmps.getD t undef :: vs, VRL.cons (ht t) h1, ?_⟩
    rw [List.mapM_cons]
    have e0 : (resOf a.tmps (.tmp t)).run P w = .ok (a.tmps.getD t undef) w := rfl
    simp only [Sem.run_bind, e0, h2, Result.andThen_ok, Sem.run_pure]
  | .cell c t :: l, m, h => by
    unfold aResults at h
    split at h
    · cases h
    rename_i v hv
    split at h
    · cases h
    rename_i m' hm
    cases h
    obtain ⟨vs, h1, h2⟩ := aResults_sound hh ht l m' hm
    obtain ⟨ad, z, e1, e2, e3⟩ := aLoad_sound hh hv (ht c)
    refine ⟨z :: vs, VRL.cons e3 h1, ?_⟩
    rw [List.mapM_cons]
    have e0 : (resOf a.tmps (.cell c t)).run P w = .ok z w := by
      show ((asAddr (a.tmps.getD c undef)).bind fun ad => loadVar t ad).run P w = _
      rw [e1]
      exact e2
    simp only [Sem.run_bind, e0, h2, Result.andThen_ok, Sem.run_pure]
def pack (l : List AV) : AV :=
  match l with
  | [x] => x
  | l => .tuple l
def aFn (E : Env) : Nat → CallEv
  | 0 => fun _ _ _ => none
  | d + 1 => fun f l H => match E.P.funcs[f]? with
    | none => none
    | some fn => match fn.body with
      | none => none
      | some c => match Nat.ble l.length 100000 && Nat.ble l.length fn.ntmps with
        | false => none
        | true => match aCode E (aFn E d) fn.ntmps d c (Tr.ofList l) H with
          | some (.normal, A, H1) => match aResults E.P A H1 fn.results.toList with
            | some m => some (pack m, H1)
            | none => none
          | some (.ret, A, H1) => match aResults E.P A H1 fn.results.toList with
            | some m => some (pack m, H1)
            | none => none
          | _ => none
theorem VR.pack {ρ : Ren} {m : List AV} {vs : List Value} (h : VRL ρ m vs) : VR ρ (pack m) (if h : vs.toArray.size = 1 then vs.toArray[0] else .tuple vs.toArray) := by
  have hl := h.length
  match m, vs, h, hl with
  | [], [], h, _ => exact ⟨[], rfl, h⟩
  | [x], [v], h, _ =>
    obtain ⟨v', ws, e, h1, _⟩ := h
    cases e
    exact h1
  | x :: y :: m, v :: u :: vs, h, _ =>
    have : ¬ ((v :: u :: vs).toArray.size = 1) := by simp
    rw [dif_neg this]
    exact ⟨_, rfl, h⟩
theorem aFn_sound (hE : EOK E B) (hm : E.P.follows .mixedOrders = true) : ∀ d, CallOK E.P B (aFn E d)
  | 0 => fun f l H r H' h => by simp [aFn] at h
  | d + 1 => fun f l H r H' h ρ w vs hh hf hv => by
    have ih := aFn_sound hE hm d
    unfold aFn at h
    split at h
    · cases h
    rename_i fn hfn
    split at h
    · cases h
    rename_i c hc
    split at h
    · cases h
    rename_i hb
    obtain ⟨b1, b2⟩ := bAnd hb
    have b1 := Nat.le_of_ble_eq_true b1
    have b2 := Nat.le_of_ble_eq_true b2
    have hlen := hv.length
    let a0 : Act := { tmps := vs.toArray ++ Array.replicate (fn.ntmps - vs.toArray.size) undef, defers := [] }
    have ht : TR ρ (Tr.ofList l) a0 := by
      intro t
      unfold tget
      rw [Tr.ofList_get _ _ (by omega)]
      simp only [a0, Array.getD_eq_getD_getElem?, Array.getElem?_append, List.size_toArray]
      by_cases ct : t < l.length
      · rw [if_pos (by omega)]
        obtain ⟨v, e1, e2⟩ := hv.get t _ (List.getElem?_eq_getElem ct)
        rw [List.getElem?_eq_getElem ct, List.getElem?_toArray, e1]
        exact e2
      · rw [if_neg (by omega), List.getElem?_eq_none (by omega)]
        simp only [Array.getElem?_replicate]
        split <;> exact VR.undefA
    have hn : a0.tmps.size = fn.ntmps := by simp [a0]; omega
    have fin : ∀ {ex : AEx} {A : Tr AV} {H1 : AHeap} {m : List AV}, (ex = .normal ∨ ex = .ret) → aCode E (aFn E d) fn.ntmps d c (Tr.ofList l) H = some (ex, A, H1) → aResults E.P A H1 fn.results.toList = some m → r = pack m → H' = H1 →
        Calls E.P f vs.toArray w fun e w' => ∃ v ρ', e = .returned v ∧ VR ρ' r v ∧ HR E.P B ρ' H' w' ∧ Post ρ H w ρ' H' w' := by
      intro ex A H1 m hex hcode hres hr hH
      subst hr hH
      refine calls_of_wp hfn hc ?_
      refine aCode_sound hE ih hm d c _ H ex A H' hcode ρ a0 w _ hh hf ht hn fun a' w' ρ' t1 t2 t3 t4 t5 => ?_
      obtain ⟨us, u1, u2⟩ := aResults_sound t4 t1 _ m hres
      have hrun : (results fn a'.tmps).run E.P w' = .ok (if h : us.toArray.size = 1 then us.toArray[0] else .tuple us.toArray) w' := by
        rw [results_eq]
        have : (fn.results.mapM (resOf a'.tmps)).run E.P w' = .ok us.toArray w' := by
          rw [← Array.toArray_toList (xs := fn.results), List.mapM_toArray, Sem.run_map, u2]
          rfl
        simp only [Sem.run_bind]
        rw [this]
        rfl
      have : a'.defers = [] ∧ ∃ v, (results fn a'.tmps).run E.P w' = .ok v w' ∧ ∃ v1 ρ1, Ending.returned v = .returned v1 ∧ VR ρ1 (pack m) v1 ∧ HR E.P B ρ1 H' w' ∧ Post ρ H w ρ1 H' w' :=
        ⟨t3, _, hrun, _, ρ', rfl, VR.pack u1, t4, t5⟩
      rcases hex with rfl | rfl
      · exact this
      · exact this
    split at h
    · rename_i A H1 hcode
      split at h
      · rename_i m hres
        cases h
        exact fin (.inl rfl) hcode hres rfl rfl
      · cases h
    · rename_i A H1 hcode
      split at h
      · rename_i m hres
        cases h
        exact fin (.inr rfl) hcode hres rfl rfl
      · cases h
    · cases h
end
end Go.Ev
