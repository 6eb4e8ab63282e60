/- Functions that are known by a contract, or by a table of runs that were reckoned apart. -/
import Derived.Test.YtjlaiimcbkbciaaDoorEv30
import Derived.Lib.IndexMore
import Derived.Lib.Join
noncomputable section
namespace Go.Ev
open Go Go.RowKit
section
variable {P : Program} {B : Bas} {ρ : Ren} {H : AHeap} {w w' : World}
/-- New blocks, and nothing else: what was told still holds. -/
theorem HR.below (h : HR P B ρ H w) (b : Below w.heap.size w w') : HR P B ρ H w' ∧ Post ρ H w ρ H w' := by
  have hk : ∀ n o bb cp, H.objs.get n = some o → ρ n = some (bb, cp) → o.live = true → bb < w.heap.size := fun n o bb cp e r l => by
    obtain ⟨b0, c0, h0, h1⟩ := (h.obj n o e).block l
    rw [r] at h0
    obtain ⟨rfl, rfl⟩ := Prod.mk.inj (Option.some.inj h0)
    exact h1
  refine ⟨⟨fun n o e => ?_, h.inj, h.mem, h.clo, h.low, h.old, h.lim, Nat.le_trans h.base b.size, h.lole, fun k hk => ?_⟩,
    ⟨Ren.le_refl _, fun n a c => absurd a c, Nat.le_refl _, rfl, fun _ _ => rfl, b.os, b.tape, b.output, b.size, fun k hk1 _ => b.block k hk1, fun _ hb => .inr hb⟩⟩
  · by_cases hl : o.live = true
    · exact (h.obj n o e).keep (Ren.le_refl _) fun bb cp r => b.block bb (hk n o bb cp e r hl)
    · cases o <;> first | trivial | simp [AObj.live] at hl
  · rw [b.block k (Nat.lt_of_lt_of_le hk h.base)]; exact h.snap k hk
/-- Nothing is told. -/
theorem HR.forget (h : HR P B ρ H w) : HR P B (fun _ => none) H00 w := by
  refine ⟨fun n o e => ?_, fun n m o q b cp cq e => ?_, fun n o c l m e => ?_, fun n o c e => ?_, (fun n b cp e => by cases e), fun n o e => ?_, by decide, h.base, Nat.le_refl _, h.snap⟩
  all_goals (rw [show H00.objs.get n = none from Tr.get_leaf n] at e; cases e)
end
/-! ### Values without memory -/
def AV.flat : AV → Bool
  | .bool _ | .int _ _ | .str _ => true
  | _ => false
def AV.flatR : AV → Bool
  | .tuple l => l.all AV.flat
  | a => a.flat
def eqAV : AV → AV → Bool
  | .bool true, .bool true => true
  | .bool false, .bool false => true
  | .int k a, .int k' b => match eqK k k' with
    | true => eqI a b
    | false => false
  | .str a, .str b => eqL a b
  | _, _ => false
def eqAVL : List AV → List AV → Bool
  | [], [] => true
  | a :: l, b :: m => match eqAV a b with
    | true => eqAVL l m
    | false => false
  | _, _ => false
def eqAVR : AV → AV → Bool
  | .tuple l, .tuple m => eqAVL l m
  | a, b => eqAV a b
theorem eqL_true : ∀ {l m : List Nat}, eqL l m = true → l = m
  | [], [], _ => rfl
  | [], _ :: _, h => by cases h
  | _ :: _, [], h => by cases h
  | x :: l, y :: m, h => by
    unfold eqL at h
    split at h
    · rename_i hb
      rw [Nat.eq_of_beq_eq_true hb, eqL_true h]
    · cases h
theorem eqAV_eq {a b : AV} (h : eqAV a b = true) : a = b ∧ a.flat = true := by
  unfold eqAV at h
  split at h
  · exact ⟨rfl, rfl⟩
  · exact ⟨rfl, rfl⟩
  · split at h
    · rename_i hk
      rw [eqI_eq] at h
      have e1 := eqK_eq hk
      have e2 := eq_of_beq h
      subst e1 e2
      exact ⟨rfl, rfl⟩
    · cases h
  · rename_i x y
    have := eqL_true h
    subst this
    exact ⟨rfl, rfl⟩
  · cases h
theorem eqAVL_eq : ∀ {l m : List AV}, eqAVL l m = true → l = m ∧ l.all AV.flat = true
  | [], [], _ => ⟨rfl, rfl⟩
  | [], _ :: _, h => by cases h
  | _ :: _, [], h => by cases h
  | a :: l, b :: m, h => by
    unfold eqAVL at h
    split at h
    · rename_i he
      obtain ⟨e1, e2⟩ := eqAV_eq he
      obtain ⟨e3, e4⟩ := eqAVL_eq h
      subst e1 e3
      exact ⟨rfl, by simp [e2, e4]⟩
    · cases h
theorem eqAVR_eq {a b : AV} (h : eqAVR a b = true) : a = b ∧ a.flatR = true := by
  unfold eqAVR at h
  split at h
  · obtain ⟨e1, e2⟩ := eqAVL_eq h
    subst e1
    exact ⟨rfl, e2⟩
  · obtain ⟨e1, e2⟩ := eqAV_eq h
    subst e1
    refine ⟨rfl, ?_⟩
    cases a <;> first | exact e2 | cases e2
theorem VR.flatly {ρ ρ' : Ren} {a : AV} {v : Value} (h : a.flat = true) (hv : VR ρ a v) : VR ρ' a v := by
  cases a <;> first | exact hv | cases h
theorem VRL.flatly {ρ ρ' : Ren} : ∀ {l : List AV} {vs : List Value}, l.all AV.flat = true → VRL ρ l vs → VRL ρ' l vs
  | [], _, _, h => h
  | a :: l, vs, hf, h => by
    obtain ⟨v, ws, rfl, h1, h2⟩ := h
    simp only [List.all_cons, Bool.and_eq_true] at hf
    exact VRL.cons (h1.flatly hf.1) (VRL.flatly hf.2 h2)
theorem VR.flatlyR {ρ ρ' : Ren} {a : AV} {v : Value} (h : a.flatR = true) (hv : VR ρ a v) : VR ρ' a v := by
  cases a with
  | tuple l =>
    obtain ⟨vs, rfl, h1⟩ := hv
    exact ⟨vs, rfl, h1.flatly h⟩
  | _ => exact VR.flatly h hv
/-- A table of runs. -/
abbrev Tab := List (List AV × AV)
def tabF (t : Tab) (l : List AV) (H : AHeap) : Option (AV × AHeap) :=
  match t with
  | [] => none
  | e :: t => match eqAVL e.1 l with
    | true => some (e.2, H)
    | false => tabF t l H
def okTab (E : Env) (d f : Nat) : Tab → Bool
  | [] => true
  | e :: t => match aFn E d f e.1 H00 with
    | none => false
    | some (r, _) => match eqAVR e.2 r with
      | true => okTab E d f t
      | false => false
/-- A run without memory, from wherever. -/
theorem run_flat {E : Env} {B : Bas} {d f : Nat} (hE : EOK E B) (hm : E.P.follows .mixedOrders = true) {l : List AV} {r : AV} {H' : AHeap} (hr : aFn E d f l H00 = some (r, H')) (hl : l.all AV.flat = true) (hrf : r.flatR = true)
    {ρ : Ren} {H : AHeap} {w : World} {vs : List Value} (h : HR E.P B ρ H w) (hv : VRL ρ l vs) :
    Calls E.P f vs.toArray w fun e w' => ∃ v, e = .returned v ∧ (∀ ρ' : Ren, VR ρ' r v) ∧ Below w.heap.size w w' := by
  refine (aFn_sound hE hm d f l H00 r H' hr (fun _ => none) w vs h.forget (fun _ _ _ => rfl) (hv.flatly hl)).mono fun e w' ⟨v, ρ', h1, h2, h3, h4⟩ => ?_
  refine ⟨v, h1, fun ρ2 => h2.flatlyR hrf, h4.os, h4.tape, h4.output, h4.size, fun k hk => h4.frame k hk ?_⟩
  rintro ⟨n, o, cp, e, _⟩
  rw [show H00.objs.get n = none from Tr.get_leaf n] at e
  cases e
/-- A function that is known by what it returns. -/
theorem FnOK.of {P : Program} {B : Bas} {f : FuncId} {h : List AV → AHeap → Option (AV × AHeap)}
    (k : ∀ (l : List AV) (H : AHeap) (r : AV) (H' : AHeap), h l H = some (r, H') → H' = H ∧ ∀ (ρ : Ren) (w : World) (vs : List Value), HR P B ρ H w → VRL ρ l vs →
      Calls P f vs.toArray w fun e w' => ∃ v, e = .returned v ∧ VR ρ r v ∧ Below w.heap.size w w') : FnOK P B f h := by
  intro l H r H' hh ρ w vs hr _ hv
  obtain ⟨rfl, h2⟩ := k l H r H' hh
  refine (h2 ρ w vs hr hv).mono fun e w' ⟨v, h3, h4, h5⟩ => ?_
  obtain ⟨h6, h7⟩ := hr.below h5
  exact ⟨v, ρ, h3, h4, h6, h7⟩
theorem FnOK.tab {E : Env} {B : Bas} {d f : Nat} (hE : EOK E B) (hm : E.P.follows .mixedOrders = true) : ∀ {t : Tab}, okTab E d f t = true → FnOK E.P B f (tabF t)
  | [], _ => fun l H r H' h => by cases h
  | e :: t, h => by
    refine FnOK.of fun l H r H' hh => ?_
    unfold okTab at h
    split at h
    · cases h
    rename_i r0 H0 hrun
    split at h
    · rename_i heq
      obtain ⟨e1, e2⟩ := eqAVR_eq heq
      unfold tabF at hh
      split at hh
      · rename_i hk
        cases hh
        obtain ⟨e3, e4⟩ := eqAVL_eq hk
        refine ⟨rfl, fun ρ w vs hr hv => ?_⟩
        rw [← e1] at hrun
        refine (run_flat hE hm hrun e4 e2 hr (e3 ▸ hv)).mono fun e' w' ⟨v, h1, h2, h3⟩ => ⟨v, h1, h2 ρ, h3⟩
      · have ih := FnOK.tab hE hm h l H r H' hh
        have hH : H' = H := by
          have : ∀ t : Tab, tabF t l H = some (r, H') → H' = H := by
            intro t
            induction t with
            | nil => intro h; cases h
            | cons e t ih =>
              intro h
              unfold tabF at h
              split at h
              · cases h; rfl
              · exact ih h
          exact this t hh
        subst hH
        refine ⟨rfl, fun ρ w vs hr hv => ?_⟩
        have key : ∀ (t : Tab), okTab E d f t = true → tabF t l H' = some (r, H') → Calls E.P f vs.toArray w fun e w' => ∃ v, e = .returned v ∧ VR ρ r v ∧ Below w.heap.size w w' := by
          intro t
          induction t with
          | nil => intro _ h; cases h
          | cons e t ih =>
            intro ho h
            unfold okTab at ho
            split at ho
            · cases ho
            rename_i r0 H0 hrun
            split at ho
            · rename_i heq
              obtain ⟨e1, e2⟩ := eqAVR_eq heq
              unfold tabF at h
              split at h
              · rename_i hk
                cases h
                obtain ⟨e3, e4⟩ := eqAVL_eq hk
                rw [← e1] at hrun
                exact (run_flat hE hm hrun e4 e2 hr (e3 ▸ hv)).mono fun e' w' ⟨v, h1, h2, h3⟩ => ⟨v, h1, h2 ρ, h3⟩
              · exact ih ho h
            · cases ho
        exact key t h hh
    · cases h
theorem okTab_append {E : Env} {d f : Nat} : ∀ {s t : Tab}, okTab E d f s = true → okTab E d f t = true → okTab E d f (s ++ t) = true
  | [], _, _, h => h
  | e :: s, t, h, k => by
    unfold okTab at h
    show okTab E d f (e :: (s ++ t)) = true
    unfold okTab
    split at h
    · cases h
    · split at h
      · exact okTab_append h k
      · cases h
/-! ### The list of what is known -/
theorem extOK_fn {P : Program} {k : Nat} {h : List AV → AHeap → Option (AV × AHeap)} {l : List (Nat × ExtK)} (hl : ExtOK P (extL l)) : ExtOK P (extL ((k, .fn h) :: l)) := by
  intro f k' e hp
  unfold extL at e
  split at e
  · cases e; cases hp
  · exact hl f k' e hp
def FnsOK (P : Program) (B : Bas) (ext : FuncId → Option ExtK) : Prop := ∀ f h, ext f = some (.fn h) → FnOK P B f h
theorem FnsOK.nil {P : Program} {B : Bas} : FnsOK P B (extL []) := fun f h e => by cases e
theorem FnsOK.cons {P : Program} {B : Bas} {k : Nat} {h : List AV → AHeap → Option (AV × AHeap)} {l : List (Nat × ExtK)} (hk : FnOK P B k h) (hl : FnsOK P B (extL l)) : FnsOK P B (extL ((k, .fn h) :: l)) := by
  intro f h' e
  unfold extL at e
  split at e
  · rename_i hb
    obtain rfl := Nat.eq_of_beq_eq_true hb
    cases e
    exact hk
  · exact hl f h' e
theorem FnsOK.skip {P : Program} {B : Bas} {k : Nat} {x : ExtK} (hx : x.plain = true) {l : List (Nat × ExtK)} (hl : FnsOK P B (extL l)) : FnsOK P B (extL ((k, x) :: l)) := by
  intro f h' e
  unfold extL at e
  split at e
  · cases e; cases hx
  · exact hl f h' e
/-! ### Functions of strings -/
def pfxN : List Nat → List Nat → Bool
  | [], _ => true
  | _ :: _, [] => false
  | x :: l, y :: m => match Nat.beq x y with
    | true => pfxN l m
    | false => false
def idxN (sub : List Nat) : List Nat → Nat → AV
  | [], i => match sub with
    | [] => .int .i64 (Int.ofNat i)
    | _ :: _ => .int .i64 (-1)
  | x :: l, i => match pfxN sub (x :: l) with
    | true => .int .i64 (Int.ofNat i)
    | false => idxN sub l (i + 1)
def idxF (l : List AV) (H : AHeap) : Option (AV × AHeap) :=
  match l with
  | [.str s, .str m] => match Nat.blt s.length 4294967281 with
    | true => some (idxN m s 0, H)
    | false => none
  | _ => none
theorem pfxN_eq : ∀ (l m : List Nat), (∀ x ∈ l, x < 256) → (∀ x ∈ m, x < 256) → pfxN l m = (l.map UInt8.ofNat).isPrefixOf (m.map UInt8.ofNat)
  | [], m, _, _ => by simp [pfxN]
  | x :: l, [], _, _ => by simp [pfxN]
  | x :: l, y :: m, h1, h2 => by
    unfold pfxN
    simp only [List.map_cons, List.isPrefixOf]
    by_cases e : x = y
    · subst e
      rw [Nat.beq_refl, pfxN_eq l m (fun z hz => h1 z (by simp [hz])) (fun z hz => h2 z (by simp [hz]))]
      simp
    · have hb : Nat.beq x y = false := by
        cases hh : Nat.beq x y
        · rfl
        · exact absurd (Nat.eq_of_beq_eq_true hh) e
      have hne : (UInt8.ofNat x == UInt8.ofNat y) = false := by
        rw [beq_eq_false_iff_ne]
        intro he
        have := congrArg UInt8.toNat he
        have hx := h1 x (by simp)
        have hy := h2 y (by simp)
        simp [Nat.mod_eq_of_lt hx, Nat.mod_eq_of_lt hy] at this
        exact e this
      rw [hb, hne]
      simp
theorem idxN_eq (m : List Nat) (hm : ∀ x ∈ m, x < 256) : ∀ (s : List Nat) (i : Nat), (∀ x ∈ s, x < 256) →
    ∃ r : Int, idxN m s i = .int .i64 r ∧ (r = if 0 ≤ Lib.index (s.map UInt8.ofNat) (m.map UInt8.ofNat) then (i : Int) + Lib.index (s.map UInt8.ofNat) (m.map UInt8.ofNat) else -1)
  | [], i, _ => by
    unfold idxN
    cases m with
    | nil => exact ⟨_, rfl, by simp [Lib.index]⟩
    | cons y m => exact ⟨_, rfl, by simp [Lib.index]⟩
  | x :: l, i, h => by
    unfold idxN
    have hp := pfxN_eq m (x :: l) hm h
    simp only [List.map_cons, Lib.index] at hp ⊢
    rw [hp]
    cases hc : (m.map UInt8.ofNat).isPrefixOf (UInt8.ofNat x :: l.map UInt8.ofNat) with
    | true => exact ⟨_, rfl, by simp⟩
    | false =>
      simp only [Bool.false_eq_true, if_false]
      obtain ⟨r, h1, h2⟩ := idxN_eq m hm l (i + 1) fun y hy => h y (by simp [hy])
      refine ⟨r, h1, ?_⟩
      rw [h2]
      have hge := Lib.index_ge (l.map UInt8.ofNat) (m.map UInt8.ofNat)
      by_cases hr : 0 ≤ Lib.index (l.map UInt8.ofNat) (m.map UInt8.ofNat)
      · have : (Lib.index (l.map UInt8.ofNat) (m.map UInt8.ofNat) == -1) = false := beq_eq_false_iff_ne.2 (by omega)
        simp [this, hr]
        split <;> omega
      · have : Lib.index (l.map UInt8.ofNat) (m.map UInt8.ofNat) = -1 := by omega
        simp [this]
theorem idxN_lib (m s : List Nat) (hm : ∀ x ∈ m, x < 256) (hs : ∀ x ∈ s, x < 256) : idxN m s 0 = .int .i64 (Lib.index (s.map UInt8.ofNat) (m.map UInt8.ofNat)) := by
  obtain ⟨r, h1, h2⟩ := idxN_eq m hm s 0 hs
  rw [h1, h2]
  have hge := Lib.index_ge (s.map UInt8.ofNat) (m.map UInt8.ofNat)
  split
  · simp
  · congr 1; omega
theorem bs_list (l : List Nat) : (bs l).data.toList = l.map UInt8.ofNat := by simp [bs]
theorem FnOK.index {P : Program} {B : Bas} {f g : Nat} (hg : ∃ arr e fr m, B.held g = some (.cells arr e fr) ∧ arr[0]? = some (.int .i64 m)) (hgs : g < B.size)
    (c : ∀ (s sub : ByteArray) (m : Int) (w : World), s.size < 4294967281 → w.cell? ⟨g, 0, none⟩ = some (.int .i64 m) →
      Calls P f #[.string s, .string sub] w fun e w' => e = .returned (.int .i64 (Lib.index s.data.toList sub.data.toList)) ∧ w' = w) : FnOK P B f idxF := by
  refine FnOK.of fun l H r H' hh => ?_
  unfold idxF at hh
  split at hh
  · rename_i s m
    split at hh
    · rename_i hl
      cases hh
      refine ⟨rfl, fun ρ w vs hr hv => ?_⟩
      obtain ⟨v, ws, rfl, ⟨rfl, hs⟩, u, ws', rfl, ⟨rfl, hm⟩, hn⟩ := hv
      simp only [VRL] at hn
      subst hn
      obtain ⟨arr, e, fr, mm, h1, h2⟩ := hg
      have hc : w.cell? ⟨g, 0, none⟩ = some (.int .i64 mm) := by simp [World.cell?, hr.snap g hgs, h1, h2]
      refine (c (bs s) (bs m) mm w (by rw [bs_size]; exact blt_t hl) hc).mono fun e w' ⟨h3, h4⟩ => ?_
      subst h4
      refine ⟨_, h3, ?_, Below.refl _ _⟩
      rw [bs_list, bs_list, idxN_lib m s hm hs]
      rfl
    · cases hh
  · cases hh
/-- A function that gives its text back. -/
def cloneF (l : List AV) (H : AHeap) : Option (AV × AHeap) :=
  match l with
  | [.str s] => match Nat.ble s.length 281474976710656 with
    | true => some (.str s, H)
    | false => none
  | _ => none
theorem FnOK.clone {P : Program} {B : Bas} {f : Nat}
    (c : ∀ (s : ByteArray) (w : World), s.size ≤ 281474976710656 → Calls P f #[.string s] w fun e w' => e = .returned (.string s) ∧ Below w.heap.size w w') : FnOK P B f cloneF := by
  refine FnOK.of fun l H r H' hh => ?_
  unfold cloneF at hh
  split at hh
  · rename_i s
    split at hh
    · rename_i hl
      cases hh
      refine ⟨rfl, fun ρ w vs hr hv => ?_⟩
      obtain ⟨v, ws, rfl, ⟨rfl, hs⟩, hn⟩ := hv
      simp only [VRL] at hn
      subst hn
      exact (c (bs s) w (by rw [bs_size]; exact Nat.le_of_ble_eq_true hl)).mono fun e w' ⟨h3, h4⟩ => ⟨_, h3, ⟨rfl, hs⟩, h4⟩
    · cases hh
  · cases hh
def repN (l : List Nat) : Nat → List Nat
  | 0 => []
  | n + 1 => l ++ repN l n
def repF (l : List AV) (H : AHeap) : Option (AV × AHeap) :=
  match l with
  | [.str s, .int .i64 (.ofNat n)] => match Nat.ble n 9223372036854775807, Nat.ble (s.length * n) 140737488355328 with
    | true, true => some (.str (repN s n), H)
    | _, _ => none
  | _ => none
theorem repN_mem {l : List Nat} : ∀ {n x : Nat}, x ∈ repN l n → x ∈ l
  | 0, x, h => by cases h
  | n + 1, x, h => by
    rcases List.mem_append.1 h with h | h
    · exact h
    · exact repN_mem h
theorem FnOK.repeat {P : Program} {B : Bas} {f : Nat} (R : List UInt8 → Nat → List UInt8) (hR0 : ∀ l, R l 0 = []) (hR1 : ∀ l n, R l (n + 1) = l ++ R l n)
    (c : ∀ (s : ByteArray) (n : Nat) (w : World), n ≤ 9223372036854775807 → s.size * n ≤ 140737488355328 → Calls P f #[.string s, .int .i64 n] w fun e w' => e = .returned (.string ⟨(R s.data.toList n).toArray⟩) ∧ Below w.heap.size w w') : FnOK P B f repF := by
  have hR : ∀ (s : List Nat) n, R (s.map UInt8.ofNat) n = (repN s n).map UInt8.ofNat := fun s n => by
    induction n with
    | zero => rw [hR0]; rfl
    | succ n ih => rw [hR1, ih]; simp [repN]
  refine FnOK.of fun l H r H' hh => ?_
  unfold repF at hh
  split at hh
  · rename_i s n
    split at hh
    · rename_i hl1 hl2
      cases hh
      refine ⟨rfl, fun ρ w vs hr hv => ?_⟩
      obtain ⟨v, ws, rfl, ⟨rfl, hs⟩, u, ws', rfl, hu, hn⟩ := hv
      simp only [VRL] at hn
      simp only [VR] at hu
      subst hn hu
      refine (c (bs s) n w (Nat.le_of_ble_eq_true hl1) (by rw [bs_size]; exact Nat.le_of_ble_eq_true hl2)).mono fun e w' ⟨h3, h4⟩ => ⟨_, h3, ⟨?_, fun x hx => hs x (repN_mem hx)⟩, h4⟩
      rw [bs_list, hR]
      rfl
    · cases hh
  · cases hh
/-! ### strings.Join -/
def strsL : List AV → Option (List (List Nat))
  | [] => some []
  | .str l :: r => match strsL r with
    | some m => some (l :: m)
    | none => none
  | _ => none
def joinT (sep : List Nat) : List (List Nat) → List Nat
  | [] => []
  | y :: r => sep ++ (y ++ joinT sep r)
def joinN (sep : List Nat) : List (List Nat) → List Nat
  | [] => []
  | x :: r => x ++ joinT sep r
def joinAt (H : AHeap) (g off n : Nat) (sep : List Nat) : Option (AV × AHeap) :=
  match H.objs.get g with
  | some (.cells _ k _ t) => match Nat.ble (off + n) k with
    | true => match aLoadCells t n off with
      | some l => match strsL l with
        | some m => match Nat.ble (joinN sep m).length 140737488355328, Nat.ble n 140737488355328 with
          | true, true => some (.str (joinN sep m), H)
          | _, _ => none
        | none => none
      | none => none
    | false => none
  | _ => none
def joinF (l : List AV) (H : AHeap) : Option (AV × AHeap) :=
  match l with
  | [.slice g off n _, .str sep] => joinAt H g off n sep
  | [.sliceC g off n cap, .str sep] => match Nat.ble n cap with
    | true => joinAt H g off n sep
    | false => none
  | _ => none
theorem strsL_sound {ρ : Ren} : ∀ {l : List AV} {m : List (List Nat)} {vs : List Value}, strsL l = some m → VRL ρ l vs → vs = (m.map bs).map Value.string ∧ ∀ x ∈ m, ∀ y ∈ x, y < 256
  | [], m, vs, h, hv => by
    simp [strsL] at h; subst h
    simp only [VRL] at hv; subst hv
    exact ⟨rfl, by simp⟩
  | a :: l, m, vs, h, hv => by
    unfold strsL at h
    split at h
    · rename_i he; cases he
    · rename_i x r he
      cases he
      split at h
      · rename_i m' hm
        cases h
        obtain ⟨v, ws, rfl, ⟨rfl, hx⟩, hw⟩ := hv
        obtain ⟨e1, e2⟩ := strsL_sound hm hw
        subst e1
        exact ⟨rfl, by intro z hz; rcases List.mem_cons.1 hz with rfl | hz; exact hx; exact e2 z hz⟩
      · cases h
    · cases h
theorem joinT_lib (sep : List Nat) : ∀ (m : List (List Nat)), (joinT sep m).map UInt8.ofNat = Lib.joinTail (sep.map UInt8.ofNat) (m.map fun l => l.map UInt8.ofNat)
  | [] => rfl
  | y :: r => by
    have := joinT_lib sep r
    simp only [joinT, List.map_append, this]
    simp [Lib.joinTail, List.append_assoc]
theorem joinN_lib (sep : List Nat) (m : List (List Nat)) : (joinN sep m).map UInt8.ofNat = Lib.join (m.map fun l => l.map UInt8.ofNat) (sep.map UInt8.ofNat) := by
  cases m with
  | nil => rfl
  | cons x r => rw [List.map_cons, Lib.join_cons, ← joinT_lib]; simp [joinN]
theorem joinT_lt {sep : List Nat} (hs : ∀ x ∈ sep, x < 256) : ∀ {m : List (List Nat)}, (∀ x ∈ m, ∀ y ∈ x, y < 256) → ∀ y ∈ joinT sep m, y < 256
  | [], _, y, h => by cases h
  | x :: r, hm, y, h => by
    unfold joinT at h
    rcases List.mem_append.1 h with h | h
    · exact hs y h
    · rcases List.mem_append.1 h with h | h
      · exact hm x (by simp) y h
      · exact joinT_lt hs (fun z hz => hm z (by simp [hz])) y h
theorem joinN_lt {sep : List Nat} (hs : ∀ x ∈ sep, x < 256) {m : List (List Nat)} (hm : ∀ x ∈ m, ∀ y ∈ x, y < 256) : ∀ y ∈ joinN sep m, y < 256 := by
  intro y h
  cases m with
  | nil => cases h
  | cons x r =>
    unfold joinN at h
    rcases List.mem_append.1 h with h | h
    · exact hm x (by simp) y h
    · exact joinT_lt hs (fun z hz => hm z (by simp [hz])) y h
theorem FnOK.join {P : Program} {B : Bas} {f : Nat}
    (c : ∀ (bk o cp : Nat) (xs : List ByteArray) (sep : ByteArray) (w : World), (∀ (j : Nat) x, xs[j]? = some x → w.cell? ⟨bk, o + j, none⟩ = some (.string x)) → bk < w.heap.size → xs.length ≤ 140737488355328 → xs.length ≤ cp →
      (Lib.join (xs.map (·.data.toList)) sep.data.toList).length ≤ 140737488355328 →
      Calls P f #[.slice (some ⟨bk, o, none⟩) xs.length cp, .string sep] w fun e w' => e = .returned (.string ⟨(Lib.join (xs.map (·.data.toList)) sep.data.toList).toArray⟩) ∧ Below w.heap.size w w') : FnOK P B f joinF := by
  have core : ∀ (H : AHeap) (g off n : Nat) (sep : List Nat) (r : AV) (H' : AHeap), joinAt H g off n sep = some (r, H') → H' = H ∧ ∀ (ρ : Ren) (w : World) (b c0 cp : Nat), HR P B ρ H w → ρ g = some (b, c0) → n ≤ cp → (∀ x ∈ sep, x < 256) →
      Calls P f #[.slice (some ⟨b, off, none⟩) n cp, .string (bs sep)] w fun e w' => ∃ v, e = .returned v ∧ VR ρ r v ∧ Below w.heap.size w w' := by
    intro H g off n sep r H' hh
    unfold joinAt at hh
    split at hh
    · rename_i e k c0 t hg
      split at hh
      · rename_i hk
        split at hh
        · rename_i l hl
          split at hh
          · rename_i m hm
            split at hh
            · rename_i hlen hn
              cases hh
              refine ⟨rfl, fun ρ w b c1 cp hr hrho hcp hs => ?_⟩
              obtain ⟨vs, h1, h2, h3⟩ := hr.cellsL hg hrho n off l hl (Nat.le_of_ble_eq_true hk)
              obtain ⟨e1, e2⟩ := strsL_sound hm h1
              subst e1
              have hbl : (m.map bs).length = n := by simpa using h2
              have hb : b < w.heap.size := by
                obtain ⟨b0, c2, e3, e4⟩ := (hr.obj g _ hg).block rfl
                rw [hrho] at e3
                obtain ⟨rfl, rfl⟩ := Prod.mk.inj (Option.some.inj e3)
                exact e4
              have hj : Lib.join ((m.map bs).map (·.data.toList)) (bs sep).data.toList = (joinN sep m).map UInt8.ofNat := by
                rw [joinN_lib, bs_list]
                congr 1
                simp [bs_list]
              have := c b off cp (m.map bs) (bs sep) w (fun j x hx => h3 j _ (by rw [List.getElem?_map, hx]; rfl)) hb (by rw [hbl]; exact Nat.le_of_ble_eq_true hn) (by rw [hbl]; exact hcp) (by rw [hj]; simpa using Nat.le_of_ble_eq_true hlen)
              rw [hbl, hj] at this
              exact this.mono fun e w' ⟨h4, h5⟩ => ⟨_, h4, ⟨rfl, joinN_lt hs e2⟩, h5⟩
            · cases hh
          · cases hh
        · cases hh
      · cases hh
    · cases hh
  refine FnOK.of fun l H r H' hh => ?_
  unfold joinF at hh
  split at hh
  · rename_i g off n sh sep
    obtain ⟨h1, h2⟩ := core H g off n sep r H' hh
    refine ⟨h1, fun ρ w vs hr hv => ?_⟩
    obtain ⟨v, ws, rfl, ⟨b, c0, h3, h4, rfl⟩, u, ws', rfl, ⟨rfl, hs⟩, hn⟩ := hv
    simp only [VRL] at hn
    subst hn
    exact h2 ρ w b c0 _ hr h3 (by omega) hs
  · rename_i g off n cap sep
    split at hh
    · rename_i hcap
      obtain ⟨h1, h2⟩ := core H g off n sep r H' hh
      refine ⟨h1, fun ρ w vs hr hv => ?_⟩
      obtain ⟨v, ws, rfl, ⟨b, c0, h3, rfl⟩, u, ws', rfl, ⟨rfl, hs⟩, hn⟩ := hv
      simp only [VRL] at hn
      subst hn
      exact h2 ρ w b c0 cap hr h3 (Nat.le_of_ble_eq_true hcap) hs
    · cases hh
  · cases hh
end Go.Ev
