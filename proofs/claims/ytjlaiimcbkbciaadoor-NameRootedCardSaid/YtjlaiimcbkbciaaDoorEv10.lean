/- Loads, stores, new variables. -/
import Derived.Test.YtjlaiimcbkbciaaDoorEv9
import Derived.Laws.Cells
noncomputable section
namespace Go.Ev
open Go
section
variable {P : Program} {B : Bas} {ρ : Ren} {H : AHeap} {w : World}
/-- A cell that is told of. -/
theorem HR.cell (h : HR P B ρ H w) {g e k : Nat} {c : Option Nat} {t : Tr AV} (hg : H.objs.get g = some (.cells e k c t)) {i : Nat} (hi : i < k) {b cp : Nat} (hr : ρ g = some (b, cp)) :
    ∃ a v, t.get i = some a ∧ w.cell? ⟨b, i, none⟩ = some v ∧ VR ρ a v := by
  obtain ⟨b', cp', arr, fr, h1, h2, h3, h4, h5, h6, h7⟩ := h.obj g _ hg
  rw [hr] at h1
  obtain ⟨rfl, rfl⟩ := Prod.mk.inj (Option.some.inj h1)
  obtain ⟨a, v, e1, e2, e3⟩ := h7 i hi
  exact ⟨a, v, e1, by simp [World.cell?, h2, e2], e3⟩
def aLoadCells (t : Tr AV) : Nat → Nat → Option (List AV)
  | 0, _ => some []
  | n + 1, off => match t.get off with
    | none => none
    | some a => match aLoadCells t n (off + 1) with
      | none => none
      | some l => some (a :: l)
theorem HR.cellsL (h : HR P B ρ H w) {g e k : Nat} {c : Option Nat} {t : Tr AV} (hg : H.objs.get g = some (.cells e k c t)) {b cp : Nat} (hr : ρ g = some (b, cp)) :
    ∀ (n off : Nat) (l : List AV), aLoadCells t n off = some l → off + n ≤ k → ∃ vs, VRL ρ l vs ∧ vs.length = n ∧ ∀ j v, vs[j]? = some v → w.cell? ⟨b, off + j, none⟩ = some v
  | 0, off, l, hl, _ => by simp [aLoadCells] at hl; subst hl; exact ⟨[], VRL.nil, rfl, by simp⟩
  | n + 1, off, l, hl, hk => by
    unfold aLoadCells at hl
    split at hl
    · cases hl
    rename_i a ha
    split at hl
    · cases hl
    rename_i l' hl'
    cases hl
    obtain ⟨vs, h1, h2, h3⟩ := h.cellsL hg hr n (off + 1) l' hl' (by omega)
    obtain ⟨a', v, e1, e2, e3⟩ := h.cell hg (i := off) (by omega) hr
    rw [ha] at e1
    obtain rfl := Option.some.inj e1
    refine ⟨v :: vs, VRL.cons e3 h1, by simp [h2], fun j u hj => ?_⟩
    cases j with
    | zero => simp at hj; subst hj; exact e2
    | succ j => simp at hj; rw [show off + (j + 1) = off + 1 + j from by omega]; exact h3 j u hj
theorem run_loads (b off : Nat) (vs : List Value) (h : ∀ j v, vs[j]? = some v → w.cell? ⟨b, off + j, none⟩ = some v) :
    (loadCells ⟨b, off, none⟩ vs.length).run P w = .ok vs.toArray w :=
  run_loadCells_list (P := P) w ⟨b, off, none⟩ vs fun j v hj => by rw [add_off]; exact h j v hj
def aLoad (P : Program) (H : AHeap) (t : TypeId) (x : AV) : Option AV :=
  match x with
  | .ptr g off => match H.objs.get g with
    | some (.cells _ k _ tr) => match P.underlying t with
      | none => none
      | some d => match aggB d with
        | false => match Nat.blt off k with
          | true => tr.get off
          | false => none
        | true => match P.info? t with
          | none => none
          | some i => match Nat.ble (off + i.size) k with
            | false => none
            | true => match aLoadCells tr i.size off with
              | none => none
              | some l => some (.agg l)
    | _ => none
  | _ => none
theorem aLoad_sound (h : HR P B ρ H w) {t : TypeId} {x r : AV} {v : Value} (hl : aLoad P H t x = some r) (hx : VR ρ x v) :
    ∃ a z, v = .pointer (some a) ∧ (loadVar t a).run P w = .ok z w ∧ VR ρ r z := by
  unfold aLoad at hl
  split at hl
  · rename_i g off
    simp only [VR] at hx
    obtain ⟨b, cp, hr, rfl⟩ := hx
    split at hl
    · rename_i e k c tr hg
      split at hl
      · cases hl
      rename_i d hd
      split at hl
      · rename_i ha
        split at hl
        · rename_i hlt
          obtain ⟨a, z, e1, e2, e3⟩ := h.cell hg (blt_t hlt) hr
          rw [hl] at e1
          obtain rfl := Option.some.inj e1
          refine ⟨_, z, rfl, ?_, e3⟩
          simp only [loadVar, Sem.run_bind, run_agg hd, ha, Result.andThen_ok, Bool.false_eq_true, if_false, run_load, e2]
        · cases hl
      · rename_i ha
        split at hl
        · cases hl
        rename_i i hi
        split at hl
        · cases hl
        rename_i hle
        split at hl
        · cases hl
        rename_i l hll
        cases hl
        obtain ⟨vs, h1, h2, h3⟩ := h.cellsL hg hr _ _ _ hll (Nat.le_of_ble_eq_true hle)
        refine ⟨_, .agg vs.toArray, rfl, ?_, vs, rfl, h1⟩
        have := run_loads (P := P) b off vs h3
        rw [h2] at this
        simp only [loadVar, Sem.run_bind, run_agg hd, ha, Result.andThen_ok, if_true, run_size hi, this, Sem.run_pure]
    · cases hl
  · cases hl

/-! ### Stores -/
def killAll (H : AHeap) : List Nat → Option AHeap
  | [] => some H
  | n :: l => match H.objs.get n with
    | some (.members _ _) | none => none
    | some _ => match Nat.ble H.lo n with
      | true => killAll (H.put n .dead) l
      | false => none
theorem killAll_sound : ∀ (l : List Nat) {H H' : AHeap}, killAll H l = some H' → HR P B ρ H w →
    HR P B ρ H' w ∧ Post ρ H w ρ H' w ∧ ∀ n o, H'.objs.get n = some o → o = .dead ∨ (H.objs.get n = some o ∧ n ∉ l)
  | [], H, H', hk, h => by simp [killAll] at hk; subst hk; exact ⟨h, Post.refl _ _ _, fun n o e => .inr ⟨e, by simp⟩⟩
  | n :: l, H, H', hk, h => by
    unfold killAll at hk
    split at hk
    · cases hk
    · cases hk
    · rename_i o hm ho
      split at hk
      case h_2 => cases hk
      rename_i hlo
      have hlt : n < 2 ^ 63 := Nat.lt_trans (h.old n o ho) h.lim
      obtain ⟨h1, p1⟩ := h.kill (g := n) (fun l m e => hm l m (by rw [ho] at e; exact Option.some.inj e)) (h.old n o ho) (Nat.le_of_ble_eq_true hlo)
      obtain ⟨h2, p2, h3⟩ := killAll_sound l hk h1
      refine ⟨h2, p1.trans p2, fun m q e => ?_⟩
      rcases h3 m q e with h4 | ⟨h4, h5⟩
      · exact .inl h4
      · have hg : (H.put n .dead).objs.get m = if m = n then some .dead else H.objs.get m := Tr.set_get _ _ _ _ hlt
        rw [hg] at h4
        split at h4
        · exact .inl (Option.some.inj h4).symm
        · rename_i hne
          exact .inr ⟨h4, by simp [hne, h5]⟩
/-- Name g shall be the only one of its class. -/
def own (H : AHeap) (g : Nat) (c : Option Nat) : Option AHeap :=
  match c with
  | none => some H
  | some c => match H.objs.get c with
    | some (.members (h :: rest) m) => match Nat.beq h g with
      | false => none
      | true => match rest with
        | [] => some H
        | _ :: _ => match killAll H rest with
          | none => none
          | some H1 => match H1.objs.get c, Nat.ble H1.lo c with
            | some (.members _ _), true => some (H1.put c (.members [g] m))
            | _, _ => none
    | _ => none
def Sole (ρ : Ren) (H : AHeap) (g b : Nat) : Prop := ∀ n q cq, H.objs.get n = some q → q.live = true → ρ n = some (b, cq) → n = g
theorem own_sound {g : Nat} {c : Option Nat} {H' : AHeap} (ho : own H g c = some H') (h : HR P B ρ H w) (hc : ∀ o, H'.objs.get g = some o → o.live = true → o.cls = c) :
    HR P B ρ H' w ∧ Post ρ H w ρ H' w ∧ ∀ o b cp, H'.objs.get g = some o → o.live = true → ρ g = some (b, cp) → Sole ρ H' g b := by
  have fin : ∀ {H' : AHeap}, HR P B ρ H' w → (∀ o, H'.objs.get g = some o → o.live = true → o.cls = c) → (∀ d, c = some d → ∃ m, H'.objs.get d = some (.members [g] m)) →
      ∀ o b cp, H'.objs.get g = some o → o.live = true → ρ g = some (b, cp) → Sole ρ H' g b := by
    intro H' h' hc hm o b cp eo lo ro n q cq eq lq rq
    rcases h'.inj n g q o b cq cp eq eo lq lo rq ro with h1 | ⟨d, h1, h2⟩
    · exact h1
    · have := hc o eo lo
      rw [h2] at this
      obtain ⟨m', hm'⟩ := hm d this.symm
      obtain ⟨e2, _⟩ := h'.mem n q d _ _ eq h1 hm'
      simpa using e2
  unfold own at ho
  split at ho
  · cases ho
    exact ⟨h, Post.refl _ _ _, fin h hc (by simp)⟩
  · rename_i c'
    split at ho
    · rename_i h0 rest m0 hm
      split at ho
      · cases ho
      rename_i hb
      have hb := Nat.eq_of_beq_eq_true hb
      subst hb
      split at ho
      · cases ho
        exact ⟨h, Post.refl _ _ _, fin h hc (by simp; exact ⟨_, hm⟩)⟩
      · rename_i r0 r1
        split at ho
        · cases ho
        rename_i H1 hk
        split at ho
        · rename_i l1 m1 hm1 hlo
          cases ho
          obtain ⟨h1, p1, k1⟩ := killAll_sound _ hk h
          have hlt : c' < 2 ^ 63 := Nat.lt_trans (h1.old c' _ hm1) h1.lim
          have hin : ∀ n o, H1.objs.get n = some o → o.cls = some c' → n ∈ [h0] ∧ o.known ≤ m0 := by
            intro n o e ec
            rcases k1 n o e with h2 | ⟨h2, h3⟩
            · subst h2; cases ec
            · obtain ⟨e2, e3⟩ := h.mem n o c' _ _ h2 ec hm
              refine ⟨?_, e3⟩
              simp at e2 h3 ⊢
              rcases e2 with e2 | e2 | e2
              · exact e2
              · exact absurd e2 h3.1
              · exact absurd e2 h3.2
          obtain ⟨h2, p2⟩ := h1.rejoin hm1 hin (Nat.le_of_ble_eq_true hlo)
          refine ⟨h2, p1.trans p2, fin h2 hc fun d hd => ?_⟩
          cases hd
          refine ⟨m0, ?_⟩
          rw [show (H1.put c' (.members [h0] m0)).objs.get c' = if c' = c' then some (.members [h0] m0) else H1.objs.get c' from Tr.set_get _ _ _ _ hlt]
          simp
        · cases ho
    · cases ho
/-- Cells written over. -/
theorem run_stores (b el : Nat) (fr : Nat × Nat) : ∀ (vs : List Value) (off i : Nat) (w : World) (arr : Array Value), w.heap[b]? = some (.cells arr el fr) → off + i + vs.length ≤ arr.size →
    FrOK arr.size fr → (∀ v ∈ vs, v.oneCell' = true) →
    ∃ w' arr', (storeCells ⟨b, off, none⟩ vs i).run P w = .ok () w' ∧ w'.heap[b]? = some (.cells arr' el fr) ∧ arr'.size = arr.size ∧ (∀ j, arr'[j]? = if off + i ≤ j ∧ j < off + i + vs.length then vs[j - (off + i)]? else arr[j]?) ∧
      (∀ k, k ≠ b → w'.heap[k]? = w.heap[k]?) ∧ w'.heap.size = w.heap.size ∧ w'.os = w.os ∧ w'.tape = w.tape ∧ w'.output = w.output
  | [], off, i, w, arr, hb, _, _, _ => ⟨w, arr, rfl, hb, rfl, fun j => by rw [if_neg (by simp <;> omega)], fun _ _ => rfl, rfl, rfl, rfl, rfl⟩
  | v :: vs, off, i, w, arr, hb, hl, hf, h1 => by
    simp only [List.length_cons] at hl
    have hcell : w.cell? ⟨b, off + i, none⟩ = some arr[off + i] := by simp [World.cell?, hb]
    have hfz : w.frozen? ⟨b, off + i, none⟩ = false := by
      simp only [World.frozen?, hb]
      have := hf.1 (off + i) (by omega)
      cases h : decide (fr.1 ≤ off + i) && decide (off + i < fr.2)
      · rfl
      · simp at h; exact absurd h this
    have hb1 : (w.setCell ⟨b, off + i, none⟩ v).heap[b]? = some (.cells (arr.setIfInBounds (off + i) v) el fr) := by
      simp [World.setCell, Array.getElem?_modify, hb]
    obtain ⟨w', arr', e1, e2, e3, e4, e5, e6, e7, e8, e9⟩ := run_stores b el fr vs off (i + 1) (w.setCell ⟨b, off + i, none⟩ v) (arr.setIfInBounds (off + i) v) hb1 (by simp; omega) (by simpa using hf) (fun u hu => h1 u (by simp [hu]))
    refine ⟨w', arr', ?_, e2, by simpa using e3, fun j => ?_, fun k hk => ?_, by simpa using e6, e7, e8, e9⟩
    · unfold storeCells
      simp only [Sem.run_bind]
      rw [add_off, run_store P w _ v .plain (h1 v (by simp)), hcell]
      simp only [hfz, Bool.false_eq_true, if_false, Result.andThen_ok]
      exact e1
    · rw [e4 j, Array.getElem?_setIfInBounds]
      simp only [List.length_cons]
      by_cases c1 : off + (i + 1) ≤ j ∧ j < off + (i + 1) + vs.length
      · rw [if_pos c1, if_pos (by omega), show j - (off + i) = (j - (off + (i + 1))) + 1 from by omega, List.getElem?_cons_succ]
      · rw [if_neg c1]
        by_cases c2 : off + i = j
        · rw [if_pos c2, if_pos (by omega), if_pos (by omega), show j - (off + i) = 0 from by omega]; rfl
        · rw [if_neg c2, if_neg (by omega)]
    · rw [e5 k hk]
      simp only [World.setCell, Array.getElem?_modify]
      rw [if_neg (by omega)]
/-- Cells of a block that is told of are written. -/
def aStoreCells (H : AHeap) (g off : Nat) (l : List AV) : Option AHeap :=
  match H.objs.get g with
  | some (.cells _ _ c _) => match own H g c with
    | none => none
    | some H1 => match H1.objs.get g with
      | some (.cells e k c' t) => match (match c, c' with | none, none => true | some a, some b => Nat.beq a b | _, _ => false) && Nat.ble (off + l.length) k && Nat.ble (off + l.length) 1000000000 && Nat.ble H1.lo g && l.all AV.one with
        | true => some (H1.put g (.cells e k c' (Tr.ofListFrom t off l)))
        | false => none
      | _ => none
  | _ => none
theorem aStoreCells_sound (h : HR P B ρ H w) {g off : Nat} {l : List AV} {H' : AHeap} (hs : aStoreCells H g off l = some H') {b cp : Nat} (hr : ρ g = some (b, cp)) {vs : List Value} (hv : VRL ρ l vs) :
    ∃ w', (storeCells ⟨b, off, none⟩ vs 0).run P w = .ok () w' ∧ HR P B ρ H' w' ∧ Post ρ H w ρ H' w' := by
  unfold aStoreCells at hs
  split at hs
  · rename_i e0 k0 c t0 hg0
    split at hs
    · cases hs
    rename_i H1 ho
    split at hs
    · rename_i e k c' t hg
      split at hs
      · rename_i hb
        obtain ⟨hb, hone⟩ := bAnd hb
        obtain ⟨hb, hlo⟩ := bAnd hb
        obtain ⟨hb, hbig⟩ := bAnd hb
        obtain ⟨hb, hle⟩ := bAnd hb
        have hle := Nat.le_of_ble_eq_true hle
        have hbig := Nat.le_of_ble_eq_true hbig
        have hbig : off + l.length < 2 ^ 63 := by omega
        have hcc : c' = c := by
          cases c <;> cases c' <;> simp at hb ⊢
          exact hb.symm
        cases hs
        obtain ⟨h1, p1, sole⟩ := own_sound ho h (fun o eo _ => by rw [hg] at eo; cases eo; exact hcc)
        have hsole := sole _ b cp hg rfl hr
        obtain ⟨b', cp', arr, fr, q1, q2, q3, q4, q5, q6, q7⟩ := h1.obj g _ hg
        rw [hr] at q1
        obtain ⟨rfl, rfl⟩ := Prod.mk.inj (Option.some.inj q1)
        have hlen := hv.length
        obtain ⟨w', arr', e1, e2, e3, e4, e5, e6, e7, e8, e9⟩ := run_stores (P := P) b e fr vs off 0 w arr q2 (by omega) q3 (fun v hv' => by
          obtain ⟨j, hj⟩ := List.getElem?_of_mem hv'
          have hjl : j < l.length := by rw [← hlen]; exact (List.getElem?_eq_some_iff.1 hj).1
          obtain ⟨v', e1, e2⟩ := hv.get j _ (List.getElem?_eq_getElem hjl)
          rw [hj] at e1
          obtain rfl := Option.some.inj e1
          exact e2.one (List.all_eq_true.1 hone _ (List.getElem_mem hjl)))
        have ho' : OR P ρ g (.cells e k c' (Tr.ofListFrom t off l)) w' := by
          refine ⟨b, cp, arr', fr, hr, e2, by rw [e3]; exact q3, by omega, by rw [e3]; exact q5, by rw [e3]; exact q6, fun i hi => ?_⟩
          rw [Tr.ofListFrom_get _ _ _ _ hbig, e4 i]
          by_cases c1 : off ≤ i ∧ i < off + l.length
          · rw [if_pos c1, if_pos (by omega)]
            have hj : i - off < l.length := by omega
            obtain ⟨v', f1, f2⟩ := hv.get (i - off) _ (List.getElem?_eq_getElem hj)
            exact ⟨_, v', List.getElem?_eq_getElem hj, by simpa using f1, f2⟩
          · rw [if_neg c1, if_neg (by omega)]
            exact q7 i hi
        obtain ⟨h2, p2⟩ := h1.write hg rfl rfl hr hsole (o' := .cells e k c' (Tr.ofListFrom t off l)) rfl rfl (Nat.le_of_ble_eq_true hlo) e7 e8 e9 e6 e5 ho'
        exact ⟨w', e1, h2, p1.trans p2⟩
      · cases hs
    · cases hs
  · cases hs
end
end Go.Ev
