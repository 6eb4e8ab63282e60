/- append, as the reckoner does it. -/
import Derived.Test.YtjlaiimcbkbciaaDoorEv12
noncomputable section
namespace Go.Ev
open Go
def notInt : TypeDesc → Bool
  | .int _ => false
  | _ => true
theorem notInt_ne {d : TypeDesc} (h : notInt d = true) : ∀ k, d ≠ .int k := fun k e => by subst e; cases h
/-- A new row with its front known, and room that is not. -/
def aGrow (H : AHeap) (e bytes need : Nat) (l : List AV) : Option (AV × AHeap) :=
  match Nat.ble (need * bytes) 140737488355328 && Nat.ble need 1000000000 with
  | false => none
  | true => match H.open_ e l with
    | none => none
    | some (g, H') => some (.slice g 0 need 0, H')
/-- One row more of a class, perhaps in the same block. -/
def aAmb (H : AHeap) (g e bytes size k need : Nat) (l : List AV) : Option (AV × AHeap) :=
  match H.objs.get g with
  | some (.cells e' k' (some c) t) => match H.objs.get c with
    | some (.members (g' :: rest) m) => match Nat.beq g' g && Nat.beq e' e && Nat.beq k' k && Nat.beq m k && Nat.ble (need * bytes) 140737488355328 && Nat.ble need 1000000000 && Nat.ble (need * size) 1000000000 && Nat.beq (k + l.length) (need * size) && l.all AV.one && Nat.ble H.lo c && H.room with
      | false => none
      | true => some (.slice H.next 0 need 0, (H.put c (.members (H.next :: g :: rest) (need * size))).alloc (.cells e (need * size) (some c) (Tr.ofListFrom t k l)))
    | _ => none
  | _ => none
def aAppend (P : Program) (H : AHeap) (ts : Array TypeId) (s x : AV) : Option (AV × AHeap) :=
  match ts[0]?, ts[1]? with
  | some t, some u => match P.underlying t, P.underlying u with
    | some (.slice e), some d => match P.info? e, zeroOf P e with
      | some i, some z => match notInt d && Nat.beq z.cells.length i.size && Nat.blt 0 i.size with
        | false => none
        | true => match aSrc H i.size x with
          | none => none
          | some (n, l) => match s with
            | .nilSlice => match Nat.beq n 0 with
              | true => some (.nilSlice, H)
              | false => aGrow H e i.bytes n l
            | .slice g off len sh => match Nat.beq n 0 with
              | true => some (.slice g off len sh, H)
              | false => match H.objs.get g with
                | some (.cells e' k (some _) _) => match Nat.beq off (sh * i.size) && Nat.ble ((sh + len + n) * i.size) k && Nat.beq e' e with
                  | true => match aStoreCells H g (off + len * i.size) l with
                    | none => none
                    | some H' => some (.slice g off (len + n) sh, H')
                  | false => match Nat.beq off 0 && Nat.beq sh 0 with
                    | false => none
                    | true => aAmb H g e i.bytes i.size (len * i.size) (len + n) l
                | _ => none
            | .sliceC g off len cap => match Nat.beq n 0 && Nat.ble len cap with
              | true => some (.sliceC g off len cap, H)
              | false => match Nat.ble (len + n) cap with
                | true => match aStoreCells H g (off + len * i.size) l with
                  | none => none
                  | some H' => some (.sliceC g off (len + n) cap, H')
                | false => match aSrc H i.size (.sliceC g off len cap) with
                  | none => none
                  | some (_, olds) => aGrow H e i.bytes (len + n) (olds ++ l)
            | .eslice g => match Nat.beq n 0 with
              | true => some (.eslice g, H)
              | false => none
            | _ => none
      | _, _ => none
    | _, _ => none
  | _, _ => none
section
variable {P : Program} {B : Bas} {ρ : Ren} {H : AHeap} {w : World}
theorem HR.drew (h : HR P B ρ H w) : HR P B ρ H w.drew :=
  ⟨fun n o e => (h.obj n o e).keep (Ren.le_refl _) fun _ _ _ => rfl, h.inj, h.mem, h.clo, h.low, h.old, h.lim, h.base, h.lole, h.snap⟩
theorem Post.ofDrew {ρ' : Ren} {H' : AHeap} {w' : World} (p : Post ρ H w.drew ρ' H' w') : Post ρ H w ρ' H' w' :=
  ⟨p.le, p.new, p.next, p.lo, p.keep, p.os, p.tape, p.output, p.size, p.frame, p.told⟩
theorem grown_row {us vs : List Value} {lo l : List AV} (ho : VRL ρ lo us) (hl : VRL ρ l vs) (rest : Array Value) :
    ∀ (j : Nat) (a : AV), (lo ++ l)[j]? = some a → ∃ v, (us.toArray ++ vs.toArray ++ rest)[j]? = some v ∧ VR ρ a v := by
  intro j a hj
  obtain ⟨v, e1, e2⟩ := (ho.append hl).get j a hj
  refine ⟨v, ?_, e2⟩
  have hlt := (List.getElem?_eq_some_iff.1 e1).1
  rw [Array.getElem?_append, if_pos (by simpa using hlt)]
  simpa using e1
theorem grown_size {us vs : List Value} {z : Value} {s1 s2 size cap need : Nat} (h1 : us.length = s1 * size) (h2 : vs.length = s2 * size) (hz : z.cells.size = size) (hn : s1 + s2 = need) (hc : need ≤ cap) :
    (us.toArray ++ vs.toArray ++ Builtin.zeroCells z.cells (cap - need)).size = cap * size := by
  simp only [Array.size_append, List.size_toArray, h1, h2, size_zeroCells, hz]
  rw [← Nat.add_mul, ← Nat.add_mul, hn, Nat.add_sub_cancel' hc]
theorem aGrow_sound (h : HR P B ρ H w) {e bytes need : Nat} {lo l : List AV} {r : AV} {H' : AHeap} (hg : aGrow H e bytes need (lo ++ l) = some (r, H')) (hf : Free ρ H.next H'.next)
    {i : TypeInfo} {z : Value} {us vs : List Value} {s1 s2 sCap : Nat} (hi : P.info? e = some i) (hzs : z.cells.size = i.size) (ho : VRL ρ lo us) (hl : VRL ρ l vs) (h1 : us.length = s1 * i.size) (h2 : vs.length = s2 * i.size) (hn : s1 + s2 = need) :
    ∃ ρ', VR ρ' r (.slice (some ⟨w.heap.size, 0, none⟩) need (grownCap w need sCap e)) ∧
      HR P B ρ' H' (w.drew.alloc (.cells (us.toArray ++ vs.toArray ++ Builtin.zeroCells z.cells (grownCap w need sCap e - need)) e)) ∧
      Post ρ H w ρ' H' (w.drew.alloc (.cells (us.toArray ++ vs.toArray ++ Builtin.zeroCells z.cells (grownCap w need sCap e - need)) e)) ∧ need * bytes ≤ 140737488355328 ∧ need ≤ 1000000000 := by
  unfold aGrow at hg
  split at hg
  · cases hg
  rename_i hb
  obtain ⟨b1, b2⟩ := bAnd hb
  have b1 := Nat.le_of_ble_eq_true b1
  have b2 := Nat.le_of_ble_eq_true b2
  split at hg
  · cases hg
  rename_i g H1 hopen
  cases hg
  have hcap := grownCap_ge w need sCap e
  have hsize := grown_size (z := z) h1 h2 hzs hn hcap
  have hll : (lo ++ l).length ≤ (us.toArray ++ vs.toArray ++ Builtin.zeroCells z.cells (grownCap w need sCap e - need)).size := by
    simp only [Array.size_append, List.size_toArray, List.length_append, ho.length, hl.length]
    omega
  obtain ⟨ρ', q1, q2, q3⟩ := open_sound h.drew hopen hf (cp := grownCap w need sCap e) (fr := (0, 0)) hi hsize hll (FrOK.zero _) (grown_row ho hl _)
  exact ⟨ρ', ⟨_, _, q3, by simpa using hcap, by simp⟩, q1, q2.ofDrew, b1, b2⟩
theorem aAmb_sound (h : HR P B ρ H w) {g e k need : Nat} {l : List AV} {r : AV} {H' : AHeap} {i : TypeInfo} (hg : aAmb H g e i.bytes i.size k need l = some (r, H')) (hf : Free ρ H.next H'.next)
    {ts : Array TypeId} {ty t u len n : Nat} {d : TypeDesc} {z x : Value} {vs : List Value} {b cp : Nat} (h0 : ts[0]? = some t) (h1 : ts[1]? = some u) (ht : P.underlying t = some (.slice e)) (hu : P.underlying u = some d) (hd : ∀ k, d ≠ .int k) (hi : P.info? e = some i) (hz0 : i.zero = some z)
    (hzs : z.cells.size = i.size) (hpos : 0 < i.size) (hr : ρ g = some (b, cp)) (hk : k = len * i.size) (hnd : need = len + n) (hcap : len ≤ cp)
    (hl : VRL ρ l vs) (hvl : vs.length = n * i.size) (hn : ∀ w' : World, (Builtin.lenOf x).run P w' = .ok n w') (hc : ∀ w' : World, w'.heap = w.heap → (Builtin.firstCells i.size n x).run P w' = .ok vs.toArray w') :
    ∃ v w' ρ', (Builtin.append_ ts ty #[.slice (some ⟨b, 0, none⟩) len cp, x]).run P w = .ok v w' ∧ VR ρ' r v ∧ HR P B ρ' H' w' ∧ Post ρ H w ρ' H' w' := by
  unfold aAmb at hg
  split at hg
  · rename_i e' k' c tr hgo
    split at hg
    · rename_i g' rest m hmo
      split at hg
      · cases hg
      rename_i hb
      obtain ⟨hb, b10⟩ := bAnd hb
      obtain ⟨hb, b11⟩ := bAnd hb
      have b11 := Nat.le_of_ble_eq_true b11
      obtain ⟨hb, b9⟩ := bAnd hb
      obtain ⟨hb, b8⟩ := bAnd hb
      obtain ⟨hb, b7⟩ := bAnd hb
      obtain ⟨hb, b6⟩ := bAnd hb
      obtain ⟨hb, b5⟩ := bAnd hb
      obtain ⟨hb, b4⟩ := bAnd hb
      obtain ⟨hb, b3⟩ := bAnd hb
      obtain ⟨b1, b2⟩ := bAnd hb
      have b1 := Nat.eq_of_beq_eq_true b1
      have b2 := Nat.eq_of_beq_eq_true b2
      have b3 := Nat.eq_of_beq_eq_true b3
      have b4 := Nat.eq_of_beq_eq_true b4
      have b5 := Nat.le_of_ble_eq_true b5
      have b6 := Nat.le_of_ble_eq_true b6
      have b7 := Nat.le_of_ble_eq_true b7
      have b8 := Nat.eq_of_beq_eq_true b8
      have b10 := AHeap.room_lt b10
      subst b1 b2 b3 b4
      cases hg
      have hfr : ρ H.next = none := hf _ (Nat.le_refl _) (by simp [AHeap.alloc, AHeap.put])
      have hlen := hl.length
      obtain ⟨b', cp', arr, fr, q1, q2, q3, q4, q5, q6, q7⟩ := h.obj g' _ hgo
      rw [hr] at q1
      obtain ⟨rfl, rfl⟩ := Prod.mk.inj (Option.some.inj q1)
      obtain ⟨ti, q61, q62⟩ := q6 (by simp)
      rw [hi] at q61
      obtain rfl := Option.some.inj q61
      have hkk : m ≤ need * i.size := by omega
      by_cases hfit : len + n ≤ cp
      · -- in its own block
        have hone : ∀ v ∈ vs, v.oneCell' = true := fun v hv' => by
          obtain ⟨j, hj⟩ := List.getElem?_of_mem hv'
          have hjl : j < l.length := by rw [← hlen]; exact (List.getElem?_eq_some_iff.1 hj).1
          obtain ⟨v', e1, e2⟩ := hl.get j _ (List.getElem?_eq_getElem hjl)
          rw [hj] at e1
          obtain rfl := Option.some.inj e1
          exact e2.one (List.all_eq_true.1 b9 _ (List.getElem_mem hjl))
        have hroom : m + vs.length ≤ arr.size := by
          rw [q62, hvl, hk, ← Nat.add_mul]; exact Nat.mul_le_mul_right _ hfit
        obtain ⟨w', arr', e1, e2, e3, e4, e5, e6, e7, e8, e9⟩ := run_stores (P := P) b e' fr vs m 0 w arr q2 (by omega) q3 hone
        have hle := Ren.le_upd (ρ := ρ) (n := H.next) (b, cp) hfr
        obtain ⟨h2, p2⟩ := h.extend b10 hfr hgo hmo hkk b11 hr e7 e8 e9 e6 e5 q2 e2 e3 (fun j hj => by rw [e4 j, if_neg (by omega)]) (t2 := Tr.ofListFrom tr m l)
          ⟨b, cp, arr', fr, Ren.upd_same _ _ _, e2, by rw [e3]; exact q3, by omega, by simp, fun _ => ⟨i, hi, by rw [e3]; exact q62⟩, fun j hj => by
            rw [Tr.ofListFrom_get _ _ _ _ (by omega), e4 j]
            by_cases c1 : m ≤ j ∧ j < m + l.length
            · rw [if_pos c1, if_pos (by omega)]
              have hjj : j - m < l.length := by omega
              obtain ⟨v', f1, f2⟩ := hl.get (j - m) _ (List.getElem?_eq_getElem hjj)
              exact ⟨_, v', List.getElem?_eq_getElem hjj, by simpa using f1, f2.mono hle⟩
            · rw [if_neg c1, if_neg (by omega)]
              obtain ⟨a, v, g1, g2, g3⟩ := q7 j (by omega)
              exact ⟨a, v, g1, g2, g3.mono hle⟩⟩
        refine ⟨.slice (some ⟨b, 0, none⟩) (len + n) cp, w', _, ?_, ⟨b, cp, Ren.upd_same _ _ _, by omega, by simp [hnd]⟩, h2, p2⟩
        rw [append_fits h0 h1 ht hu hd hi hn (hc w rfl) hfit]
        simp only [add_off, Nat.zero_add, ← hk, e1, Result.andThen_ok]
      · -- in a new one
        have gen : ∀ (n off : Nat), off + n ≤ m → aLoadCells tr n off = some ((List.range n).map fun j => (tr.get (off + j)).getD default) := by
          intro n
          induction n with
          | zero => intro off _; rfl
          | succ n ih =>
            intro off hle
            obtain ⟨a, v, g1, _, _⟩ := q7 off (by omega)
            unfold aLoadCells
            rw [g1, ih (off + 1) (by omega), List.range_succ_eq_map]
            simp [g1, Nat.add_assoc, Nat.add_comm 1]
        have hload := gen (len * i.size) 0 (by omega)
        obtain ⟨olds, o1, o2, o3⟩ := h.cellsL hgo hr (len * i.size) 0 _ hload (by omega)
        · have hof : (Builtin.firstCells i.size len (.slice (some ⟨b, 0, none⟩) len cp)).run P w.drew = .ok olds.toArray w.drew :=
            run_firstCells_some w.drew i.size len _ len cp olds o2 fun j v hj => by
              rw [add_off]
              simpa using o3 j v hj
          have hcap2 := grownCap_ge w (len + n) cp e'
          have hsize := grown_size (z := z) o2 hvl hzs rfl hcap2
          have hrun := append_grows (ty := ty) h0 h1 ht hu hd hi hz0 hn (hc w.drew rfl) hof (by omega) (by rw [← hnd]; exact b5) (by rw [← hnd]; exact b6)
          have hin : ∀ n' o, H.objs.get n' = some o → o.cls = some c → n' ∈ H.next :: g' :: rest ∧ o.known ≤ need * i.size := by
            intro n' o e1 e2
            obtain ⟨f2, f3⟩ := h.mem n' o c _ _ e1 e2 hmo
            exact ⟨List.mem_cons_of_mem _ f2, Nat.le_trans f3 hkk⟩
          obtain ⟨h2, p2⟩ := h.drew.rejoin (mk := need * i.size) hmo hin b11
          have hfr2 : ρ (H.put c (.members (H.next :: g' :: rest) (need * i.size))).next = none := hfr
          have hle := Ren.le_upd (ρ := ρ) (n := (H.put c (.members (H.next :: g' :: rest) (need * i.size))).next) (w.drew.heap.size, grownCap w (len + n) cp e') hfr2
          have hcl : c < 2 ^ 63 := Nat.lt_trans (h.old c _ hmo) h.lim
          obtain ⟨h3, p3⟩ := h2.make (o := .cells e' (need * i.size) (some c) (Tr.ofListFrom tr m l))
            (O := .cells (olds.toArray ++ vs.toArray ++ Builtin.zeroCells z.cells (grownCap w (len + n) cp e' - (len + n))) e') b10 hfr2 (grownCap w (len + n) cp e')
            ⟨w.drew.heap.size, grownCap w (len + n) cp e', _, (0, 0), Ren.upd_same _ _ _, heap_new _ _, FrOK.zero _, by rw [hsize, hnd]; exact Nat.mul_le_mul_right _ hcap2, by simp, fun _ => ⟨i, hi, hsize⟩, fun j hj => by
              have hol : olds.length = m := by rw [o2, hk]
              have hfront : ∀ v, (olds ++ vs)[j]? = some v → (olds.toArray ++ vs.toArray ++ Builtin.zeroCells z.cells (grownCap w (len + n) cp e' - (len + n)))[j]? = some v := fun v hv => by
                have hlt := (List.getElem?_eq_some_iff.1 hv).1
                rw [Array.getElem?_append, if_pos (by simpa using hlt)]
                simpa using hv
              by_cases c1 : m ≤ j ∧ j < m + l.length
              · rw [Tr.ofListFrom_get _ _ _ _ (by omega), if_pos c1]
                have hjj : j - m < l.length := by omega
                obtain ⟨v', f1, f2⟩ := hl.get (j - m) _ (List.getElem?_eq_getElem hjj)
                exact ⟨_, v', List.getElem?_eq_getElem hjj, hfront v' (by rw [List.getElem?_append, if_neg (by omega), hol]; exact f1), f2.mono hle⟩
              · rw [Tr.ofListFrom_get _ _ _ _ (by omega), if_neg c1]
                obtain ⟨a, v, g1, g2, g3⟩ := q7 j (by omega)
                have hoj := o3 j (olds[j]'(by omega)) (List.getElem?_eq_getElem (by omega))
                have hcell : w.cell? ⟨b, 0 + j, none⟩ = some v := by simp [World.cell?, q2, g2]
                rw [hcell] at hoj
                exact ⟨a, v, g1, hfront v (by rw [List.getElem?_append, if_pos (by omega), List.getElem?_eq_getElem (by omega)]; exact hoj.symm), g3.mono hle⟩⟩
            (by
              intro c1 hc1
              cases hc1
              refine ⟨h.old c _ hmo, fun l1 m1 hl1 => ?_⟩
              rw [show (H.put c (.members (H.next :: g' :: rest) (need * i.size))).objs.get c = if c = c then some (.members (H.next :: g' :: rest) (need * i.size)) else H.objs.get c from Tr.set_get _ _ _ _ hcl] at hl1
              simp at hl1
              obtain ⟨rfl, rfl⟩ := hl1
              exact ⟨by simp [AHeap.put], Nat.le_refl _⟩)
          exact ⟨_, _, _, hrun, ⟨_, _, Ren.upd_same _ _ _, by rw [hnd]; omega, by simp [hnd]⟩, h3, (p2.trans p3).ofDrew⟩
    · cases hg
  · cases hg
end
end Go.Ev
