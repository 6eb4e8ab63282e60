/- append, copy, conversions between texts and bytes. append, as the reckoner does it. append, copy, texts to bytes and back: sound. Texts to bytes and back; copy. Maps, and going through maps and texts. Going through texts and maps; delete, len, clone of maps. Operations on memory, by one function: 'heapOp'. One operation, calls among them; regions in the text's order. Temporaries; guards; a region in the text's order. Two parts of memory that are told of apart, one of them worked on. A region that draws its order: reckoned in the text's order; what each operation may lean on is told apart. -/
import Derived.Test.YtogdkmkganpaaaaGreatDoorEvA
import Derived.Laws.BytesString
import Derived.Laws.IdiomStrings
import Derived.Laws.StructEq
import Derived.Laws.RangeString
import Derived.Lib.BytesEntry
import Derived.Tactics
import Derived.LoopN
import Derived.Defers
noncomputable section
namespace Go.Ev
open Go
section
variable {P : Program} {B : Bas} {ρ : Ren} {H : AHeap} {w : World}
/-- What append and copy read: how many elements, their cells. -/
def aSrc (H : AHeap) (size : Nat) (x : AV) : Option (Nat × List AV) :=
  match x with
  | .nilSlice => some (0, [])
  | .eslice _ => some (0, [])
  | .str l => match size with
    | 1 => some (l.length, l.map fun b => .int .u8 (Int.ofNat b))
    | _ => none
  | .slice g off n _ => match H.objs.get g with
    | some (.cells _ k _ t) => match Nat.ble (off + n * size) k with
      | true => match aLoadCells t (n * size) off with
        | some l => some (n, l)
        | none => none
      | false => none
    | _ => none
  | .sliceC g off n _ => match H.objs.get g with
    | some (.cells _ k _ t) => match Nat.ble (off + n * size) k with
      | true => match aLoadCells t (n * size) off with
        | some l => some (n, l)
        | none => none
      | false => none
    | _ => none
  | _ => none
theorem VRL.bytes (ρ : Ren) : ∀ (l : List Nat), (∀ x ∈ l, x < 256) → VRL ρ (l.map fun b => .int .u8 (Int.ofNat b)) ((l.map UInt8.ofNat).map fun b => Value.int .u8 b.toNat)
  | [], _ => VRL.nil
  | x :: l, h => by
    refine VRL.cons ?_ (VRL.bytes ρ l fun y hy => h y (by simp [hy]))
    have := h x (by simp)
    simp [VR, Nat.mod_eq_of_lt this]
theorem aSrc_sound (h : HR P B ρ H w) {size n : Nat} {x : AV} {l : List AV} {v : Value} (hs : aSrc H size x = some (n, l)) (hx : VR ρ x v) :
    ∃ vs, VRL ρ l vs ∧ vs.length = n * size ∧ (∀ w' : World, (Builtin.lenOf v).run P w' = .ok n w') ∧ ∀ w' : World, w'.heap = w.heap → (Builtin.firstCells size n v).run P w' = .ok vs.toArray w' := by
  have cells : ∀ {g off k cap : Nat} {b cp : Nat} {e : TypeId} {c : Option Nat} {t : Tr AV} {l : List AV}, H.objs.get g = some (.cells e k c t) → ρ g = some (b, cp) → off + n * size ≤ k → aLoadCells t (n * size) off = some l →
      ∃ vs, VRL ρ l vs ∧ vs.length = n * size ∧ (∀ w' : World, (Builtin.lenOf (.slice (some ⟨b, off, none⟩) n cap)).run P w' = .ok n w') ∧ ∀ w' : World, w'.heap = w.heap → (Builtin.firstCells size n (.slice (some ⟨b, off, none⟩) n cap)).run P w' = .ok vs.toArray w' := by
    intro g off k cap b cp e c t l hg hr hle hl
    obtain ⟨vs, h1, h2, h3⟩ := h.cellsL hg hr _ _ _ hl hle
    refine ⟨vs, h1, h2, fun w' => rfl, fun w' hw => ?_⟩
    refine run_firstCells_some w' size n _ n cap vs h2 fun j v hj => ?_
    rw [add_off]
    have := h3 j v hj
    simpa [World.cell?, hw] using this
  unfold aSrc at hs
  split at hs
  · cases hs
    simp only [VR] at hx; subst hx
    exact ⟨[], VRL.nil, by simp, fun _ => rfl, fun w' _ => by simp [Builtin.firstCells]⟩
  · cases hs
    simp only [VR] at hx
    obtain ⟨b, c, _, off, cap, rfl⟩ := hx
    exact ⟨[], VRL.nil, by simp, fun _ => rfl, fun w' _ => by simp [Builtin.firstCells, loadCells, loadCellsFrom]⟩
  · rename_i l'
    split at hs
    · cases hs
      simp only [VR] at hx
      obtain ⟨rfl, hl⟩ := hx
      refine ⟨_, VRL.bytes ρ l' hl, by simp, fun _ => by simp [Builtin.lenOf, bs_size], fun w' _ => ?_⟩
      simp only [Builtin.firstCells, Sem.run_pure]
      congr 1
      apply Array.ext'
      rw [bs_extract]
      simp [bs]
    · cases hs
  · rename_i g off n' sh
    split at hs
    · rename_i e k c t hg
      split at hs
      · rename_i hb
        split at hs
        · rename_i l' hl
          cases hs
          simp only [VR] at hx
          obtain ⟨b, cp, hr, _, rfl⟩ := hx
          exact cells hg hr (Nat.le_of_ble_eq_true hb) hl
        · cases hs
      · cases hs
    · cases hs
  · rename_i g off n' cap
    split at hs
    · rename_i e k c t hg
      split at hs
      · rename_i hb
        split at hs
        · rename_i l' hl
          cases hs
          simp only [VR] at hx
          obtain ⟨b, cp, hr, rfl⟩ := hx
          exact cells hg hr (Nat.le_of_ble_eq_true hb) hl
        · cases hs
      · cases hs
    · cases hs
  · cases hs

/-- What append does where there is room. -/
theorem append_fits {ts : Array TypeId} {ty t u e : TypeId} {d : TypeDesc} {i : TypeInfo} {base : Option Addr} {sLen sCap n : Nat} {v : Value} {vs : List Value}
    (h0 : ts[0]? = some t) (h1 : ts[1]? = some u) (ht : P.underlying t = some (.slice e)) (hu : P.underlying u = some d) (hd : ∀ k, d ≠ .int k) (hi : P.info? e = some i)
    (hn : ∀ w' : World, (Builtin.lenOf v).run P w' = .ok n w') (hc : (Builtin.firstCells i.size n v).run P w = .ok vs.toArray w) (hfit : sLen + n ≤ sCap) :
    (Builtin.append_ ts ty #[.slice base sLen sCap, v]).run P w =
      (match base with
        | some a => ((storeCells (a.add (sLen * i.size)) vs 0).run P w).andThen fun _ w' => .ok (.slice base (sLen + n) sCap) w'
        | none => .ok (.slice base (sLen + n) sCap) w) := by
  have hz : (match d with | .int _ => true | _ => false) = false := by cases d <;> first | rfl | exact absurd rfl (hd _)
  simp only [Builtin.append_, h0, h1, Sem.run_bind, run_und ht, run_und hu, run_size hi, Result.andThen_ok, Sem.run_pure, List.getElem?_toArray, List.getElem?_cons_zero, List.getElem?_cons_succ]
  simp only [hz, Bool.false_eq_true, if_false, Sem.run_bind, hn, Result.andThen_ok, hfit, if_true, Bool.not_false, hc]
  cases base with
  | none => simp
  | some a => simp
/-- What append does where there is none. -/
theorem append_grows {ts : Array TypeId} {ty t u e : TypeId} {d : TypeDesc} {i : TypeInfo} {z : Value} {base : Option Addr} {sLen sCap n : Nat} {v : Value} {vs us : List Value}
    (h0 : ts[0]? = some t) (h1 : ts[1]? = some u) (ht : P.underlying t = some (.slice e)) (hu : P.underlying u = some d) (hd : ∀ k, d ≠ .int k) (hi : P.info? e = some i) (hz0 : i.zero = some z)
    (hn : ∀ w' : World, (Builtin.lenOf v).run P w' = .ok n w') (hc : (Builtin.firstCells i.size n v).run P w.drew = .ok vs.toArray w.drew) (ho : (Builtin.firstCells i.size sLen (.slice base sLen sCap)).run P w.drew = .ok us.toArray w.drew)
    (hfit : sCap < sLen + n) (hb : (sLen + n) * i.bytes ≤ 140737488355328) (hsm : sLen + n ≤ 1000000000) :
    (Builtin.append_ ts ty #[.slice base sLen sCap, v]).run P w =
      .ok (.slice (some ⟨w.heap.size, 0, none⟩) (sLen + n) (grownCap w (sLen + n) sCap e))
        (w.drew.alloc (.cells (us.toArray ++ vs.toArray ++ Builtin.zeroCells z.cells (grownCap w (sLen + n) sCap e - (sLen + n))) e)) := by
  have hz : (match d with | .int _ => true | _ => false) = false := by cases d <;> first | rfl | exact absurd rfl (hd _)
  have hnf : ¬ (sLen + n ≤ sCap) := by omega
  have h48 := growslice_fits hfit hb
  have h48' : ¬ (Builtin.nextslicecap (sLen + n) sCap * i.bytes > 2 ^ 48) := by omega
  have h63 : ¬ (((sLen + n : Nat) : Int) > IntKind.i64.max ∧ (False ∨ i.bytes = 0)) := by
    rw [IntKind.max_i64]; omega
  simp only [Builtin.append_, h0, h1, Sem.run_bind, run_und ht, run_und hu, run_size hi, Result.andThen_ok, Sem.run_pure, List.getElem?_toArray, List.getElem?_cons_zero, List.getElem?_cons_succ]
  simp only [hz, Bool.false_eq_true, if_false, Sem.run_bind, hn, Result.andThen_ok, hnf, run_info hi]
  rw [if_neg h63]
  simp only [Sem.run_bind, run_info hi, Result.andThen_ok]
  rw [if_neg h48']
  simp only [Sem.run_bind, run_choose, Question.forced, Bool.false_eq_true, if_false, Result.andThen_ok, run_askRoom, World.drew_eq, run_info hi, ho, Bool.not_false, if_true, hc, run_zero hi hz0, run_newRow, Sem.run_pure, grownCap]
  rfl
end
end Go.Ev
noncomputable section
namespace Go.Ev
open Go
def notInt : TypeDesc → Bool
  | .int _ => false
  | _ => true
theorem notInt_ne {d : TypeDesc} (h : notInt d = true) : ∀ k, d ≠ .int k := fun k e => by subst e; cases h
/-- A new row with its front known, and room that is not. -/
def aGrow (H : AHeap) (e bytes need : Nat) (l : List AV) : Option (AV × AHeap) :=
  match Nat.ble (need * bytes) 140737488355328 && Nat.ble need 1000000000 with
  | false => none
  | true => match H.open_ e l with
    | none => none
    | some (g, H') => some (.slice g 0 need 0, H')
/-- One row more of a class, perhaps in the same block. -/
def aAmb (H : AHeap) (g e bytes size k need : Nat) (l : List AV) : Option (AV × AHeap) :=
  match H.objs.get g with
  | some (.cells e' k' (some c) t) => match H.objs.get c with
    | some (.members (g' :: rest) m) => match Nat.beq g' g && Nat.beq e' e && Nat.beq k' k && Nat.beq m k && Nat.ble (need * bytes) 140737488355328 && Nat.ble need 1000000000 && Nat.ble (need * size) 1000000000 && Nat.beq (k + l.length) (need * size) && l.all AV.one && Nat.ble H.lo c && H.room with
      | false => none
      | true => some (.slice H.next 0 need 0, (H.put c (.members (H.next :: g :: rest) (need * size))).alloc (.cells e (need * size) (some c) (Tr.ofListFrom t k l)))
    | _ => none
  | _ => none
def aAppend (P : Program) (H : AHeap) (ts : Array TypeId) (s x : AV) : Option (AV × AHeap) :=
  match ts[0]?, ts[1]? with
  | some t, some u => match P.underlying t, P.underlying u with
    | some (.slice e), some d => match P.info? e, zeroOf P e with
      | some i, some z => match notInt d && Nat.beq z.cells.length i.size && Nat.blt 0 i.size with
        | false => none
        | true => match aSrc H i.size x with
          | none => none
          | some (n, l) => match s with
            | .nilSlice => match Nat.beq n 0 with
              | true => some (.nilSlice, H)
              | false => aGrow H e i.bytes n l
            | .slice g off len sh => match Nat.beq n 0 with
              | true => some (.slice g off len sh, H)
              | false => match H.objs.get g with
                | some (.cells e' k (some _) _) => match Nat.beq off (sh * i.size) && Nat.ble ((sh + len + n) * i.size) k && Nat.beq e' e with
                  | true => match aStoreCells H g (off + len * i.size) l with
                    | none => none
                    | some H' => some (.slice g off (len + n) sh, H')
                  | false => match Nat.beq off 0 && Nat.beq sh 0 with
                    | false => none
                    | true => aAmb H g e i.bytes i.size (len * i.size) (len + n) l
                | _ => none
            | .sliceC g off len cap => match Nat.beq n 0 && Nat.ble len cap with
              | true => some (.sliceC g off len cap, H)
              | false => match Nat.ble (len + n) cap with
                | true => match aStoreCells H g (off + len * i.size) l with
                  | none => none
                  | some H' => some (.sliceC g off (len + n) cap, H')
                | false => match aSrc H i.size (.sliceC g off len cap) with
                  | none => none
                  | some (_, olds) => aGrow H e i.bytes (len + n) (olds ++ l)
            | .eslice g => match Nat.beq n 0 with
              | true => some (.eslice g, H)
              | false => none
            | _ => none
      | _, _ => none
    | _, _ => none
  | _, _ => none
section
variable {P : Program} {B : Bas} {ρ : Ren} {H : AHeap} {w : World}
theorem HR.drew (h : HR P B ρ H w) : HR P B ρ H w.drew :=
  ⟨fun n o e => (h.obj n o e).keep (Ren.le_refl _) fun _ _ _ => rfl, h.inj, h.mem, h.clo, h.low, h.old, h.lim, h.base, h.lole, h.snap⟩
theorem Post.ofDrew {ρ' : Ren} {H' : AHeap} {w' : World} (p : Post ρ H w.drew ρ' H' w') : Post ρ H w ρ' H' w' :=
  ⟨p.le, p.new, p.next, p.lo, p.keep, p.os, p.tape, p.output, p.size, p.frame, p.told⟩
theorem grown_row {us vs : List Value} {lo l : List AV} (ho : VRL ρ lo us) (hl : VRL ρ l vs) (rest : Array Value) :
    ∀ (j : Nat) (a : AV), (lo ++ l)[j]? = some a → ∃ v, (us.toArray ++ vs.toArray ++ rest)[j]? = some v ∧ VR ρ a v := by
  intro j a hj
  obtain ⟨v, e1, e2⟩ := (ho.append hl).get j a hj
  refine ⟨v, ?_, e2⟩
  have hlt := (List.getElem?_eq_some_iff.1 e1).1
  rw [Array.getElem?_append, if_pos (by simpa using hlt)]
  simpa using e1
theorem grown_size {us vs : List Value} {z : Value} {s1 s2 size cap need : Nat} (h1 : us.length = s1 * size) (h2 : vs.length = s2 * size) (hz : z.cells.size = size) (hn : s1 + s2 = need) (hc : need ≤ cap) :
    (us.toArray ++ vs.toArray ++ Builtin.zeroCells z.cells (cap - need)).size = cap * size := by
  simp only [Array.size_append, List.size_toArray, h1, h2, size_zeroCells, hz]
  rw [← Nat.add_mul, ← Nat.add_mul, hn, Nat.add_sub_cancel' hc]
theorem aGrow_sound (h : HR P B ρ H w) {e bytes need : Nat} {lo l : List AV} {r : AV} {H' : AHeap} (hg : aGrow H e bytes need (lo ++ l) = some (r, H')) (hf : Free ρ H.next H'.next)
    {i : TypeInfo} {z : Value} {us vs : List Value} {s1 s2 sCap : Nat} (hi : P.info? e = some i) (hzs : z.cells.size = i.size) (ho : VRL ρ lo us) (hl : VRL ρ l vs) (h1 : us.length = s1 * i.size) (h2 : vs.length = s2 * i.size) (hn : s1 + s2 = need) :
    ∃ ρ', VR ρ' r (.slice (some ⟨w.heap.size, 0, none⟩) need (grownCap w need sCap e)) ∧
      HR P B ρ' H' (w.drew.alloc (.cells (us.toArray ++ vs.toArray ++ Builtin.zeroCells z.cells (grownCap w need sCap e - need)) e)) ∧
      Post ρ H w ρ' H' (w.drew.alloc (.cells (us.toArray ++ vs.toArray ++ Builtin.zeroCells z.cells (grownCap w need sCap e - need)) e)) ∧ need * bytes ≤ 140737488355328 ∧ need ≤ 1000000000 := by
  unfold aGrow at hg
  split at hg
  · cases hg
  rename_i hb
  obtain ⟨b1, b2⟩ := bAnd hb
  have b1 := Nat.le_of_ble_eq_true b1
  have b2 := Nat.le_of_ble_eq_true b2
  split at hg
  · cases hg
  rename_i g H1 hopen
  cases hg
  have hcap := grownCap_ge w need sCap e
  have hsize := grown_size (z := z) h1 h2 hzs hn hcap
  have hll : (lo ++ l).length ≤ (us.toArray ++ vs.toArray ++ Builtin.zeroCells z.cells (grownCap w need sCap e - need)).size := by
    simp only [Array.size_append, List.size_toArray, List.length_append, ho.length, hl.length]
    omega
  obtain ⟨ρ', q1, q2, q3⟩ := open_sound h.drew hopen hf (cp := grownCap w need sCap e) (fr := (0, 0)) hi hsize hll (FrOK.zero _) (grown_row ho hl _)
  exact ⟨ρ', ⟨_, _, q3, by simpa using hcap, by simp⟩, q1, q2.ofDrew, b1, b2⟩
theorem aAmb_sound (h : HR P B ρ H w) {g e k need : Nat} {l : List AV} {r : AV} {H' : AHeap} {i : TypeInfo} (hg : aAmb H g e i.bytes i.size k need l = some (r, H')) (hf : Free ρ H.next H'.next)
    {ts : Array TypeId} {ty t u len n : Nat} {d : TypeDesc} {z x : Value} {vs : List Value} {b cp : Nat} (h0 : ts[0]? = some t) (h1 : ts[1]? = some u) (ht : P.underlying t = some (.slice e)) (hu : P.underlying u = some d) (hd : ∀ k, d ≠ .int k) (hi : P.info? e = some i) (hz0 : i.zero = some z)
    (hzs : z.cells.size = i.size) (hpos : 0 < i.size) (hr : ρ g = some (b, cp)) (hk : k = len * i.size) (hnd : need = len + n) (hcap : len ≤ cp)
    (hl : VRL ρ l vs) (hvl : vs.length = n * i.size) (hn : ∀ w' : World, (Builtin.lenOf x).run P w' = .ok n w') (hc : ∀ w' : World, w'.heap = w.heap → (Builtin.firstCells i.size n x).run P w' = .ok vs.toArray w') :
    ∃ v w' ρ', (Builtin.append_ ts ty #[.slice (some ⟨b, 0, none⟩) len cp, x]).run P w = .ok v w' ∧ VR ρ' r v ∧ HR P B ρ' H' w' ∧ Post ρ H w ρ' H' w' := by
  unfold aAmb at hg
  split at hg
  · rename_i e' k' c tr hgo
    split at hg
    · rename_i g' rest m hmo
      split at hg
      · cases hg
      rename_i hb
      obtain ⟨hb, b10⟩ := bAnd hb
      obtain ⟨hb, b11⟩ := bAnd hb
      have b11 := Nat.le_of_ble_eq_true b11
      obtain ⟨hb, b9⟩ := bAnd hb
      obtain ⟨hb, b8⟩ := bAnd hb
      obtain ⟨hb, b7⟩ := bAnd hb
      obtain ⟨hb, b6⟩ := bAnd hb
      obtain ⟨hb, b5⟩ := bAnd hb
      obtain ⟨hb, b4⟩ := bAnd hb
      obtain ⟨hb, b3⟩ := bAnd hb
      obtain ⟨b1, b2⟩ := bAnd hb
      have b1 := Nat.eq_of_beq_eq_true b1
      have b2 := Nat.eq_of_beq_eq_true b2
      have b3 := Nat.eq_of_beq_eq_true b3
      have b4 := Nat.eq_of_beq_eq_true b4
      have b5 := Nat.le_of_ble_eq_true b5
      have b6 := Nat.le_of_ble_eq_true b6
      have b7 := Nat.le_of_ble_eq_true b7
      have b8 := Nat.eq_of_beq_eq_true b8
      have b10 := AHeap.room_lt b10
      subst b1 b2 b3 b4
      cases hg
      have hfr : ρ H.next = none := hf _ (Nat.le_refl _) (by simp [AHeap.alloc, AHeap.put])
      have hlen := hl.length
      obtain ⟨b', cp', arr, fr, q1, q2, q3, q4, q5, q6, q7⟩ := h.obj g' _ hgo
      rw [hr] at q1
      obtain ⟨rfl, rfl⟩ := Prod.mk.inj (Option.some.inj q1)
      obtain ⟨ti, q61, q62⟩ := q6 (by simp)
      rw [hi] at q61
      obtain rfl := Option.some.inj q61
      have hkk : m ≤ need * i.size := by omega
      by_cases hfit : len + n ≤ cp
      · -- in its own block
        have hone : ∀ v ∈ vs, v.oneCell' = true := fun v hv' => by
          obtain ⟨j, hj⟩ := List.getElem?_of_mem hv'
          have hjl : j < l.length := by rw [← hlen]; exact (List.getElem?_eq_some_iff.1 hj).1
          obtain ⟨v', e1, e2⟩ := hl.get j _ (List.getElem?_eq_getElem hjl)
          rw [hj] at e1
          obtain rfl := Option.some.inj e1
          exact e2.one (List.all_eq_true.1 b9 _ (List.getElem_mem hjl))
        have hroom : m + vs.length ≤ arr.size := by
          rw [q62, hvl, hk, ← Nat.add_mul]; exact Nat.mul_le_mul_right _ hfit
        obtain ⟨w', arr', e1, e2, e3, e4, e5, e6, e7, e8, e9⟩ := run_stores (P := P) b e' fr vs m 0 w arr q2 (by omega) q3 hone
        have hle := Ren.le_upd (ρ := ρ) (n := H.next) (b, cp) hfr
        obtain ⟨h2, p2⟩ := h.extend b10 hfr hgo hmo hkk b11 hr e7 e8 e9 e6 e5 q2 e2 e3 (fun j hj => by rw [e4 j, if_neg (by omega)]) (t2 := Tr.ofListFrom tr m l)
          ⟨b, cp, arr', fr, Ren.upd_same _ _ _, e2, by rw [e3]; exact q3, by omega, by simp, fun _ => ⟨i, hi, by rw [e3]; exact q62⟩, fun j hj => by
            rw [Tr.ofListFrom_get _ _ _ _ (by omega), e4 j]
            by_cases c1 : m ≤ j ∧ j < m + l.length
            · rw [if_pos c1, if_pos (by omega)]
              have hjj : j - m < l.length := by omega
              obtain ⟨v', f1, f2⟩ := hl.get (j - m) _ (List.getElem?_eq_getElem hjj)
              exact ⟨_, v', List.getElem?_eq_getElem hjj, by simpa using f1, f2.mono hle⟩
            · rw [if_neg c1, if_neg (by omega)]
              obtain ⟨a, v, g1, g2, g3⟩ := q7 j (by omega)
              exact ⟨a, v, g1, g2, g3.mono hle⟩⟩
        refine ⟨.slice (some ⟨b, 0, none⟩) (len + n) cp, w', _, ?_, ⟨b, cp, Ren.upd_same _ _ _, by omega, by simp [hnd]⟩, h2, p2⟩
        rw [append_fits h0 h1 ht hu hd hi hn (hc w rfl) hfit]
        simp only [add_off, Nat.zero_add, ← hk, e1, Result.andThen_ok]
      · -- in a new one
        have gen : ∀ (n off : Nat), off + n ≤ m → aLoadCells tr n off = some ((List.range n).map fun j => (tr.get (off + j)).getD default) := by
          intro n
          induction n with
          | zero => intro off _; rfl
          | succ n ih =>
            intro off hle
            obtain ⟨a, v, g1, _, _⟩ := q7 off (by omega)
            unfold aLoadCells
            rw [g1, ih (off + 1) (by omega), List.range_succ_eq_map]
            simp [g1, Nat.add_assoc, Nat.add_comm 1]
        have hload := gen (len * i.size) 0 (by omega)
        obtain ⟨olds, o1, o2, o3⟩ := h.cellsL hgo hr (len * i.size) 0 _ hload (by omega)
        · have hof : (Builtin.firstCells i.size len (.slice (some ⟨b, 0, none⟩) len cp)).run P w.drew = .ok olds.toArray w.drew :=
            run_firstCells_some w.drew i.size len _ len cp olds o2 fun j v hj => by
              rw [add_off]
              simpa using o3 j v hj
          have hcap2 := grownCap_ge w (len + n) cp e'
          have hsize := grown_size (z := z) o2 hvl hzs rfl hcap2
          have hrun := append_grows (ty := ty) h0 h1 ht hu hd hi hz0 hn (hc w.drew rfl) hof (by omega) (by rw [← hnd]; exact b5) (by rw [← hnd]; exact b6)
          have hin : ∀ n' o, H.objs.get n' = some o → o.cls = some c → n' ∈ H.next :: g' :: rest ∧ o.known ≤ need * i.size := by
            intro n' o e1 e2
            obtain ⟨f2, f3⟩ := h.mem n' o c _ _ e1 e2 hmo
            exact ⟨List.mem_cons_of_mem _ f2, Nat.le_trans f3 hkk⟩
          obtain ⟨h2, p2⟩ := h.drew.rejoin (mk := need * i.size) hmo hin b11
          have hfr2 : ρ (H.put c (.members (H.next :: g' :: rest) (need * i.size))).next = none := hfr
          have hle := Ren.le_upd (ρ := ρ) (n := (H.put c (.members (H.next :: g' :: rest) (need * i.size))).next) (w.drew.heap.size, grownCap w (len + n) cp e') hfr2
          have hcl : c < 2 ^ 63 := Nat.lt_trans (h.old c _ hmo) h.lim
          obtain ⟨h3, p3⟩ := h2.make (o := .cells e' (need * i.size) (some c) (Tr.ofListFrom tr m l))
            (O := .cells (olds.toArray ++ vs.toArray ++ Builtin.zeroCells z.cells (grownCap w (len + n) cp e' - (len + n))) e') b10 hfr2 (grownCap w (len + n) cp e')
            ⟨w.drew.heap.size, grownCap w (len + n) cp e', _, (0, 0), Ren.upd_same _ _ _, heap_new _ _, FrOK.zero _, by rw [hsize, hnd]; exact Nat.mul_le_mul_right _ hcap2, by simp, fun _ => ⟨i, hi, hsize⟩, fun j hj => by
              have hol : olds.length = m := by rw [o2, hk]
              have hfront : ∀ v, (olds ++ vs)[j]? = some v → (olds.toArray ++ vs.toArray ++ Builtin.zeroCells z.cells (grownCap w (len + n) cp e' - (len + n)))[j]? = some v := fun v hv => by
                have hlt := (List.getElem?_eq_some_iff.1 hv).1
                rw [Array.getElem?_append, if_pos (by simpa using hlt)]
                simpa using hv
              by_cases c1 : m ≤ j ∧ j < m + l.length
              · rw [Tr.ofListFrom_get _ _ _ _ (by omega), if_pos c1]
                have hjj : j - m < l.length := by omega
                obtain ⟨v', f1, f2⟩ := hl.get (j - m) _ (List.getElem?_eq_getElem hjj)
                exact ⟨_, v', List.getElem?_eq_getElem hjj, hfront v' (by rw [List.getElem?_append, if_neg (by omega), hol]; exact f1), f2.mono hle⟩
              · rw [Tr.ofListFrom_get _ _ _ _ (by omega), if_neg c1]
                obtain ⟨a, v, g1, g2, g3⟩ := q7 j (by omega)
                have hoj := o3 j (olds[j]'(by omega)) (List.getElem?_eq_getElem (by omega))
                have hcell : w.cell? ⟨b, 0 + j, none⟩ = some v := by simp [World.cell?, q2, g2]
                rw [hcell] at hoj
                exact ⟨a, v, g1, hfront v (by rw [List.getElem?_append, if_pos (by omega), List.getElem?_eq_getElem (by omega)]; exact hoj.symm), g3.mono hle⟩⟩
            (by
              intro c1 hc1
              cases hc1
              refine ⟨h.old c _ hmo, fun l1 m1 hl1 => ?_⟩
              rw [show (H.put c (.members (H.next :: g' :: rest) (need * i.size))).objs.get c = if c = c then some (.members (H.next :: g' :: rest) (need * i.size)) else H.objs.get c from Tr.set_get _ _ _ _ hcl] at hl1
              simp at hl1
              obtain ⟨rfl, rfl⟩ := hl1
              exact ⟨by simp [AHeap.put], Nat.le_refl _⟩)
          exact ⟨_, _, _, hrun, ⟨_, _, Ren.upd_same _ _ _, by rw [hnd]; omega, by simp [hnd]⟩, h3, (p2.trans p3).ofDrew⟩
    · cases hg
  · cases hg
end
end Go.Ev
noncomputable section
namespace Go.Ev
open Go
section
variable {P : Program} {B : Bas} {ρ : Ren} {H : AHeap} {w : World}
theorem aAppend_sound (h : HR P B ρ H w) {ts : Array TypeId} {s x r : AV} {H' : AHeap} (ha : aAppend P H ts s x = some (r, H')) (hf : Free ρ H.next H'.next) {ty : TypeId} {sv xv : Value} (hs : VR ρ s sv) (hx : VR ρ x xv) :
    ∃ v w' ρ', (Builtin.append_ ts ty #[sv, xv]).run P w = .ok v w' ∧ VR ρ' r v ∧ HR P B ρ' H' w' ∧ Post ρ H w ρ' H' w' := by
  unfold aAppend at ha
  split at ha
  · rename_i t u h0 h1
    split at ha
    · rename_i e d ht hu
      split at ha
      · rename_i i za hi hz
        obtain ⟨i', z, hi', hz0, hzr⟩ := zeroOf_sound hz ρ
        rw [hi] at hi'
        obtain rfl := Option.some.inj hi'
        split at ha
        · cases ha
        rename_i hb
        obtain ⟨hb, b3⟩ := bAnd hb
        obtain ⟨b1, b2⟩ := bAnd hb
        have hd := notInt_ne b1
        have b2 := Nat.eq_of_beq_eq_true b2
        have b3 := blt_t b3
        have hzs : z.cells.size = i.size := by
          have := hzr.cells.length
          simp only [Array.length_toList] at this
          omega
        split at ha
        · cases ha
        rename_i n l hsrc
        obtain ⟨vs, v1, v2, v3, v4⟩ := aSrc_sound h hsrc hx
        split at ha
        · simp only [VR] at hs
          subst hs
          split at ha
          · rename_i hn
            have hn := Nat.eq_of_beq_eq_true hn
            subst hn
            cases ha
            have := append_fits (ty := ty) (base := none) (sLen := 0) (sCap := 0) h0 h1 ht hu hd hi v3 (v4 w rfl) (Nat.le_refl _)
            exact ⟨_, w, ρ, this, rfl, h, Post.refl _ _ _⟩
          · rename_i hn
            have hn := beq_f hn
            obtain ⟨ρ', q1, q2, q3, q4, q5⟩ := aGrow_sound (lo := []) (us := []) (s1 := 0) (sCap := 0) h ha hf hi hzs VRL.nil v1 (by simp) v2 (by simp)
            have := append_grows (ty := ty) (base := none) (sLen := 0) (sCap := 0) (us := []) h0 h1 ht hu hd hi hz0 v3 (v4 w.drew rfl) (by simp [Builtin.firstCells]) (by omega) (by simpa using q4) (by simpa using q5)
            simp only [Nat.zero_add] at this
            exact ⟨_, _, ρ', this, q1, q2, q3⟩
        · rename_i g off len sh
          have hs' := hs
          simp only [VR] at hs
          obtain ⟨b, cp, hr, hcap, rfl⟩ := hs
          split at ha
          · rename_i hn
            have hn := Nat.eq_of_beq_eq_true hn
            subst hn
            cases ha
            have := append_fits (ty := ty) (base := some ⟨b, off, none⟩) (sLen := len) (sCap := cp - sh) h0 h1 ht hu hd hi v3 (v4 w rfl) (by omega)
            have hvs : vs = [] := List.eq_nil_of_length_eq_zero (by simpa using v2)
            subst hvs
            simp only [storeCells, Sem.run_pure, Result.andThen_ok, Nat.add_zero] at this
            exact ⟨_, w, ρ, this, hs', h, Post.refl _ _ _⟩
          · split at ha
            · rename_i e' k c tr hgo
              split at ha
              · rename_i hfit
                obtain ⟨hfit, f3⟩ := bAnd hfit
                obtain ⟨f1, f2⟩ := bAnd hfit
                have f2 := Nat.le_of_ble_eq_true f2
                have f3 := Nat.eq_of_beq_eq_true f3
                subst f3
                split at ha
                · cases ha
                rename_i H1 hst
                cases ha
                obtain ⟨b', cp', arr, fr, q1, q2, q3, q4, q5, q6, q7⟩ := h.obj g _ hgo
                rw [hr] at q1
                obtain ⟨rfl, rfl⟩ := Prod.mk.inj (Option.some.inj q1)
                have hroom : len + n ≤ cp - sh ∧ sh + (len + n) ≤ cp := by
                  obtain ⟨ti, q61, q62⟩ := q6 (by simp)
                  rw [hi] at q61
                  obtain rfl := Option.some.inj q61
                  have hm : (sh + len + n) * i.size ≤ cp * i.size := by omega
                  have := Nat.le_of_mul_le_mul_right hm b3
                  omega
                obtain ⟨w', e1, e2, e3⟩ := aStoreCells_sound h hst hr v1 (P := P)
                have := append_fits (ty := ty) (base := some ⟨b, off, none⟩) (sLen := len) (sCap := cp - sh) h0 h1 ht hu hd hi v3 (v4 w rfl) hroom.1
                simp only [add_off, e1, Result.andThen_ok] at this
                exact ⟨_, w', ρ, this, ⟨b, cp, hr, hroom.2, rfl⟩, e2, e3⟩
              · split at ha
                · cases ha
                rename_i hz00
                obtain ⟨f1, f2⟩ := bAnd hz00
                have f1 := Nat.eq_of_beq_eq_true f1
                have f2 := Nat.eq_of_beq_eq_true f2
                subst f1 f2
                simp only [Nat.sub_zero]
                exact aAmb_sound h ha hf h0 h1 ht hu hd hi hz0 hzs b3 hr rfl rfl (by omega) v1 v2 v3 v4
            · cases ha
        · rename_i g off len cap
          have hs' := hs
          simp only [VR] at hs
          obtain ⟨b, cp, hr, rfl⟩ := hs
          split at ha
          · rename_i hn
            obtain ⟨hn, hlc⟩ := bAnd hn
            have hn := Nat.eq_of_beq_eq_true hn
            have hlc := Nat.le_of_ble_eq_true hlc
            subst hn
            cases ha
            have := append_fits (ty := ty) (base := some ⟨b, off, none⟩) (sLen := len) (sCap := cap) h0 h1 ht hu hd hi v3 (v4 w rfl) (by omega)
            have hvs : vs = [] := List.eq_nil_of_length_eq_zero (by simpa using v2)
            subst hvs
            simp only [storeCells, Sem.run_pure, Result.andThen_ok, Nat.add_zero] at this
            exact ⟨_, w, ρ, this, hs', h, Post.refl _ _ _⟩
          · split at ha
            · rename_i hfit
              have hfit := Nat.le_of_ble_eq_true hfit
              split at ha
              · cases ha
              rename_i H1 hst
              cases ha
              obtain ⟨w', e1, e2, e3⟩ := aStoreCells_sound h hst hr v1 (P := P)
              have := append_fits (ty := ty) (base := some ⟨b, off, none⟩) (sLen := len) (sCap := cap) h0 h1 ht hu hd hi v3 (v4 w rfl) hfit
              simp only [add_off, e1, Result.andThen_ok] at this
              exact ⟨_, w', ρ, this, ⟨b, cp, hr, rfl⟩, e2, e3⟩
            · rename_i hfit
              have hfit : cap < len + n := by
                rcases Nat.lt_or_ge cap (len + n) with h' | h'
                · exact h'
                · have : Nat.ble (len + n) cap = true := Nat.ble_eq_true_of_le h'
                  rw [this] at hfit; cases hfit
              split at ha
              · cases ha
              rename_i n' olds hso
              obtain ⟨us, o1, o2, o3, o4⟩ := aSrc_sound h hso hs'
              have hn' : n' = len := by
                have := o3 w
                simp [Builtin.lenOf] at this
                exact this.symm
              subst hn'
              obtain ⟨ρ', q1, q2, q3, q4, q5⟩ := aGrow_sound (sCap := cap) h ha hf hi hzs o1 v1 o2 v2 rfl
              have := append_grows (ty := ty) h0 h1 ht hu hd hi hz0 v3 (v4 w.drew rfl) (o4 w.drew rfl) hfit q4 q5
              exact ⟨_, _, ρ', this, q1, q2, q3⟩
        · rename_i g
          have hs' := hs
          simp only [VR] at hs
          obtain ⟨b, cp, hr, off, cap, rfl⟩ := hs
          split at ha
          · rename_i hn
            have hn := Nat.eq_of_beq_eq_true hn
            subst hn
            cases ha
            have := append_fits (ty := ty) (base := some ⟨b, off, none⟩) (sLen := 0) (sCap := cap) h0 h1 ht hu hd hi v3 (v4 w rfl) (by omega)
            have hvs : vs = [] := List.eq_nil_of_length_eq_zero (by simpa using v2)
            subst hvs
            simp only [storeCells, Sem.run_pure, Result.andThen_ok, Nat.add_zero] at this
            exact ⟨_, w, ρ, this, hs', h, Post.refl _ _ _⟩
          · cases ha
        · cases ha
      · cases ha
    · cases ha
  · cases ha
end
end Go.Ev
noncomputable section
namespace Go.Ev
open Go
section
variable {P : Program} {B : Bas} {ρ : Ren} {H : AHeap} {w : World}
/-- []byte(s). -/
def aToBytes (P : Program) (H : AHeap) (s d : TypeId) (l : List Nat) : Option (AV × AHeap) :=
  match P.underlying s, P.underlying d with
  | some .string, some (.slice e) => match P.underlying e, P.info? e with
    | some (.int .u8), some i => match Nat.beq i.size 1 && Nat.ble l.length 1000000000 with
      | false => none
      | true => match H.open_ e (l.map fun b => .int .u8 (Int.ofNat b)) with
        | none => none
        | some (g, H') => some (.slice g 0 l.length 0, H')
    | _, _ => none
  | _, _ => none
theorem aToBytes_sound (h : HR P B ρ H w) {s d : TypeId} {l : List Nat} {r : AV} {H' : AHeap} (ha : aToBytes P H s d l = some (r, H')) (hf : Free ρ H.next H'.next) (hl : ∀ x ∈ l, x < 256) :
    ∃ v w' ρ', (convert s d (.string (bs l))).run P w = .ok v w' ∧ VR ρ' r v ∧ HR P B ρ' H' w' ∧ Post ρ H w ρ' H' w' := by
  unfold aToBytes at ha
  split at ha
  · rename_i e hs hd
    split at ha
    · rename_i i he hi
      split at ha
      · cases ha
      rename_i hb
      obtain ⟨b1, b2⟩ := bAnd hb
      have b1 := Nat.eq_of_beq_eq_true b1
      have b2 := Nat.le_of_ble_eq_true b2
      split at ha
      · cases ha
      rename_i g H1 ho
      cases ha
      have hsz : (bs l).size = l.length := bs_size l
      let cap := grownCap w l.length 0 e
      have hcap : l.length ≤ cap := grownCap_ge w l.length 0 e
      let arr : Array Value := ((bs l).data.map fun b => Value.int .u8 b.toNat) ++ Array.replicate (cap - l.length) (.int .u8 0)
      have harr : arr.size = cap := by
        have : (bs l).data.size = l.length := by simp [bs]
        simp only [arr, Array.size_append, Array.size_map, Array.size_replicate, this]
        omega
      have hrun : (convert s d (.string (bs l))).run P w = .ok (.slice (some ⟨w.heap.size, 0, none⟩) l.length cap) (w.drew.alloc (.cells arr e (arr.size, arr.size + 1))) := by
        have := run_bytes_of_string w s d e (bs l) hs hd he
        rw [hsz] at this
        have e2 : bytesRow (bs l) (grownCap w l.length 0 e) = arr := by simp only [bytesRow, arr, hsz, cap]
        rw [e2] at this
        exact this
      have hrow : ∀ (j : Nat) (a : AV), (l.map fun b => AV.int .u8 (Int.ofNat b))[j]? = some a → ∃ v, arr[j]? = some v ∧ VR ρ a v := by
        intro j a hj
        obtain ⟨v, e1, e2⟩ := (VRL.bytes ρ l hl).get j a hj
        refine ⟨v, ?_, e2⟩
        have hlt : j < l.length := by simpa using (List.getElem?_eq_some_iff.1 hj).1
        have hsd : (bs l).data.size = l.length := by simp [bs]
        simp only [arr]
        rw [Array.getElem?_append, if_pos (by simp [hsd]; exact hlt)]
        rw [← e1]
        simp [bs]
      obtain ⟨ρ', q1, q2, q3⟩ := open_sound h.drew ho hf (cp := cap) (arr := arr) (fr := (arr.size, arr.size + 1)) hi (by rw [harr, b1]; omega) (by simp [harr]; exact hcap) ⟨by intro j hj hh; simp only at hh; omega, by simp⟩ hrow
      exact ⟨_, _, ρ', hrun, ⟨_, _, q3, by omega, by simp⟩, q1, q2.ofDrew⟩
    · cases ha
  · cases ha
/-- string(b). -/
def intBytes : List AV → Option (List Nat)
  | [] => some []
  | .int .u8 (.ofNat n) :: l => match Nat.blt n 256, intBytes l with
    | true, some m => some (n :: m)
    | _, _ => none
  | _ => none
theorem intBytes_sound : ∀ {l : List AV} {m : List Nat} {vs : List Value}, intBytes l = some m → VRL ρ l vs → vs = (m.map fun n => (Int.ofNat n)).map (Value.int .u8) ∧ ∀ x ∈ m, x < 256
  | [], m, vs, h, hv => by
    simp [intBytes] at h; subst h
    simp [VRL] at hv; subst hv
    simp
  | a :: l, m, vs, h, hv => by
    obtain ⟨v, ws, rfl, hv1, hv2⟩ := hv
    unfold intBytes at h
    split at h
    · rename_i heq; cases heq
    · rename_i n l' heq
      cases heq
      split at h
      · rename_i m' hb hm
        cases h
        obtain ⟨e1, e2⟩ := intBytes_sound hm hv2
        simp only [VR] at hv1
        subst hv1 e1
        exact ⟨by simp, fun x hx => by
          rcases List.mem_cons.1 hx with h | h
          · subst h; exact blt_t hb
          · exact e2 x h⟩
      · cases h
    · cases h
theorem foldl_bytes : ∀ (m : List Nat) (s : List Nat), (m.map fun n => (Int.ofNat n)).foldl (fun r n => r.push (UInt8.ofNat n.toNat)) (bs s) = bs (s ++ m)
  | [], s => by simp
  | n :: m, s => by
    simp only [List.map_cons, List.foldl_cons]
    have : (bs s).push (UInt8.ofNat (Int.ofNat n).toNat) = bs (s ++ [n]) := by
      simp [bs, ByteArray.push]
    rw [this, foldl_bytes m (s ++ [n])]
    simp
def aToStr (P : Program) (H : AHeap) (s d : TypeId) (x : AV) : Option AV :=
  match P.underlying s, P.underlying d with
  | some (.slice e), some .string => match P.underlying e with
    | some (.int .u8) => match x with
      | .eslice _ => some (.str [])
      | .slice g off n _ => match aSrc H 1 (.slice g off n 0) with
        | some (_, l) => match intBytes l with
          | some m => some (.str m)
          | none => none
        | none => none
      | .sliceC g off n cap => match aSrc H 1 (.sliceC g off n cap) with
        | some (_, l) => match intBytes l with
          | some m => some (.str m)
          | none => none
        | none => none
      | _ => none
    | _ => none
  | _, _ => none
theorem aToStr_sound (h : HR P B ρ H w) {s d : TypeId} {x r : AV} {v : Value} (ha : aToStr P H s d x = some r) (hx : VR ρ x v) : ∃ z, (convert s d v).run P w = .ok z w ∧ VR ρ r z := by
  have fin : ∀ {a : Addr} {n cap : Nat} {l : List AV} {m : List Nat} {vs : List Value}, VRL ρ l vs → (loadCells a n).run P w = .ok vs.toArray w → intBytes l = some m →
      ∃ z, (Conv.bytesToString (.slice (some a) n cap)).run P w = .ok z w ∧ VR ρ (.str m) z := by
    intro a n cap l m vs hv hr hb
    obtain ⟨e1, e2⟩ := intBytes_sound hb hv
    rw [e1] at hr
    refine ⟨_, run_bytesToString w a n cap _ hr, ?_, e2⟩
    have := foldl_bytes m []
    simp only [List.nil_append] at this
    rw [← this]
    rfl
  unfold aToStr at ha
  split at ha
  · rename_i e hs hd
    split at ha
    · rename_i he
      have hc : ∀ a l c, (convert s d (.slice a l c)).run P w = (Conv.bytesToString (.slice a l c)).run P w := fun a l c => run_convert_bytes_string w s d e a l c hs he hd
      split at ha
      · cases ha
        simp only [VR] at hx
        obtain ⟨b, c, _, off, cap, rfl⟩ := hx
        rw [hc]
        exact fin (l := []) (m := []) VRL.nil (by simp [loadCells, loadCellsFrom]) rfl
      · rename_i g off n sh
        simp only [VR] at hx
        obtain ⟨b, cp, hr, hcap, rfl⟩ := hx
        split at ha
        · rename_i l hsrc
          split at ha
          · rename_i m hm
            cases ha
            rw [hc]
            unfold aSrc at hsrc
            simp only at hsrc
            split at hsrc
            · rename_i e' k c t hg
              split at hsrc
              · rename_i hb
                split at hsrc
                · rename_i l' hl'
                  cases hsrc
                  obtain ⟨vs, v1, v2, v3⟩ := h.cellsL hg hr _ _ _ hl' (Nat.le_of_ble_eq_true hb)
                  have := run_loads (P := P) b off vs v3
                  rw [v2] at this
                  simp only [Nat.mul_one] at this
                  exact fin v1 this hm
                · cases hsrc
              · cases hsrc
            · cases hsrc
          · cases ha
        · cases ha
      · rename_i g off n cap
        simp only [VR] at hx
        obtain ⟨b, cp, hr, rfl⟩ := hx
        split at ha
        · rename_i l hsrc
          split at ha
          · rename_i m hm
            cases ha
            rw [hc]
            unfold aSrc at hsrc
            simp only at hsrc
            split at hsrc
            · rename_i e' k c t hg
              split at hsrc
              · rename_i hb
                split at hsrc
                · rename_i l' hl'
                  cases hsrc
                  obtain ⟨vs, v1, v2, v3⟩ := h.cellsL hg hr _ _ _ hl' (Nat.le_of_ble_eq_true hb)
                  have := run_loads (P := P) b off vs v3
                  rw [v2] at this
                  simp only [Nat.mul_one] at this
                  exact fin v1 this hm
                · cases hsrc
              · cases hsrc
            · cases hsrc
          · cases ha
        · cases ha
      · cases ha
    · cases ha
  · cases ha
/-- copy(d, s), where all of s has room. -/
def aCopy (P : Program) (H : AHeap) (ts : Array TypeId) (d x : AV) : Option (AV × AHeap) :=
  match ts[0]? with
  | none => none
  | some t => match P.underlying t with
    | some (.slice e) => match P.info? e with
      | none => none
      | some i => match aSrc H i.size x with
        | none => none
        | some (n, l) => match d with
          | .nilSlice => match Nat.beq n 0 with
            | true => some (.int .i64 0, H)
            | false => none
          | .eslice _ => match Nat.beq n 0 with
            | true => some (.int .i64 0, H)
            | false => none
          | .slice g off dn _ => match Nat.ble n dn with
            | false => none
            | true => match Nat.beq n 0 with
              | true => some (.int .i64 0, H)
              | false => match aStoreCells H g off l with
                | some H' => some (.int .i64 (Int.ofNat n), H')
                | none => none
          | .sliceC g off dn _ => match Nat.ble n dn with
            | false => none
            | true => match Nat.beq n 0 with
              | true => some (.int .i64 0, H)
              | false => match aStoreCells H g off l with
                | some H' => some (.int .i64 (Int.ofNat n), H')
                | none => none
          | _ => none
    | _ => none
theorem aCopy_sound (h : HR P B ρ H w) {ts : Array TypeId} {d x r : AV} {H' : AHeap} (ha : aCopy P H ts d x = some (r, H')) {ty : TypeId} {dv xv : Value} (hd : VR ρ d dv) (hx : VR ρ x xv) :
    ∃ v w', (Builtin.copy_ ts ty #[dv, xv]).run P w = .ok v w' ∧ VR ρ r v ∧ HR P B ρ H' w' ∧ Post ρ H w ρ H' w' := by
  unfold aCopy at ha
  split at ha
  · cases ha
  rename_i t h0
  split at ha
  · rename_i e ht
    split at ha
    · cases ha
    rename_i i hi
    split at ha
    · cases ha
    rename_i n l hsrc
    obtain ⟨vs, v1, v2, v3, v4⟩ := aSrc_sound h hsrc hx
    have gen : ∀ (base : Option Addr) (dn cap : Nat), n ≤ dn → (Builtin.copy_ ts ty #[.slice base dn cap, xv]).run P w =
        (match base with
          | some a => ((storeCells a vs 0).run P w).andThen fun _ w' => .ok (goInt n) w'
          | none => .ok (goInt n) w) := by
      intro base dn cap hle
      have hm : Nat.min n dn = n := Nat.min_eq_left hle
      simp only [Builtin.copy_, h0, List.getElem?_toArray, List.getElem?_cons_zero, List.getElem?_cons_succ, Sem.run_bind, run_und ht, Result.andThen_ok, v3, run_size hi, hm, v4 w rfl]
      cases base with
      | none => simp
      | some a => simp
    have zero : ∀ {base : Option Addr} {dn cap : Nat}, n = 0 → (Builtin.copy_ ts ty #[.slice base dn cap, xv]).run P w = .ok (goInt 0) w := by
      intro base dn cap hn
      have := gen base dn cap (by omega)
      subst hn
      have hvs : vs = [] := List.eq_nil_of_length_eq_zero (by simpa using v2)
      subst hvs
      rw [this]
      cases base <;> rfl
    have store : ∀ {g off dn cap : Nat} {H1 : AHeap} {b cp : Nat}, n ≤ dn → aStoreCells H g off l = some H1 → ρ g = some (b, cp) →
        ∃ v w', (Builtin.copy_ ts ty #[.slice (some ⟨b, off, none⟩) dn cap, xv]).run P w = .ok v w' ∧ VR ρ (.int .i64 (Int.ofNat n)) v ∧ HR P B ρ H1 w' ∧ Post ρ H w ρ H1 w' := by
      intro g off dn cap H1 b cp hle hst hr
      obtain ⟨w', e1, e2, e3⟩ := aStoreCells_sound h hst hr v1 (P := P)
      exact ⟨goInt n, w', by rw [gen _ _ _ hle]; simp only [e1, Result.andThen_ok], rfl, e2, e3⟩
    split at ha
    · simp only [VR] at hd; subst hd
      split at ha
      · rename_i hn
        cases ha
        exact ⟨_, w, zero (Nat.eq_of_beq_eq_true hn), rfl, h, Post.refl _ _ _⟩
      · cases ha
    · simp only [VR] at hd
      obtain ⟨b, c, _, off, cap, rfl⟩ := hd
      split at ha
      · rename_i hn
        cases ha
        exact ⟨_, w, zero (Nat.eq_of_beq_eq_true hn), rfl, h, Post.refl _ _ _⟩
      · cases ha
    · simp only [VR] at hd
      obtain ⟨b, c, hr, _, rfl⟩ := hd
      split at ha
      · cases ha
      rename_i hle
      split at ha
      · rename_i hn
        cases ha
        exact ⟨_, w, zero (Nat.eq_of_beq_eq_true hn), rfl, h, Post.refl _ _ _⟩
      · split at ha
        · rename_i H1 hst
          cases ha
          exact store (Nat.le_of_ble_eq_true hle) hst hr
        · cases ha
    · simp only [VR] at hd
      obtain ⟨b, c, hr, rfl⟩ := hd
      split at ha
      · cases ha
      rename_i hle
      split at ha
      · rename_i hn
        cases ha
        exact ⟨_, w, zero (Nat.eq_of_beq_eq_true hn), rfl, h, Post.refl _ _ _⟩
      · split at ha
        · rename_i H1 hst
          cases ha
          exact store (Nat.le_of_ble_eq_true hle) hst hr
        · cases ha
    · cases ha
  · cases ha
end
end Go.Ev
noncomputable section
namespace Go.Ev
open Go
def aKeyEq (d : TypeDesc) (a b : AV) : Option Bool :=
  match d, a, b with
  | .int _, .int k x, .int k' y => match eqK k k' with
    | true => some (eqI x y)
    | false => none
  | .string, .str x, .str y => some (eqL x y)
  | .bool, .bool x, .bool y => some (x == y)
  | _, _, _ => none
theorem aKeyEq_sound {ρ : Ren} {d : TypeDesc} {a b : AV} {r : Bool} {u v : Value} (h : aKeyEq d a b = some r) (ha : VR ρ a u) (hb : VR ρ b v) :
    Instr.sameNow d u v = some r ∧ (r = true → Instr.sameBits 10000 v u = true) := by
  unfold aKeyEq at h
  split at h
  · split at h
    · rename_i hk
      have hk := eqK_eq hk
      cases h
      simp only [VR] at ha hb
      subst ha hb hk
      refine ⟨by simp [Instr.sameNow, eqI_eq], fun e => ?_⟩
      rw [eqI_eq] at e
      simp at e
      subst e
      simp [Instr.sameBits]
    · cases h
  · rename_i x y
    cases h
    simp only [VR] at ha hb
    obtain ⟨rfl, hx⟩ := ha
    obtain ⟨rfl, hy⟩ := hb
    have e1 : (bs x == bs y) = eqL x y := by rw [beq_toListBytes]; exact bs_beq hx hy
    refine ⟨by simp only [Instr.sameNow, e1], fun e => ?_⟩
    rw [eqL_iff] at e
    subst e
    simp only [Instr.sameBits]
    rw [beq_toListBytes]
    simp
  · cases h
    simp only [VR] at ha hb
    subst ha hb
    exact ⟨rfl, fun e => by simp [Instr.sameBits] at e ⊢; exact e.symm⟩
  · cases h
def simpleKey : TypeDesc → Bool
  | .int _ | .string | .bool => true
  | _ => false
theorem checkKey_run {P : Program} {t : TypeId} {d : TypeDesc} (hd : P.underlying t = some d) (hs : simpleKey d = true) (e : Bool) (v : Value) (w : World) : (Instr.checkKey e 10000 t v).run P w = .ok () w := by
  have : ∀ n, (Instr.checkKey e (n + 1) t v).run P w = .ok () w := by
    intro n
    unfold Instr.checkKey
    simp only [Sem.run_bind, run_und hd, Result.andThen_ok]
    cases d <;> first | rfl | cases hs
  exact this 9999
def aFind (d : TypeDesc) (k : AV) : List (AV × AV × Nat) → Nat → Option (Option (Nat × AV))
  | [], _ => some none
  | e :: es, i => match aKeyEq d k e.1 with
    | some true => some (some (i, e.2.1))
    | some false => aFind d k es (i + 1)
    | none => none
theorem aFind_sound {ρ : Ren} {d : TypeDesc} {k : AV} {u : Value} (hk : VR ρ k u) : ∀ {es : List (AV × AV × Nat)} {ms : List MapEntry} {i : Nat} {r : Option (Nat × AV)}, aFind d k es i = some r → ERL ρ es ms →
    match r with
    | none => Instr.findNow d u ms i = some none
    | some (j, a) => ∃ m, i ≤ j ∧ ms[j - i]? = some m ∧ Instr.findNow d u ms i = some (some (j, m.val)) ∧ VR ρ a m.val ∧ Instr.sameBits 10000 m.key u = true
  | [], ms, i, r, h, he => by
    simp [aFind] at h; subst h
    simp [ERL] at he; subst he
    rfl
  | e :: es, ms, i, r, h, he => by
    obtain ⟨m, ns, rfl, ⟨h1, h2, h3⟩, he'⟩ := he
    unfold aFind at h
    split at h
    · rename_i hq
      cases h
      obtain ⟨q1, q2⟩ := aKeyEq_sound hq hk h1
      refine ⟨m, Nat.le_refl _, by simp, ?_, h2, q2 rfl⟩
      simp [Instr.findNow, q1]
    · rename_i hq
      obtain ⟨q1, _⟩ := aKeyEq_sound hq hk h1
      have := aFind_sound hk h he'
      cases r with
      | none => simp only at this ⊢; simp [Instr.findNow, q1, this]
      | some x =>
        obtain ⟨j, a⟩ := x
        simp only at this ⊢
        obtain ⟨m', r1, r2, r3, r4, r5⟩ := this
        refine ⟨m', by omega, ?_, ?_, r4, r5⟩
        · rw [show j - i = (j - (i + 1)) + 1 from by omega, List.getElem?_cons_succ]; exact r2
        · simp [Instr.findNow, q1, r3]
    · cases h
theorem findKey_run {P : Program} {t : TypeId} {d : TypeDesc} {u : Value} {ms : List MapEntry} {r : Option (Nat × Value)} (hd : P.underlying t = some d) (hf : Instr.findNow d u ms 0 = some r) (w : World) :
    (Instr.findKey t u ms).run P w = .ok r w := by
  simp only [Instr.findKey, Sem.run_bind, run_und hd, Result.andThen_ok, hf, Sem.run_pure]
section
variable {P : Program} {B : Bas} {ρ : Ren} {H : AHeap} {w : World}
theorem HR.map (h : HR P B ρ H w) {g clock : Nat} {es : List (AV × AV × Nat)} (hg : H.objs.get g = some (.map es clock)) {b cp : Nat} (hr : ρ g = some (b, cp)) :
    ∃ ms, w.heap[b]? = some (.map ms clock) ∧ ERL ρ es ms.toList := by
  obtain ⟨b', cp', ms, h1, h2, h3⟩ := h.obj g _ hg
  rw [hr] at h1
  obtain ⟨rfl, rfl⟩ := Prod.mk.inj (Option.some.inj h1)
  exact ⟨ms, h2, h3⟩
theorem HR.soleOf (h : HR P B ρ H w) {g b cp : Nat} {o : AObj} (hg : H.objs.get g = some o) (hl : o.live = true) (hc : o.cls = none) (hr : ρ g = some (b, cp)) : Sole ρ H g b := by
  intro n q cq e lq rq
  rcases h.inj n g q o b cq cp e hg lq hl rq hr with h1 | ⟨c, _, h2⟩
  · exact h1
  · rw [hc] at h2; cases h2
theorem run_getObj {r : Nat} {o : Obj} (h : w.heap[r]? = some o) (hc : ∀ c e f, o ≠ .cells c e f) : (getObj r).run P w = .ok o w := by
  simp only [getObj, Sem.run, h]
theorem run_setObj {r : Nat} {o q : Obj} (h : w.heap[r]? = some o) (hc : ∀ c e f, o ≠ .cells c e f) : (setObj r q).run P w = .ok () { w with heap := w.heap.setIfInBounds r q } := by
  simp only [setObj, Sem.run, h]
/-- An object that is no row of cells is turned. -/
theorem HR.turn (h : HR P B ρ H w) {g b cp : Nat} {o o' : AObj} {O : Obj} (hg : H.objs.get g = some o) (hl : o.live = true) (hc : o.cls = none) (hc' : o'.cls = none) (hk : o'.known = o.known) (hlv : o'.live = true) (hlo : H.lo ≤ g) (hr : ρ g = some (b, cp)) (hlt : b < w.heap.size)
    (ho : OR P ρ g o' { w with heap := w.heap.setIfInBounds b O }) : HR P B ρ (H.put g o') { w with heap := w.heap.setIfInBounds b O } ∧ Post ρ H w ρ (H.put g o') { w with heap := w.heap.setIfInBounds b O } := by
  refine h.write hg hl hlv hr (h.soleOf hg hl hc hr) (hc'.trans hc.symm) hk hlo rfl rfl rfl (by simp) (fun k hk => ?_) ho
  simp only [Array.getElem?_setIfInBounds]
  rw [if_neg (fun e => hk e.symm)]
theorem heap_set {b : Nat} {O : Obj} (hlt : b < w.heap.size) : ({ w with heap := w.heap.setIfInBounds b O } : World).heap[b]? = some O := by
  simp [Array.getElem?_setIfInBounds, hlt]
def aMakeMap (P : Program) (H : AHeap) (t : TypeId) (r : Option AV) : Option (AV × AHeap) :=
  match H.room with
  | false => none
  | true => match r, P.underlying t with
    | none, _ => some (.map H.next, H.alloc (.map [] 0))
    | some (.int _ _), some (.map _ _) => some (.map H.next, H.alloc (.map [] 0))
    | _, _ => none
theorem HR.newMap (h : HR P B ρ H w) (hroom : H.room = true) {es : List (AV × AV × Nat)} {ms : Array MapEntry} {clock : Nat} (he : ERL ρ es ms.toList) (hf : Free ρ H.next (H.next + 1)) :
    ∃ ρ', VR ρ' (.map H.next) (.map (some w.heap.size)) ∧ HR P B ρ' (H.alloc (.map es clock)) (w.alloc (.map ms clock)) ∧ Post ρ H w ρ' (H.alloc (.map es clock)) (w.alloc (.map ms clock)) := by
  have hfr : ρ H.next = none := hf _ (Nat.le_refl _) (by omega)
  have hle := Ren.le_upd (ρ := ρ) (n := H.next) (w.heap.size, 0) hfr
  obtain ⟨h1, p1⟩ := h.make (o := .map es clock) (O := .map ms clock) (AHeap.room_lt hroom) hfr 0 ⟨w.heap.size, 0, ms, Ren.upd_same _ _ _, heap_new _ _, he.mono hle⟩ (by simp [AObj.cls])
  exact ⟨_, ⟨_, _, Ren.upd_same _ _ _, rfl⟩, h1, p1⟩
theorem aMakeMap_sound (h : HR P B ρ H w) {t : TypeId} {r : Option AV} {a : AV} {H' : AHeap} (hm : aMakeMap P H t r = some (a, H')) (hf : Free ρ H.next H'.next) {rv : Option Value} (hr : VRO ρ r rv) :
    ∃ v w' ρ', (Instr.makeMap t rv).run P w = .ok v w' ∧ VR ρ' a v ∧ HR P B ρ' H' w' ∧ Post ρ H w ρ' H' w' := by
  unfold aMakeMap at hm
  split at hm
  · cases hm
  rename_i hroom
  split at hm
  · cases hm
    cases rv with
    | some _ => exact absurd hr (by simp [VRO])
    | none =>
      obtain ⟨ρ', q1, q2, q3⟩ := h.newMap hroom (es := []) (ms := #[]) (clock := 0) rfl hf
      exact ⟨_, _, ρ', by simp [Instr.makeMap], q1, q2, q3⟩
  · rename_i hd
    cases hm
    cases rv with
    | none => exact absurd hr (by simp [VRO])
    | some v =>
      simp only [VRO, VR] at hr
      subst hr
      obtain ⟨ρ', q1, q2, q3⟩ := h.newMap hroom (es := []) (ms := #[]) (clock := 0) rfl hf
      exact ⟨_, _, ρ', by simp [Instr.makeMap, run_und hd, asInt, asIntOf], q1, q2, q3⟩
  · cases hm
def aLookup (P : Program) (H : AHeap) (t : TypeId) (x k : AV) (ok : Bool) : Option AV :=
  match P.underlying t with
  | some (.map key elem) => match P.underlying key with
    | none => none
    | some d => match simpleKey d with
      | false => none
      | true => match (match x with
          | .nilMap => some []
          | .map g => match H.objs.get g with
            | some (.map es _) => some es
            | _ => none
          | _ => none) with
        | none => none
        | some es => match aFind d k es 0 with
          | none => none
          | some (some (_, v)) => some (match ok with | true => .tuple [v, .bool true] | false => v)
          | some none => match zeroOf P elem with
            | none => none
            | some z => some (match ok with | true => .tuple [z, .bool false] | false => z)
  | _ => none
theorem aLookup_sound (h : HR P B ρ H w) {t : TypeId} {x k r : AV} {ok : Bool} {xv kv : Value} (hl : aLookup P H t x k ok = some r) (hx : VR ρ x xv) (hk : VR ρ k kv) :
    ∃ z, (Instr.lookup t xv kv ok).run P w = .ok z w ∧ VR ρ r z := by
  unfold aLookup at hl
  split at hl
  · rename_i key elem ht
    split at hl
    · cases hl
    rename_i d hd
    split at hl
    · cases hl
    rename_i hs
    split at hl
    · cases hl
    rename_i es hes
    have hm : ∃ ms : Array MapEntry, ERL ρ es ms.toList ∧ ((xv = .map none ∧ ms = #[]) ∨ ∃ b clock, xv = .map (some b) ∧ w.heap[b]? = some (.map ms clock)) := by
      split at hes
      · cases hes
        simp only [VR] at hx; subst hx
        exact ⟨#[], rfl, .inl ⟨rfl, rfl⟩⟩
      · split at hes
        · rename_i g es' clock hg
          cases hes
          simp only [VR] at hx
          obtain ⟨b, c, hr, rfl⟩ := hx
          obtain ⟨ms, q1, q2⟩ := h.map hg hr
          exact ⟨ms, q2, .inr ⟨b, clock, rfl, q1⟩⟩
        · cases hes
      · cases hes
    obtain ⟨ms, q1, q2⟩ := hm
    have hrun : ∀ {fr : Option (Nat × Value)}, Instr.findNow d kv ms.toList 0 = some fr → (Instr.lookup t xv kv ok).run P w =
        ((match fr with
          | some (_, v) => (pure (v, true) : Sem (Value × Bool))
          | none => do pure (← zeroValue elem, false)).run P w).andThen fun p w' => .ok (if ok = true then .tuple #[p.1, .bool p.2] else p.1) w' := by
      intro fr hfr
      rcases q2 with ⟨rfl, rfl⟩ | ⟨b, clock, rfl, q2⟩
      · simp only [Instr.lookup, pure_bind, Sem.run_bind, run_und ht, Result.andThen_ok, checkKey_run hd hs, findKey_run hd hfr]
        cases fr with
        | none => simp only [pure_bind, bind_assoc, Sem.run_bind, Sem.run_pure, Result.andThen_ok]; cases (zeroValue elem).run P w <;> rfl
        | some p => simp only [pure_bind, Sem.run_pure, Result.andThen_ok]
      · simp only [Instr.lookup, bind_assoc, pure_bind, Sem.run_bind, run_und ht, Result.andThen_ok, run_getObj q2 (by simp), checkKey_run hd hs, findKey_run hd hfr]
        cases fr with
        | none => simp only [pure_bind, bind_assoc, Sem.run_bind, Sem.run_pure, Result.andThen_ok]; cases (zeroValue elem).run P w <;> rfl
        | some p => simp only [pure_bind, Sem.run_pure, Result.andThen_ok]
    split at hl
    · cases hl
    · rename_i j v hf
      have := aFind_sound hk hf q1
      simp only at this
      obtain ⟨m, _, _, r3, r4, _⟩ := this
      cases hl
      refine ⟨_, by rw [hrun r3]; simp only [Sem.run_pure, Result.andThen_ok]; rfl, ?_⟩
      cases ok
      · exact r4
      · exact ⟨_, rfl, VRL.cons r4 (VRL.cons rfl VRL.nil)⟩
    · rename_i hf
      have := aFind_sound hk hf q1
      simp only at this
      split at hl
      · cases hl
      rename_i z hz
      cases hl
      obtain ⟨i, zv, z1, z2, z3⟩ := zeroOf_sound hz ρ
      refine ⟨_, by rw [hrun this]; simp only [Sem.run_bind, run_zero z1 z2, Sem.run_pure, Result.andThen_ok]; rfl, ?_⟩
      cases ok
      · exact z3
      · exact ⟨_, rfl, VRL.cons z3 (VRL.cons rfl VRL.nil)⟩
  · cases hl
theorem ERL.get : ∀ {es : List (AV × AV × Nat)} {ms : List MapEntry}, ERL ρ es ms → ms.length = es.length ∧ ∀ (i : Nat) e, es[i]? = some e → ∃ m, ms[i]? = some m ∧ ER ρ e m
  | [], ms, h => by simp [ERL] at h; subst h; exact ⟨rfl, by simp⟩
  | e :: es, ms, h => by
    obtain ⟨m, ns, rfl, h1, h2⟩ := h
    obtain ⟨l1, l2⟩ := ERL.get h2
    refine ⟨by simp [l1], fun i e' hi => ?_⟩
    cases i with
    | zero => simp at hi; subst hi; exact ⟨m, by simp, h1⟩
    | succ i => simp at hi; simpa using l2 i e' hi
theorem ERL.mk : ∀ {es : List (AV × AV × Nat)} {ms : List MapEntry}, ms.length = es.length → (∀ (i : Nat) e, es[i]? = some e → ∃ m, ms[i]? = some m ∧ ER ρ e m) → ERL ρ es ms
  | [], ms, h, _ => by simp at h; subst h; rfl
  | e :: es, ms, h, k => by
    cases ms with
    | nil => simp at h
    | cons m ns =>
      obtain ⟨m', e1, e2⟩ := k 0 e (by simp)
      simp at e1; subst e1
      refine ⟨m, ns, rfl, e2, ERL.mk (by simpa using h) fun i e' hi => ?_⟩
      simpa using k (i + 1) e' (by simpa using hi)
def setAt (l : List (AV × AV × Nat)) (i : Nat) (k v : AV) : List (AV × AV × Nat) :=
  match l, i with
  | [], _ => []
  | e :: l, 0 => (k, v, e.2.2) :: l
  | e :: l, i + 1 => e :: setAt l i k v
theorem setAt_length (k v : AV) : ∀ (l : List (AV × AV × Nat)) (i : Nat), (setAt l i k v).length = l.length
  | [], _ => rfl
  | _ :: _, 0 => rfl
  | _ :: l, i + 1 => by simp [setAt, setAt_length k v l i]
theorem setAt_get (k v : AV) : ∀ (l : List (AV × AV × Nat)) (i j : Nat), (setAt l i k v)[j]? = if j = i then (l[j]?).map fun e => (k, v, e.2.2) else l[j]?
  | [], i, j => by simp [setAt]
  | e :: l, 0, j => by cases j <;> simp [setAt]
  | e :: l, i + 1, j => by cases j <;> simp [setAt, setAt_get k v l i]
def aMapUpdate (P : Program) (H : AHeap) (t : TypeId) (x k v : AV) : Option AHeap :=
  match P.underlying t with
  | some (.map key _) => match P.underlying key with
    | none => none
    | some d => match simpleKey d with
      | false => none
      | true => match x with
        | .map g => match H.objs.get g, Nat.ble H.lo g with
          | some (.map es clock), true => match aFind d k es 0 with
            | none => none
            | some (some (i, _)) => some (H.put g (.map (setAt es i k v) clock))
            | some none => some (H.put g (.map (es ++ [(k, v, clock)]) (clock + 1)))
          | _, _ => none
        | _ => none
  | _ => none
theorem aMapUpdate_sound (h : HR P B ρ H w) {t : TypeId} {x k v : AV} {H' : AHeap} {xv kv vv : Value} (hu : aMapUpdate P H t x k v = some H') (hx : VR ρ x xv) (hk : VR ρ k kv) (hv : VR ρ v vv) :
    ∃ w', (Instr.mapUpdate t xv kv vv).run P w = .ok () w' ∧ HR P B ρ H' w' ∧ Post ρ H w ρ H' w' := by
  unfold aMapUpdate at hu
  split at hu
  · rename_i key elem ht
    split at hu
    · cases hu
    rename_i d hd
    split at hu
    · cases hu
    rename_i hs
    split at hu
    · rename_i g
      split at hu
      · rename_i es clock hg hlo
        have hlo := Nat.le_of_ble_eq_true hlo
        simp only [VR] at hx
        obtain ⟨b, cp, hr, rfl⟩ := hx
        obtain ⟨ms, q1, q2⟩ := h.map hg hr
        have hlt := (Array.getElem?_eq_some_iff.1 q1).1
        obtain ⟨l1, l2⟩ := q2.get
        split at hu
        · cases hu
        · rename_i i a hf
          cases hu
          have := aFind_sound hk hf q2
          simp only [Nat.sub_zero] at this
          obtain ⟨m, _, r2, r3, _, r5⟩ := this
          have hi : ms[i]? = some m := by simpa using r2
          obtain ⟨h1, p1⟩ := h.turn (O := .map (ms.modify i fun e => { e with key := kv, val := vv }) clock) (o' := .map (setAt es i k v) clock) hg rfl rfl rfl rfl rfl hlo hr hlt
            ⟨b, cp, _, hr, heap_set hlt, ERL.mk (by simp [setAt_length]; simpa using l1) fun j e he => by
              rw [setAt_get] at he
              simp only [Array.getElem?_toList, Array.getElem?_modify]
              by_cases c : j = i
              · subst c
                rw [if_pos rfl] at he
                cases hj : es[j]? with
                | none => rw [hj] at he; simp at he
                | some e0 =>
                  rw [hj] at he
                  simp at he
                  subst he
                  obtain ⟨m0, f1, f2⟩ := l2 j e0 hj
                  simp at f1
                  exact ⟨{ m0 with key := kv, val := vv }, by simp [f1], hk, hv, f2.2.2⟩
              · rw [if_neg c] at he
                obtain ⟨m0, f1, f2⟩ := l2 j e he
                simp at f1
                exact ⟨m0, by rw [if_neg (fun e => c e.symm)]; exact f1, f2⟩⟩
          refine ⟨_, ?_, h1, p1⟩
          simp only [Instr.mapUpdate, Sem.run_bind, run_und ht, Result.andThen_ok, run_getObj q1 (by simp), checkKey_run hd hs, findKey_run hd r3, Instr.keyThatStays]
          rw [hi]
          simp only [Option.map_some, Option.getD_some, r5, if_true, Sem.run_pure, Result.andThen_ok, run_setObj q1 (by simp)]
        · rename_i hf
          cases hu
          have := aFind_sound hk hf q2
          simp only at this
          obtain ⟨h1, p1⟩ := h.turn (O := .map (ms.push { key := kv, val := vv, born := clock }) (clock + 1)) (o' := .map (es ++ [(k, v, clock)]) (clock + 1)) hg rfl rfl rfl rfl rfl hlo hr hlt
            ⟨b, cp, _, hr, heap_set hlt, ERL.mk (by simp; simpa using l1) fun j e he => by
              simp only [Array.getElem?_toList]
              rw [Array.getElem?_push]
              rw [List.getElem?_append] at he
              have l1' : ms.size = es.length := by simpa using l1
              by_cases c : j < es.length
              · rw [if_pos c] at he
                obtain ⟨m0, f1, f2⟩ := l2 j e he
                simp at f1
                exact ⟨m0, by rw [if_neg (by omega)]; exact f1, f2⟩
              · rw [if_neg c] at he
                have hj : j = es.length := by
                  have := (List.getElem?_eq_some_iff.1 he).1
                  simp at this
                  omega
                subst hj
                simp at he
                subst he
                exact ⟨{ key := kv, val := vv, born := clock }, by rw [if_pos l1'.symm], hk, hv, rfl⟩⟩
          refine ⟨_, ?_, h1, p1⟩
          simp only [Instr.mapUpdate, Sem.run_bind, run_und ht, Result.andThen_ok, run_getObj q1 (by simp), checkKey_run hd hs, findKey_run hd this, run_setObj q1 (by simp)]
      · cases hu
    · cases hu
  · cases hu
end
end Go.Ev
noncomputable section
namespace Go.Ev
open Go
section
variable {P : Program} {B : Bas} {ρ : Ren} {H : AHeap} {w : World}
def aRange (P : Program) (H : AHeap) (t : TypeId) (x : AV) : Option (AV × AHeap) :=
  match H.room with
  | false => none
  | true => match P.underlying t, x with
    | some .string, .str l => some (.ptr H.next 0, H.alloc (.sit l 0))
    | some (.map _ _), .nilMap => some (.ptr H.next 0, H.alloc (.mit none 0 [] 0))
    | some (.map _ _), .map g => match H.objs.get g with
      | some (.map _ clock) => some (.ptr H.next 0, H.alloc (.mit (some g) clock [] clock))
      | _ => none
    | _, _ => none
theorem aRange_sound (h : HR P B ρ H w) {t : TypeId} {x r : AV} {H' : AHeap} {xv : Value} (ha : aRange P H t x = some (r, H')) (hf : Free ρ H.next H'.next) (hx : VR ρ x xv) :
    ∃ v w' ρ', (Instr.range t xv).run P w = .ok v w' ∧ VR ρ' r v ∧ HR P B ρ' H' w' ∧ Post ρ H w ρ' H' w' := by
  have fin : ∀ {o : AObj} {O : Obj}, H.room = true → Free ρ H.next (H.next + 1) → o.cls = none → (∀ ρ', ρ' H.next = some (w.heap.size, 0) → ρ.le ρ' → OR P ρ' H.next o (w.alloc O)) →
      ∃ ρ', VR ρ' (.ptr H.next 0) (.pointer (some ⟨w.heap.size, 0, none⟩)) ∧ HR P B ρ' (H.alloc o) (w.alloc O) ∧ Post ρ H w ρ' (H.alloc o) (w.alloc O) := by
    intro o O hroom hf hc ho
    have hfr : ρ H.next = none := hf _ (Nat.le_refl _) (by omega)
    obtain ⟨h1, p1⟩ := h.make (o := o) (O := O) (AHeap.room_lt hroom) hfr 0 (ho _ (Ren.upd_same _ _ _) (Ren.le_upd _ hfr)) (by rw [hc]; simp)
    exact ⟨_, ⟨_, _, Ren.upd_same _ _ _, rfl⟩, h1, p1⟩
  unfold aRange at ha
  split at ha
  · cases ha
  rename_i hroom
  split at ha
  · rename_i l hd
    cases ha
    simp only [VR] at hx
    obtain ⟨rfl, hl⟩ := hx
    obtain ⟨ρ', q1, q2, q3⟩ := fin (o := .sit l 0) (O := .stringIter (bs l) 0) hroom hf rfl (fun ρ' hr _ => ⟨_, _, hr, heap_new _ _, hl⟩)
    exact ⟨_, _, ρ', by simp [Instr.range, run_und hd], q1, q2, q3⟩
  · rename_i k e hd
    cases ha
    simp only [VR] at hx
    subst hx
    obtain ⟨ρ', q1, q2, q3⟩ := fin (o := .mit none 0 [] 0) (O := .mapIter none 0 #[] 0) hroom hf rfl (fun ρ' hr _ => ⟨_, _, hr, heap_new _ _⟩)
    exact ⟨_, _, ρ', by simp [Instr.range, run_und hd], q1, q2, q3⟩
  · rename_i k e g hd
    split at ha
    · rename_i es clock hg
      cases ha
      simp only [VR] at hx
      obtain ⟨b, c, hr, rfl⟩ := hx
      obtain ⟨ms, q1, q2⟩ := h.map hg hr
      obtain ⟨ρ', r1, r2, r3⟩ := fin (o := .mit (some g) clock [] clock) (O := .mapIter (some b) clock #[] clock) hroom hf rfl (fun ρ' hr' hle => ⟨_, _, hr', b, c, hle _ _ hr, heap_new _ _⟩)
      exact ⟨_, _, ρ', by simp [Instr.range, run_und hd, run_getObj q1], r1, r2, r3⟩
    · cases ha
  · cases ha
def over : AV := .tuple [.bool false]
theorem VR.over : VR ρ over (.tuple #[.bool false]) := ⟨[.bool false], rfl, VRL.cons rfl VRL.nil⟩
def natIn (n : Nat) : List Nat → Bool
  | [] => false
  | m :: l => match Nat.beq n m with
    | true => true
    | false => natIn n l
theorem natIn_eq (n : Nat) : ∀ l, natIn n l = l.contains n
  | [] => rfl
  | m :: l => by
    unfold natIn
    split
    · rename_i h; rw [Nat.eq_of_beq_eq_true h]; simp
    · rename_i h
      rw [natIn_eq n l]
      have := beq_f h
      simp [this]
def unseen (seen : List Nat) : List (AV × AV × Nat) → List (AV × AV × Nat)
  | [] => []
  | e :: l => match natIn e.2.2 seen with
    | true => unseen seen l
    | false => e :: unseen seen l
theorem unseen_rel (seen : List Nat) : ∀ {es : List (AV × AV × Nat)} {ms : List MapEntry}, ERL ρ es ms → ERL ρ (unseen seen es) (ms.filter fun e => !seen.toArray.contains e.born)
  | [], ms, h => by simp [ERL] at h; subst h; rfl
  | e :: es, ms, h => by
    obtain ⟨m, ns, rfl, h1, h2⟩ := h
    have ih := unseen_rel seen h2
    have hb := h1.2.2
    unfold unseen
    split
    · rename_i hn
      rw [natIn_eq] at hn
      rw [List.filter_cons_of_neg (by simp [hb]; simpa using hn)]
      exact ih
    · rename_i hn
      rw [natIn_eq] at hn
      rw [List.filter_cons_of_pos (by simp [hb]; simpa using hn)]
      exact ⟨m, _, rfl, h1, ih⟩
def allLate (last : Nat) : List (AV × AV × Nat) → Bool
  | [] => true
  | e :: l => match Nat.ble last e.2.2 with
    | true => allLate last l
    | false => false
theorem allLate_rel (last : Nat) : ∀ {es : List (AV × AV × Nat)} {ms : List MapEntry}, ERL ρ es ms → ms.all (fun e => decide (e.born ≥ last)) = allLate last es
  | [], ms, h => by simp [ERL] at h; subst h; rfl
  | e :: es, ms, h => by
    obtain ⟨m, ns, rfl, h1, h2⟩ := h
    have ih := allLate_rel last h2
    have hb := h1.2.2
    unfold allLate
    simp only [List.all_cons, ih, hb]
    split
    · rename_i hn
      have := Nat.le_of_ble_eq_true hn
      simp [this]
    · rename_i hn
      have : ¬ last ≤ e.2.2 := fun hh => by rw [Nat.ble_eq_true_of_le hh] at hn; cases hn
      simp [this]
def aNext (H : AHeap) (it : AV) (isS : Bool) : Option (AV × AHeap) :=
  match it with
  | .ptr g 0 => match H.objs.get g, isS with
    | some (.sit l pos), true => match l[pos]?, Nat.ble H.lo g with
      | none, _ => some (over, H)
      | some _, false => none
      | some c, true => match Nat.blt c 128 with
        | true => some (.tuple [.bool true, .int .i64 (Int.ofNat pos), .int .i32 (Int.ofNat c)], H.put g (.sit l (pos + 1)))
        | false => some (.tuple [.bool true, .int .i64 (Int.ofNat pos), .int .i32 (Int.ofNat (Utf8.decode (bs l) pos).1)], H.put g (.sit l (pos + (Utf8.decode (bs l) pos).2)))
    | some (.mit none _ _ _), false => some (over, H)
    | some (.mit (some m) since seen last), false => match H.objs.get m with
      | some (.map es clock) => match !seen.isEmpty && !es.isEmpty && allLate last es with
        | true => none
        | false => match unseen seen es with
          | [] => some (over, H)
          | [e] => match Nat.blt e.2.2 since && Nat.ble H.lo g with
            | true => some (.tuple [.bool true, e.1, e.2.1], H.put g (.mit (some m) since (seen ++ [e.2.2]) clock))
            | false => none
          | _ => none
      | _ => none
    | _, _ => none
  | _ => none
theorem aNext_sound (h : HR P B ρ H w) {it r : AV} {isS : Bool} {H' : AHeap} {v : Value} (ha : aNext H it isS = some (r, H')) (hx : VR ρ it v) (ty : TypeId) :
    ∃ z w', (Instr.next v isS ty).run P w = .ok z w' ∧ VR ρ r z ∧ HR P B ρ H' w' ∧ Post ρ H w ρ H' w' := by
  unfold aNext at ha
  split at ha
  · rename_i g
    simp only [VR] at hx
    obtain ⟨b, cp, hr, rfl⟩ := hx
    split at ha
    · rename_i l pos hg
      obtain ⟨b', cp', q1, q2, q3⟩ := h.obj g _ hg
      rw [hr] at q1
      obtain ⟨rfl, rfl⟩ := Prod.mk.inj (Option.some.inj q1)
      have hlt := (Array.getElem?_eq_some_iff.1 q2).1
      split at ha
      · rename_i hn
        cases ha
        have hp : ¬ pos < (bs l).size := by
          rw [bs_size]; exact Nat.not_lt.2 (List.getElem?_eq_none_iff.1 hn)
        refine ⟨.tuple #[.bool false], w, ?_, VR.over, h, Post.refl _ _ _⟩
        simp only [Instr.next, Sem.run_bind, run_getObj q2 (by simp), Result.andThen_ok]
        rw [if_neg hp]
        rfl
      · cases ha
      · rename_i c hc hlo
        have hlo := Nat.le_of_ble_eq_true hlo
        have hpl : pos < l.length := (List.getElem?_eq_some_iff.1 hc).1
        have hp : pos < (bs l).size := by rw [bs_size]; exact hpl
        have hc256 : c < 256 := q3 c (List.mem_of_getElem? hc)
        have step : ∀ (n : Nat) (c : Nat), Utf8.decode (bs l) pos = (c, n) → ∃ z w', (Instr.next (.pointer (some ⟨b, 0, none⟩)) true ty).run P w = .ok z w' ∧
            VR ρ (.tuple [.bool true, .int .i64 (Int.ofNat pos), .int .i32 (Int.ofNat c)]) z ∧ HR P B ρ (H.put g (.sit l (pos + n))) w' ∧ Post ρ H w ρ (H.put g (.sit l (pos + n))) w' := by
          intro n c hd
          obtain ⟨h1, p1⟩ := h.turn (O := .stringIter (bs l) (pos + n)) (o' := .sit l (pos + n)) hg rfl rfl rfl rfl rfl hlo hr hlt ⟨b, cp, hr, heap_set hlt, q3⟩
          refine ⟨.tuple #[.bool true, goInt pos, .int .i32 c], _, ?_, ⟨_, rfl, VRL.cons rfl (VRL.cons rfl (VRL.cons rfl VRL.nil))⟩, h1, p1⟩
          simp only [Instr.next, Sem.run_bind, run_getObj q2 (by simp), Result.andThen_ok]
          rw [if_pos hp]
          simp only [hd, Sem.run_bind, run_setObj q2 (by simp), Result.andThen_ok, Sem.run_pure]
        split at ha
        · rename_i hasc
          cases ha
          refine step 1 c ?_
          have hb : ((bs l)[pos]'hp).toNat = c := by
            have := bs_get l pos
            rw [ByteArray.getElem?_lt' _ _ hp, hc] at this
            have := Option.some.inj this
            rw [this]
            simp [Nat.mod_eq_of_lt hc256]
          rw [decode_ascii (bs l) pos hp (by rw [hb]; exact blt_t hasc), hb]
        · cases ha
          exact step _ _ rfl
    · rename_i since seen last hg
      cases ha
      obtain ⟨b', cp', q1, q2⟩ := h.obj g _ hg
      rw [hr] at q1
      obtain ⟨rfl, rfl⟩ := Prod.mk.inj (Option.some.inj q1)
      refine ⟨.tuple #[.bool false], w, ?_, VR.over, h, Post.refl _ _ _⟩
      simp only at q2
      simp only [Instr.next, Sem.run_bind, run_getObj q2 (by simp), Result.andThen_ok]
      rfl
    · rename_i m since seen last hg
      split at ha
      · rename_i es clock hm
        obtain ⟨b', cp', q1, rb, cb, q2, q3⟩ := h.obj g _ hg
        rw [hr] at q1
        obtain ⟨rfl, rfl⟩ := Prod.mk.inj (Option.some.inj q1)
        obtain ⟨ms, m1, m2⟩ := h.map hm q2
        have hlt := (Array.getElem?_eq_some_iff.1 q3).1
        split at ha
        · cases ha
        rename_i hlate
        have hcond : (!seen.toArray.isEmpty && !ms.isEmpty && ms.all (fun e => decide (e.born ≥ last))) = false := by
          have e1 : ms.isEmpty = es.isEmpty := by
            have := (ERL.get m2).1
            simp only [Array.length_toList] at this
            rw [Bool.eq_iff_iff, Array.isEmpty_iff_size_eq_zero, List.isEmpty_iff_length_eq_zero, this]
          have e2 : ms.all (fun e => decide (e.born ≥ last)) = allLate last es := by
            rw [← allLate_rel last m2]; simp
          rw [e1, e2]
          simpa using hlate
        have hun := unseen_rel seen m2
        have hfl : (ms.filter fun e => !seen.toArray.contains e.born).toList = ms.toList.filter fun e => !seen.toArray.contains e.born := by simp
        rw [← hfl] at hun
        generalize hleft : (ms.filter fun e => !seen.toArray.contains e.born) = left at hun
        have pre : ∀ {cand : Array (Option MapEntry)} {c0 : Option MapEntry}, cand = (if (left.filter fun e => decide (e.born < since)).isEmpty = true then #[none] else #[]) ++ ((left.filter fun e => decide (e.born < since)) ++ (left.filter fun e => decide (e.born ≥ since))).map some → cand = #[c0] →
            (Instr.next (.pointer (some ⟨b, 0, none⟩)) false ty).run P w = (match c0 with
              | some e => (do setObj b (.mapIter (some rb) since (seen.toArray.push e.born) clock); pure (.tuple #[.bool true, e.key, e.val]) : Sem Value)
              | none => pure (.tuple #[.bool false])).run P w := by
          intro cand c0 hcand hc0
          simp only [Instr.next, Sem.run_bind, run_getObj q3 (by simp), run_getObj m1 (by simp), Result.andThen_ok]
          rw [hcond]
          simp only [Bool.false_eq_true, if_false, hleft]
          rw [← hcand, hc0]
          simp only [Sem.run_bind, List.size_toArray, List.length_cons, List.length_nil, run_choose, Question.forced, Nat.zero_add, Nat.le_refl, decide_true, if_true, Result.andThen_ok]
          cases c0 with
          | none => rfl
          | some e => rfl
        split at ha
        · rename_i hnil
          cases ha
          rw [hnil] at hun
          simp only [ERL] at hun
          have hl0 : left = #[] := by apply Array.ext'; simpa using hun
          subst hl0
          refine ⟨.tuple #[.bool false], w, ?_, VR.over, h, Post.refl _ _ _⟩
          rw [pre rfl (c0 := none) (by simp)]
          rfl
        · rename_i e hone
          split at ha
          · rename_i hold
            cases ha
            obtain ⟨hold, hlo⟩ := bAnd hold
            have hold := blt_t hold
            have hlo := Nat.le_of_ble_eq_true hlo
            rw [hone] at hun
            obtain ⟨m0, ns, e1, ⟨f1, f2, f3⟩, e2⟩ := hun
            simp only [ERL] at e2
            subst e2
            have hl0 : left = #[m0] := by apply Array.ext'; simpa using e1
            subst hl0
            have hb1 : m0.born < since := by rw [f3]; exact hold
            obtain ⟨h1, p1⟩ := h.turn (O := .mapIter (some rb) since (seen.toArray.push m0.born) clock) (o' := .mit (some m) since (seen ++ [e.2.2]) clock) hg rfl rfl rfl rfl rfl hlo hr hlt
              ⟨b, cp, hr, rb, cb, q2, by rw [heap_set hlt, f3]; simp⟩
            refine ⟨.tuple #[.bool true, m0.key, m0.val], _, ?_, ⟨_, rfl, VRL.cons rfl (VRL.cons f1 (VRL.cons f2 VRL.nil))⟩, h1, p1⟩
            rw [pre rfl (c0 := some m0) (by
              have a1 : (#[m0].filter fun e => decide (e.born < since)) = #[m0] := by simp [hb1]
              have a2 : (#[m0].filter fun e => decide (e.born ≥ since)) = #[] := by simp; omega
              rw [a1, a2]; simp)]
            simp only [Sem.run_bind, run_setObj q3 (by simp), Result.andThen_ok, Sem.run_pure]
          · cases ha
        · cases ha
      · cases ha
    · cases ha
  · cases ha
/-- The entry of this stamp. -/
def bornIs (b : Nat) : List (AV × AV × Nat) → Option (AV × AV × Nat)
  | [] => none
  | e :: l => match Nat.beq e.2.2 b with
    | true => some e
    | false => bornIs b l
theorem bornIs_rel (b : Nat) : ∀ {es : List (AV × AV × Nat)} {ms : List MapEntry} {e : AV × AV × Nat}, ERL ρ es ms → bornIs b es = some e → ∃ m, ms.find? (fun x => x.born == b) = some m ∧ VR ρ e.1 m.key ∧ VR ρ e.2.1 m.val
  | [], _, _, _, h => by simp [bornIs] at h
  | e0 :: es, ms, e, h, he => by
    obtain ⟨m, ns, rfl, ⟨h1, h2, h3⟩, h4⟩ := h
    unfold bornIs at he
    split at he
    · rename_i hb
      cases he
      have hb := Nat.eq_of_beq_eq_true hb
      exact ⟨m, by rw [List.find?_cons_of_pos (by simp [h3, hb])], h1, h2⟩
    · rename_i hb
      have hb := beq_f hb
      obtain ⟨m', q1, q2⟩ := bornIs_rel b h4 he
      exact ⟨m', by rw [List.find?_cons_of_neg (by simp [h3, hb])]; exact q1, q2⟩
def aEntry (H : AHeap) (it : AV) : Option AV :=
  match it with
  | .ptr g 0 => match H.objs.get g with
    | some (.mit (some m) _ seen stepped) => match H.objs.get m, seen.getLast? with
      | some (.map es clock), some b => match Nat.beq clock stepped with
        | true => match bornIs b es with
          | some e => some (.tuple [e.1, e.2.1])
          | none => none
        | false => none
      | _, _ => none
    | _ => none
  | _ => none
theorem aEntry_sound (h : HR P B ρ H w) {it r : AV} {v : Value} (ha : aEntry H it = some r) (hx : VR ρ it v) : ∃ z, (Instr.entry v).run P w = .ok z w ∧ VR ρ r z := by
  unfold aEntry at ha
  split at ha
  · rename_i g
    simp only [VR] at hx
    obtain ⟨b, cp, hr, rfl⟩ := hx
    split at ha
    · rename_i m since seen stepped hg
      split at ha
      · rename_i es clock bo hm hlast
        split at ha
        · rename_i hck
          have hck := Nat.eq_of_beq_eq_true hck
          split at ha
          · rename_i e he
            cases ha
            obtain ⟨b', cp', q1, rb, cb, q2, q3⟩ := h.obj g _ hg
            rw [hr] at q1
            obtain ⟨rfl, rfl⟩ := Prod.mk.inj (Option.some.inj q1)
            obtain ⟨ms, m1, m2⟩ := h.map hm q2
            obtain ⟨mm, f1, f2, f3⟩ := bornIs_rel bo m2 he
            have hl : seen.toArray.back? = some bo := by rw [List.back?_toArray]; exact hlast
            refine ⟨.tuple #[mm.key, mm.val], ?_, ⟨_, rfl, VRL.cons f2 (VRL.cons f3 VRL.nil)⟩⟩
            have f1' : ms.find? (fun x => x.born == bo) = some mm := by rw [← Array.find?_toList]; exact f1
            simp only [Instr.entry, Sem.run_bind, run_getObj q3 (by simp), Result.andThen_ok, hl, run_getObj m1 (by simp), f1']
            rw [if_neg (by simp [hck])]
            rfl
          · cases ha
        · cases ha
      · cases ha
    · cases ha
  · cases ha
end
end Go.Ev
noncomputable section
namespace Go.Ev
open Go
def aDelete (P : Program) (H : AHeap) (t : TypeId) (x k : AV) : Option AHeap :=
  match P.underlying t with
  | some (.map key _) => match P.underlying key with
    | none => none
    | some d => match simpleKey d with
      | false => none
      | true => match x with
        | .nilMap => some H
        | .map g => match H.objs.get g, Nat.ble H.lo g with
          | some (.map es clock), true => match aFind d k es 0 with
            | none => none
            | some (some (i, _)) => some (H.put g (.map (es.eraseIdx i) clock))
            | some none => some (H.put g (.map es clock))
          | _, _ => none
        | _ => none
  | _ => none
def aBuildSlice (P : Program) (H : AHeap) (t : TypeId) (len : Nat) (parts : List (Nat × AV)) : Option (AV × AHeap) :=
  match P.underlying t with
  | some (.slice e) => match P.info? e, zeroOf P e with
    | some i, some z => match Nat.ble (len * i.size) 16777216 && Nat.beq z.cells.length i.size with
      | false => none
      | true => match aFill (fun k => some (k * i.size, i.size)) (zerosOf z.cells len) parts with
        | none => none
        | some l => match H.row e l with
          | none => none
          | some (g, H') => some (.sliceC g 0 len len, H')
    | _, _ => none
  | _ => none
/-- A row of bytes is marked: the mark lies behind its last cell. -/
def aMark (P : Program) (H : AHeap) (s d : TypeId) (x : AV) : Option AHeap :=
  match (match x with | .slice g _ _ _ => some g | .sliceC g _ _ _ => some g | _ => none) with
  | none => none
  | some g => match Nat.beq s d, P.underlying s with
    | true, some (.slice e) => match P.underlying e, H.objs.get g with
      | some (.int .u8), some (.cells a k none t) => match Nat.ble H.lo g with
        | true => some (H.put g (.cells a k none t))
        | false => none
      | _, _ => none
    | _, _ => none
def heapOp (P : Program) (op : Op) (ev : Operand → AV) (H : AHeap) : Option (AV × AHeap) :=
  match op with
  | .alloc e => aAlloc P H e
  | .box e x => aBox H e (ev x)
  | .load t x => match aLoad P H t (ev x) with
    | some r => some (r, H)
    | none => none
  | .store t x y => match ev x with
    | .ptr g off => match P.info? t with
      | some i => match Nat.beq (ev y).cells.length i.size with
        | true => match aStoreCells H g off (ev y).cells with
          | some H' => some (undefA, H')
          | none => none
        | false => none
      | none => none
    | _ => none
  | .buildSlice t len parts => aBuildSlice P H t len (parts.toList.map fun p => (p.1, ev p.2))
  | .convert s d x => match ev x with
    | .str l => aToBytes P H s d l
    | y => match aToStr P H s d y with
      | some r => some (r, H)
      | none => match aMark P H s d y with
        | some H' => some (y, H')
        | none => none
  | .makeMap t r => aMakeMap P H t (r.map ev)
  | .makeSlice t l c => aMakeSlice P H t (ev l) (ev c)
  | .lookup t x k ok => match aLookup P H t (ev x) (ev k) ok with
    | some r => some (r, H)
    | none => none
  | .mapUpdate t m k x => match aMapUpdate P H t (ev m) (ev k) (ev x) with
    | some H' => some (undefA, H')
    | none => none
  | .insert t m k x => match aMapUpdate P H t (ev m) (ev k) (ev x) with
    | some H' => some (undefA, H')
    | none => none
  | .range t x => aRange P H t (ev x)
  | .next it isS => aNext H (ev it) isS
  | .entry it => match aEntry H (ev it) with
    | some r => some (r, H)
    | none => none
  | .call c => match c.callee, c.args.toList with
    | .builtin .append, [s, x] => aAppend P H c.argTypes (ev s) (ev x)
    | .builtin .copy, [s, x] => aCopy P H c.argTypes (ev s) (ev x)
    | .builtin .delete, [m, k] => match c.argTypes[0]? with
      | some t => match aDelete P H t (ev m) (ev k) with
        | some H' => some (undefA, H')
        | none => none
      | none => none
    | .builtin .len, [x] => match c.argTypes[0]? with
      | some t => match P.underlying t, ev x with
        | some (.map _ _), .map g => match H.objs.get g with
          | some (.map es _) => some (.int .i64 (Int.ofNat es.length), H)
          | _ => none
        | _, _ => none
      | none => none
    | _, _ => none
  | _ => none
section
variable {P : Program} {B : Bas} {ρ : Ren} {H : AHeap} {w : World}
theorem aDelete_sound (h : HR P B ρ H w) {t : TypeId} {x k : AV} {H' : AHeap} {xv kv : Value} (hu : aDelete P H t x k = some H') (hx : VR ρ x xv) (hk : VR ρ k kv) {ts : Array TypeId} (h0 : ts[0]? = some t) (ty : TypeId) :
    ∃ w', (Builtin.delete_ ts ty #[xv, kv]).run P w = .ok (.tuple #[]) w' ∧ HR P B ρ H' w' ∧ Post ρ H w ρ H' w' := by
  unfold aDelete at hu
  split at hu
  · rename_i key elem ht
    split at hu
    · cases hu
    rename_i d hd
    split at hu
    · cases hu
    rename_i hs
    split at hu
    · cases hu
      simp only [VR] at hx; subst hx
      refine ⟨w, ?_, h, Post.refl _ _ _⟩
      simp [Builtin.delete_, h0, run_und ht, checkKey_run hd hs]
    · rename_i g
      split at hu
      · rename_i es clock hg hlo
        have hlo := Nat.le_of_ble_eq_true hlo
        simp only [VR] at hx
        obtain ⟨b, cp, hr, rfl⟩ := hx
        obtain ⟨ms, q1, q2⟩ := h.map hg hr
        have hlt := (Array.getElem?_eq_some_iff.1 q1).1
        obtain ⟨l1, l2⟩ := q2.get
        split at hu
        · cases hu
        · rename_i i a hf
          cases hu
          have := aFind_sound hk hf q2
          simp only [Nat.sub_zero] at this
          obtain ⟨m, _, r2, r3, _, _⟩ := this
          obtain ⟨h1, p1⟩ := h.turn (O := .map (ms.eraseIdxIfInBounds i) clock) (o' := .map (es.eraseIdx i) clock) hg rfl rfl rfl rfl rfl hlo hr hlt
            ⟨b, cp, _, hr, heap_set hlt, by
              rw [Array.toList_eraseIdxIfInBounds]
              refine ERL.mk (by simp [List.length_eraseIdx]; simp at l1; rw [l1]) fun j e he => ?_
              rw [List.getElem?_eraseIdx] at he ⊢
              split at he
              · rename_i c; rw [if_pos c]; exact l2 j e he
              · rename_i c; rw [if_neg c]; exact l2 (j + 1) e he⟩
          refine ⟨_, ?_, h1, p1⟩
          simp only [Builtin.delete_, h0, List.getElem?_toArray, List.getElem?_cons_zero, List.getElem?_cons_succ, Sem.run_bind, run_und ht, Result.andThen_ok, run_getObj q1 (by simp), checkKey_run hd hs, findKey_run hd r3, run_setObj q1 (by simp), Sem.run_pure]
        · rename_i hf
          cases hu
          have := aFind_sound hk hf q2
          simp only at this
          obtain ⟨h1, p1⟩ := h.turn (O := .map ms clock) (o' := .map es clock) hg rfl rfl rfl rfl rfl hlo hr hlt ⟨b, cp, _, hr, heap_set hlt, q2⟩
          refine ⟨_, ?_, h1, p1⟩
          simp only [Builtin.delete_, h0, List.getElem?_toArray, List.getElem?_cons_zero, List.getElem?_cons_succ, Sem.run_bind, run_und ht, Result.andThen_ok, run_getObj q1 (by simp), checkKey_run hd hs, findKey_run hd this, run_setObj q1 (by simp), Sem.run_pure]
      · cases hu
    · cases hu
  · cases hu
theorem aBuildSlice_sound (h : HR P B ρ H w) {t : TypeId} {len : Nat} {parts : List (Nat × AV)} {r : AV} {H' : AHeap} {ps : Array (Nat × Value)} (hb : aBuildSlice P H t len parts = some (r, H')) (hf : Free ρ H.next H'.next) (hp : PartsR ρ parts ps.toList) :
    ∃ v w' ρ', (Instr.buildSlice t len ps).run P w = .ok v w' ∧ VR ρ' r v ∧ HR P B ρ' H' w' ∧ Post ρ H w ρ' H' w' := by
  unfold aBuildSlice at hb
  split at hb
  · rename_i e hd
    split at hb
    · rename_i i z hi hz
      obtain ⟨i', zv, hi', hzv, hzr⟩ := zeroOf_sound hz ρ
      rw [hi] at hi'
      obtain rfl := Option.some.inj hi'
      split at hb
      · cases hb
      rename_i hc
      obtain ⟨b1, b2⟩ := bAnd hc
      have b1 := Nat.le_of_ble_eq_true b1
      have b2 := Nat.eq_of_beq_eq_true b2
      split at hb
      · cases hb
      rename_i l hl
      split at hb
      · cases hb
      rename_i g H1 hr
      cases hb
      have hzl := hzr.cells.length
      simp only [Array.length_toList] at hzl
      obtain ⟨out, o1, o2⟩ := aFill_sound _ _ _ _ _ hl hp (zeros_rel hzr len)
      obtain ⟨ρ', cp, h1, p1, hg⟩ := row_sound h hr hf o2
      refine ⟨_, _, ρ', ?_, ⟨_, _, hg, rfl⟩, h1, p1⟩
      have hsz : zv.cells.size = i.size := by omega
      rw [hsz] at o1
      simp only [Instr.buildSlice, Sem.run_bind, run_und hd, run_size hi, Result.andThen_ok]
      rw [if_neg (by omega)]
      by_cases h0 : len * i.size = 0
      · rw [if_pos h0]
        have e1 : (Array.range (len * i.size)).map (fun x => (#[] : Array Value)[x % (#[] : Array Value).size]!) = (Array.range (len * i.size)).map (fun i_1 => zv.cells[i_1 % i.size]!) := by rw [h0]; simp
        simp only [pure_bind]
        rw [e1, o1]
        simp only [Sem.run_bind, run_newRow, Result.andThen_ok, Sem.run_pure]
      · rw [if_neg h0]
        simp only [bind_assoc, pure_bind, Sem.run_bind, run_zero hi hzv, Result.andThen_ok, hsz]
        rw [o1]
        simp only [Sem.run_bind, run_newRow, Result.andThen_ok, Sem.run_pure]
    · cases hb
  · cases hb
theorem freeze_at {b : Nat} {arr : Array Value} {el : TypeId} {fr : Nat × Nat} (h : w.heap[b]? = some (.cells arr el fr)) (hf : FrOK arr.size fr) :
    ∃ w' fr', w.freeze ⟨b, arr.size, none⟩ 1 = w' ∧ FrOK arr.size fr' ∧ w'.heap[b]? = some (.cells arr el fr') ∧ (∀ k, k ≠ b → w'.heap[k]? = w.heap[k]?) ∧ w'.heap.size = w.heap.size ∧ w'.os = w.os ∧ w'.tape = w.tape ∧ w'.output = w.output := by
  obtain ⟨lo, hi⟩ := fr
  obtain ⟨h1, h2⟩ := hf
  simp only at h1 h2
  refine ⟨_, (if lo == hi then (arr.size, arr.size + 1) else (min lo arr.size, max hi (arr.size + 1))), rfl, ?_, ?_, fun k hk => ?_, ?_, ?_, ?_, ?_⟩
  · split
    · exact ⟨fun i hi h => by simp only at h; omega, by simp⟩
    · rename_i hne
      have hne : lo ≠ hi := by simpa using hne
      have hlo : arr.size ≤ lo := Nat.le_of_not_lt fun c => h1 lo c ⟨Nat.le_refl _, by omega⟩
      exact ⟨fun i hi h => by simp only at h; omega, by simp only; omega⟩
  · unfold World.freeze
    rw [if_neg (by decide)]
    simp only [Array.getElem?_modify, h]
    simp
  · unfold World.freeze
    rw [if_neg (by decide)]
    simp only [Array.getElem?_modify]
    rw [if_neg (fun e => hk e.symm)]
  · unfold World.freeze
    rw [if_neg (by decide)]
    simp
  · unfold World.freeze; rw [if_neg (by decide)]
  · unfold World.freeze; rw [if_neg (by decide)]
  · unfold World.freeze; rw [if_neg (by decide)]
theorem aMark_sound (h : HR P B ρ H w) {s d : TypeId} {x : AV} {H' : AHeap} {v : Value} (ha : aMark P H s d x = some H') (hx : VR ρ x v) :
    ∃ w', (convert s d v).run P w = .ok v w' ∧ HR P B ρ H' w' ∧ Post ρ H w ρ H' w' := by
  unfold aMark at ha
  split at ha
  · cases ha
  rename_i g hg
  have hsl : ∃ b cp off len cap, ρ g = some (b, cp) ∧ v = .slice (some ⟨b, off, none⟩) len cap := by
    cases x <;> simp only at hg <;> try cases hg
    · obtain ⟨b, c, q1, q2, q3⟩ := hx
      exact ⟨b, c, _, _, _, q1, q3⟩
    · obtain ⟨b, c, q1, q3⟩ := hx
      exact ⟨b, c, _, _, _, q1, q3⟩
  obtain ⟨b, cp, off, len, cap, hr, rfl⟩ := hsl
  split at ha
  · rename_i e hsd hs
    have hsd := Nat.eq_of_beq_eq_true hsd
    subst hsd
    split at ha
    · rename_i a k t he hgo
      split at ha
      · rename_i hlo
        have hlo := Nat.le_of_ble_eq_true hlo
        cases ha
        obtain ⟨b', cp', arr, fr, q1, q2, q3, q4, q5, q6, q7⟩ := h.obj g _ hgo
        rw [hr] at q1
        obtain ⟨rfl, rfl⟩ := Prod.mk.inj (Option.some.inj q1)
        obtain ⟨w', fr', e1, e2, e3, e4, e5, e6, e7, e8⟩ := freeze_at q2 q3
        have hsh : w.shape? b = some (a, arr.size) := by unfold World.shape?; rw [q2]
        refine ⟨w', ?_, h.write hgo rfl rfl hr (h.soleOf hgo rfl rfl hr) rfl rfl hlo e6 e7 e8 e5 e4 ⟨b, cp, arr, fr', hr, e3, e2, q4, q5, q6, q7⟩⟩
        simp [convert, run_und hs, run_und he, markStringish, hsh, e1]
      · cases ha
    · cases ha
  · cases ha
theorem heapOp_sound (h : HR P B ρ H w) {o : Oper} {ev : Operand → AV} {e : Operand → Value} {r : AV} {H' : AHeap} (ho : heapOp P o.op ev H = some (r, H')) (hf : Free ρ H.next H'.next) (hr : ∀ x ∈ o.op.operands, VR ρ (ev x) (e x)) :
    ∃ nx v w' ρ', (execOp e o).run P w = .ok nx w' ∧ (nx = .value v ∨ (nx = .skip ∧ v = undef)) ∧ VR ρ' r v ∧ HR P B ρ' H' w' ∧ Post ρ H w ρ' H' w' := by
  have liftV : ∀ {s : Sem Value} {r : AV} {H' : AHeap}, (∃ v w' ρ', s.run P w = .ok v w' ∧ VR ρ' r v ∧ HR P B ρ' H' w' ∧ Post ρ H w ρ' H' w') →
      ∃ nx v w' ρ', (do pure (.value (← s)) : Sem Next).run P w = .ok nx w' ∧ (nx = .value v ∨ (nx = .skip ∧ v = undef)) ∧ VR ρ' r v ∧ HR P B ρ' H' w' ∧ Post ρ H w ρ' H' w' := by
    rintro s r H' ⟨v, w', ρ', h1, h2⟩
    exact ⟨_, v, w', ρ', by simp only [Sem.run_bind, h1, Result.andThen_ok, Sem.run_pure], .inl rfl, h2⟩
  have liftU : ∀ {s : Sem Unit} {H' : AHeap}, (∃ w', s.run P w = .ok () w' ∧ HR P B ρ H' w' ∧ Post ρ H w ρ H' w') →
      ∃ nx v w' ρ', (do s; pure .skip : Sem Next).run P w = .ok nx w' ∧ (nx = .value v ∨ (nx = .skip ∧ v = undef)) ∧ VR ρ' undefA v ∧ HR P B ρ' H' w' ∧ Post ρ H w ρ' H' w' := by
    rintro s H' ⟨w', h1, h2⟩
    exact ⟨_, undef, w', ρ, by simp only [Sem.run_bind, h1, Result.andThen_ok, Sem.run_pure], .inr ⟨rfl, rfl⟩, VR.undefA, h2⟩
  have liftQ : ∀ {s : Sem Value} {r : AV}, (∃ z, s.run P w = .ok z w ∧ VR ρ r z) →
      ∃ nx v w' ρ', (do pure (.value (← s)) : Sem Next).run P w = .ok nx w' ∧ (nx = .value v ∨ (nx = .skip ∧ v = undef)) ∧ VR ρ' r v ∧ HR P B ρ' H w' ∧ Post ρ H w ρ' H w' := by
    rintro s r ⟨v, h1, h2⟩
    exact ⟨_, v, w, ρ, by simp only [Sem.run_bind, h1, Result.andThen_ok, Sem.run_pure], .inl rfl, h2, h, Post.refl _ _ _⟩
  unfold execOp
  unfold heapOp at ho
  split at ho
  · rename_i elem hop
    simp only [hop] at hr ⊢
    exact liftV (aAlloc_sound h ho hf)
  · rename_i elem x hop
    simp only [hop] at hr ⊢
    obtain ⟨z, ρ', h1, h2, h3, h4⟩ := aBox_sound (P := P) h ho hf (hr x (by simp [Op.operands]))
    exact liftV ⟨z, _, ρ', h1, h2, h3, h4⟩
  · rename_i t x hop
    simp only [hop] at hr ⊢
    split at ho
    · rename_i r' hl
      cases ho
      obtain ⟨a, z, h1, h2, h3⟩ := aLoad_sound h hl (hr x (by simp [Op.operands]))
      refine liftQ ⟨z, ?_, h3⟩
      simp only [Instr.loadAt, h1, Instr.sureAddr, pure_bind]
      exact h2
    · cases ho
  · rename_i t x y hop
    simp only [hop] at hr ⊢
    have hx := hr x (by simp [Op.operands])
    have hy := hr y (by simp [Op.operands])
    split at ho
    · rename_i g off hev
      split at ho
      · rename_i i hi
        split at ho
        · rename_i hb
          have hb := Nat.eq_of_beq_eq_true hb
          split at ho
          · rename_i H1 hst
            cases ho
            rw [hev] at hx
            simp only [VR] at hx
            obtain ⟨b, cp, hρ, hxe⟩ := hx
            obtain ⟨w', e1, e2, e3⟩ := aStoreCells_sound h hst hρ hy.cells (P := P)
            refine liftU ⟨w', ?_, e2, e3⟩
            have hl := hy.cells.length
            simp only [Array.length_toList] at hl
            simp only [Instr.storeAt, hxe, Instr.sureAddr, pure_bind, storeVar, Sem.run_bind, run_size hi, Result.andThen_ok]
            rw [if_neg (by simp; omega)]
            exact e1
          · cases ho
        · cases ho
      · cases ho
    · cases ho
  · rename_i t len parts hop
    simp only [hop] at hr ⊢
    refine liftV (aBuildSlice_sound h ho hf ?_)
    have := PartsR.ofMap (ρ := ρ) (ev := ev) (e := e) parts.toList fun x hx => hr x.2 (by simp [Op.operands]; exact ⟨x.1, by simpa using hx⟩)
    simpa using this
  · rename_i s d x hop
    simp only [hop] at hr ⊢
    have hx := hr x (by simp [Op.operands])
    split at ho
    · rename_i l hev
      rw [hev] at hx
      simp only [VR] at hx
      obtain ⟨hxe, hl⟩ := hx
      rw [hxe]
      exact liftV (aToBytes_sound h ho hf hl)
    · split at ho
      · rename_i r' hs
        cases ho
        exact liftQ (aToStr_sound h hs hx)
      · split at ho
        · rename_i H1 hm
          cases ho
          obtain ⟨w', h1, h2, h3⟩ := aMark_sound h hm hx
          exact liftV ⟨_, w', ρ, h1, hx, h2, h3⟩
        · cases ho
  · rename_i t r' hop
    simp only [hop] at hr ⊢
    exact liftV (aMakeMap_sound h ho hf (VRO.ofMap r' fun y hy => hr y (by simp [Op.operands]; simpa using hy)))
  · rename_i t l c hop
    simp only [hop] at hr ⊢
    exact liftV (aMakeSlice_sound h ho hf (hr l (by simp [Op.operands])) (hr c (by simp [Op.operands])))
  · rename_i t x k ok hop
    simp only [hop] at hr ⊢
    split at ho
    · rename_i r' hl
      cases ho
      exact liftQ (aLookup_sound h hl (hr x (by simp [Op.operands])) (hr k (by simp [Op.operands])))
    · cases ho
  · rename_i t m k x hop
    simp only [hop] at hr ⊢
    split at ho
    · rename_i H1 hu
      cases ho
      exact liftU (aMapUpdate_sound h hu (hr m (by simp [Op.operands])) (hr k (by simp [Op.operands])) (hr x (by simp [Op.operands])))
    · cases ho
  · rename_i t m k x hop
    simp only [hop] at hr ⊢
    split at ho
    · rename_i H1 hu
      cases ho
      exact liftU (aMapUpdate_sound h hu (hr m (by simp [Op.operands])) (hr k (by simp [Op.operands])) (hr x (by simp [Op.operands])))
    · cases ho
  · rename_i t x hop
    simp only [hop] at hr ⊢
    exact liftV (aRange_sound h ho hf (hr x (by simp [Op.operands])))
  · rename_i it isS hop
    simp only [hop] at hr ⊢
    obtain ⟨z, w', h1, h2, h3, h4⟩ := aNext_sound h ho (hr it (by simp [Op.operands])) o.type
    exact liftV ⟨z, w', ρ, h1, h2, h3, h4⟩
  · rename_i it hop
    simp only [hop] at hr ⊢
    split at ho
    · rename_i r' hl
      cases ho
      exact liftQ (aEntry_sound h hl (hr it (by simp [Op.operands])))
    · cases ho
  · rename_i c hop
    simp only [hop] at hr ⊢
    have two : ∀ {s x : Operand}, c.args.toList = [s, x] → c.args.map e = #[e s, e x] := fun h => by
      apply Array.ext'; simp [h]
    have bi : ∀ {b : Builtin} {f : Array TypeId → TypeId → Array Value → Sem Value}, c.callee = .builtin b → (∀ at' ty cs vs, builtin b at' ty cs vs = do pure (.value (← f at' ty vs))) →
        (do let d ← resolve e c o.type; invoke d.target d.args : Sem Next) = (do pure (.value (← f c.argTypes o.type (c.args.map e))) : Sem Next) := fun hc hb => by
      simp only [resolve, hc, pure_bind, invoke, hb]
    split at ho
    · rename_i s x hc ha
      rw [bi hc (f := Builtin.append_) (fun _ _ _ _ => rfl), two ha]
      have hs := hr s (by simp [Op.operands, Call.operands, hc, ← Array.mem_toList_iff, ha])
      have hx := hr x (by simp [Op.operands, Call.operands, hc, ← Array.mem_toList_iff, ha])
      exact liftV (aAppend_sound h ho hf hs hx)
    · rename_i s x hc ha
      rw [bi hc (f := Builtin.copy_) (fun _ _ _ _ => rfl), two ha]
      have hs := hr s (by simp [Op.operands, Call.operands, hc, ← Array.mem_toList_iff, ha])
      have hx := hr x (by simp [Op.operands, Call.operands, hc, ← Array.mem_toList_iff, ha])
      obtain ⟨z, w', h1, h2, h3, h4⟩ := aCopy_sound h ho (ty := o.type) hs hx
      exact liftV ⟨z, w', ρ, h1, h2, h3, h4⟩
    · rename_i m k hc ha
      rw [bi hc (f := Builtin.delete_) (fun _ _ _ _ => rfl), two ha]
      have hs := hr m (by simp [Op.operands, Call.operands, hc, ← Array.mem_toList_iff, ha])
      have hx := hr k (by simp [Op.operands, Call.operands, hc, ← Array.mem_toList_iff, ha])
      split at ho
      · rename_i t h0
        split at ho
        · rename_i H1 hd
          cases ho
          obtain ⟨w', h1, h2, h3⟩ := aDelete_sound h hd hs hx h0 o.type
          exact liftV ⟨.tuple #[], w', ρ, h1, VR.undefA, h2, h3⟩
        · cases ho
      · cases ho
    · rename_i x hc ha
      have hx := hr x (by simp [Op.operands, Call.operands, hc, ← Array.mem_toList_iff, ha])
      have one : c.args.map e = #[e x] := by apply Array.ext'; simp [ha]
      rw [bi hc (f := Builtin.len_) (fun _ _ _ _ => rfl), one]
      split at ho
      · rename_i t h0
        split at ho
        · rename_i k el g ht hev
          split at ho
          · rename_i es clock hg
            cases ho
            rw [hev] at hx
            simp only [VR] at hx
            obtain ⟨b, cp, hρ, hxe⟩ := hx
            obtain ⟨ms, q1, q2⟩ := h.map hg hρ
            refine liftQ ⟨goInt ms.size, ?_, ?_⟩
            · simp only [Builtin.len_, h0, List.getElem?_toArray, List.getElem?_cons_zero, Sem.run_bind, run_und ht, Result.andThen_ok, hxe, run_getObj q1 (by simp), Sem.run_pure]
            · have := (ERL.get q2).1
              simp only [Array.length_toList] at this
              rw [this]; rfl
          · cases ho
        · cases ho
      · cases ho
    · cases ho
  · cases ho
end
end Go.Ev
noncomputable section
namespace Go.Ev
open Go
abbrev CallEv := FuncId → List AV → AHeap → Option (AV × AHeap)
/-- What a call of a function answers, by 'call', is what the model's call answers. -/
def FnOK (P : Program) (B : Bas) (f : FuncId) (h : List AV → AHeap → Option (AV × AHeap)) : Prop :=
  ∀ (l : List AV) (H : AHeap) (r : AV) (H' : AHeap), h l H = some (r, H') → ∀ (ρ : Ren) (w : World) (vs : List Value), HR P B ρ H w → Free ρ H.next H'.next → VRL ρ l vs →
    Calls P f vs.toArray w fun e w' => ∃ v ρ', e = .returned v ∧ VR ρ' r v ∧ HR P B ρ' H' w' ∧ Post ρ H w ρ' H' w'
def CallOK (P : Program) (B : Bas) (call : CallEv) : Prop := ∀ f : FuncId, FnOK P B f (call f)
def enters (P : Program) (f : FuncId) : Bool :=
  match P.funcs[f]? with
  | some fn => !(fn.name == "runtime.NumGoroutine") && fn.body.isSome
  | none => false
theorem enters_run {P : Program} {f : FuncId} (h : enters P f = true) (args : Array Value) (w : World) : (callFunc f args).run P w = .ok (.enter f args) w := by
  unfold enters at h
  split at h
  · rename_i fn hf
    obtain ⟨h1, h2⟩ := bAnd h
    simp only [Bool.not_eq_true'] at h1
    have h3 : fn.body.isNone = false := by cases hb : fn.body <;> simp_all
    simp only [callFunc, Sem.run_bind, run_program, Result.andThen_ok, hf, h1, h3, Bool.false_eq_true, if_false, Sem.run_pure]
  · cases h
/-- The method of a value in an interface: its function; the value is the receiver as it stands. -/
def aMethod (P : Program) (t : TypeId) (name : String) : Option FuncId :=
  match P.info? t with
  | none => none
  | some i => match i.methods.find? (·.name == name) with
    | none => none
    | some m => match m.path.toList, m.func, P.underlying t with
      | [], some (f, true), some (.pointer _) => some f
      | [], some (f, false), some d => match d with
        | .pointer _ => none
        | _ => some f
      | _, _, _ => none
theorem aMethod_run {P : Program} {t : TypeId} {name : String} {f : FuncId} (h : aMethod P t name = some f) (v : Value) (w : World) (n : Nat) : (method (n + 1) t v name).run P w = .ok (f, v) w := by
  unfold aMethod at h
  split at h
  · cases h
  rename_i i hi
  split at h
  · cases h
  rename_i m hm
  split at h
  · rename_i f' e hp hf hd
    cases h
    simp only [method, Sem.run_bind, run_info hi, Result.andThen_ok, hm, hp, follow, Sem.run_pure, hf, receiverAt, run_und hd, Place.get]
  · rename_i f' d hp hf hd
    have : ∀ e, d ≠ .pointer e := fun e he => by subst he; simp at h
    have hff : f' = f := by cases d <;> simp_all
    subst hff
    simp only [method, Sem.run_bind, run_info hi, Result.andThen_ok, hm, hp, follow, Sem.run_pure, hf, receiverAt, run_und hd]
    cases d <;> first | exact absurd rfl (this _) | simp [Place.get]
  · cases h
/-- The library's functions that are called and have no Go body; functions that are known by a contract. -/
inductive ExtK where
  | mapsClone
  | indexByte
  | fn (h : List AV → AHeap → Option (AV × AHeap))
def ExtK.plain : ExtK → Bool
  | .fn _ => false
  | _ => true
def ExtK.entry : ExtK → Array Value → Sem Value
  | .mapsClone => Extern.MapsClone.clone
  | .indexByte => Extern.BytealgIndexByte.indexByte
  | .fn _ => fun _ => pure undef
def ExtOK (P : Program) (ext : FuncId → Option ExtK) : Prop :=
  ∀ f k, ext f = some k → k.plain = true → ∀ args w, (callFunc f args).run P w = ((k.entry args).run P w).andThen fun v w' => .ok (.value v) w'
/-- The bytes of a text or of a row. -/
def aBytes (H : AHeap) (x : AV) : Option (List Nat) :=
  match x with
  | .nilSlice => some []
  | .eslice _ => some []
  | .str l => some l
  | .slice g off n sh => match aSrc H 1 (.slice g off n sh) with
    | some (_, l) => intBytes l
    | none => none
  | .sliceC g off n cap => match aSrc H 1 (.sliceC g off n cap) with
    | some (_, l) => intBytes l
    | none => none
  | _ => none
def idxB (c : Nat) : List Nat → Nat → AV
  | [], _ => .int .i64 (-1)
  | x :: l, i => match Nat.beq x c with
    | true => .int .i64 (Int.ofNat i)
    | false => idxB c l (i + 1)
def aExt (H : AHeap) (k : ExtK) (args : List AV) : Option (AV × AHeap) :=
  match k, args with
  | .mapsClone, [.iface t (.map g)] => match H.objs.get g, H.room with
    | some (.map es clock), true => some (.iface t (.map H.next), H.alloc (.map es clock))
    | _, _ => none
  | .indexByte, [x, .int .u8 (.ofNat c)] => match aBytes H x, Nat.blt c 256 with
    | some m, true => some (idxB c m 0, H)
    | _, _ => none
  | _, _ => none
theorem idxB_eq (ρ : Ren) (c : Nat) (hc : c < 256) : ∀ (m : List Nat) (i : Nat), (∀ x ∈ m, x < 256) → ∃ r : Int, idxB c m i = .int .i64 r ∧ (r = if 0 ≤ Lib.indexByte (m.map UInt8.ofNat) (UInt8.ofNat c) then (i : Int) + Lib.indexByte (m.map UInt8.ofNat) (UInt8.ofNat c) else -1)
  | [], i, _ => ⟨-1, rfl, by simp [Lib.indexByte]⟩
  | x :: l, i, h => by
    unfold idxB
    simp only [List.map_cons, Lib.indexByte]
    by_cases hx : x = c
    · subst hx
      have hb : Nat.beq x x = true := by rw [Nat.beq_eq]
      rw [hb]
      exact ⟨_, rfl, by simp⟩
    · have hb : Nat.beq x c = false := by
        cases hh : Nat.beq x c
        · rfl
        · exact absurd (Nat.eq_of_beq_eq_true hh) hx
      rw [hb]
      have hne : (UInt8.ofNat x == UInt8.ofNat c) = false := by
        rw [beq_eq_false_iff_ne]
        intro he
        have h1 := h x (by simp)
        have := congrArg UInt8.toNat he
        simp [Nat.mod_eq_of_lt h1, Nat.mod_eq_of_lt hc] at this
        exact hx this
      rw [hne]
      obtain ⟨r, h1, h2⟩ := idxB_eq ρ c hc l (i + 1) fun y hy => h y (by simp [hy])
      refine ⟨r, h1, ?_⟩
      rw [h2]
      have hge := Lib.indexByte_ge (l.map UInt8.ofNat) (UInt8.ofNat c)
      by_cases hr : 0 ≤ Lib.indexByte (l.map UInt8.ofNat) (UInt8.ofNat c)
      · have : (Lib.indexByte (l.map UInt8.ofNat) (UInt8.ofNat c) == -1) = false := beq_eq_false_iff_ne.2 (by omega)
        simp [this, hr]
        split <;> omega
      · have : Lib.indexByte (l.map UInt8.ofNat) (UInt8.ofNat c) = -1 := by omega
        simp [this]
theorem idxB_lib (c : Nat) (hc : c < 256) (m : List Nat) (hm : ∀ x ∈ m, x < 256) : idxB c m 0 = .int .i64 (Lib.indexByte (m.map UInt8.ofNat) (Int.ofNat c).toNat.toUInt8) := by
  obtain ⟨r, h1, h2⟩ := idxB_eq (fun _ => none) c hc m 0 hm
  rw [h1, h2]
  have e : (Int.ofNat c).toNat.toUInt8 = UInt8.ofNat c := rfl
  rw [e]
  have hge := Lib.indexByte_ge (m.map UInt8.ofNat) (UInt8.ofNat c)
  split
  · simp
  · congr 1; omega
theorem aBytes_idx {P : Program} {B : Bas} {ρ : Ren} {H : AHeap} {w : World} (h : HR P B ρ H w) {x : AV} {v : Value} {m : List Nat} {c : Nat} (hb : aBytes H x = some m) (hx : VR ρ x v) (_ : c < 256) :
    (Extern.BytealgIndexByte.indexByte #[v, .int .u8 (Int.ofNat c)]).run P w = .ok (.int .i64 (Lib.indexByte (m.map UInt8.ofNat) (Int.ofNat c).toNat.toUInt8)) w ∧ ∀ x ∈ m, x < 256 := by
  have fin : ∀ {b off n cap : Nat} {l : List AV} {vs : List Value}, VRL ρ l vs → vs.length = n → (∀ j v, vs[j]? = some v → w.cell? ⟨b, off + j, none⟩ = some v) → intBytes l = some m →
      (Extern.BytealgIndexByte.indexByte #[.slice (some ⟨b, off, none⟩) n cap, .int .u8 (Int.ofNat c)]).run P w = .ok (.int .i64 (Lib.indexByte (m.map UInt8.ofNat) (Int.ofNat c).toNat.toUInt8)) w ∧ ∀ x ∈ m, x < 256 := by
    intro b off n cap l vs hv hn hcell hi
    obtain ⟨e1, e2⟩ := intBytes_sound hi hv
    have hlen : (m.map fun n => (Int.ofNat n)).length = n := by rw [← hn, e1]; simp
    have := Lib.run_indexByteSlice (P := P) w b off n cap (m.map fun n => (Int.ofNat n)) hlen (fun i hi => by
      refine hcell i _ ?_
      rw [e1, List.getElem?_map, List.getD_eq_getElem?_getD]
      have : i < (m.map fun n => (Int.ofNat n)).length := by omega
      rw [List.getElem?_eq_getElem this]
      rfl) (Int.ofNat c)
    have e3 : Lib.bytesOf (m.map fun n => (Int.ofNat n)) = m.map UInt8.ofNat := by
      simp [Lib.bytesOf]
    rw [e3] at this
    exact ⟨this, e2⟩
  unfold aBytes at hb
  split at hb
  · cases hb
    simp only [VR] at hx
    subst hx
    have hs := Lib.run_indexByteString (P := P) ⟨#[]⟩ (Int.ofNat c) w
    refine ⟨?_, by simp⟩
    rw [show (List.map UInt8.ofNat ([] : List Nat)) = (⟨#[]⟩ : ByteArray).data.toList from rfl, ← hs]
    rfl
  · cases hb
    simp only [VR] at hx
    obtain ⟨b, cp, _, off, cap, rfl⟩ := hx
    exact fin (l := []) VRL.nil rfl (by simp) rfl
  · cases hb
    simp only [VR] at hx
    obtain ⟨rfl, hl⟩ := hx
    refine ⟨?_, hl⟩
    have hs := Lib.run_indexByteString (P := P) (bs m) (Int.ofNat c) w
    have : (bs m).data.toList = m.map UInt8.ofNat := by simp [bs]
    rw [this] at hs
    exact hs
  · rename_i g off n sh
    simp only [VR] at hx
    obtain ⟨b, cp, hr, hcap, rfl⟩ := hx
    split at hb
    · rename_i n0 l hsrc
      unfold aSrc at hsrc
      simp only at hsrc
      split at hsrc
      · rename_i e k c0 t hg
        split at hsrc
        · rename_i hble
          split at hsrc
          · rename_i l' hl
            cases hsrc
            obtain ⟨vs, h1, h2, h3⟩ := h.cellsL hg hr _ _ _ hl (Nat.le_of_ble_eq_true hble)
            exact fin h1 (by simpa using h2) h3 hb
          · cases hsrc
        · cases hsrc
      · cases hsrc
    · cases hb
  · rename_i g off n cap
    simp only [VR] at hx
    obtain ⟨b, cp, hr, rfl⟩ := hx
    split at hb
    · rename_i n0 l hsrc
      unfold aSrc at hsrc
      simp only at hsrc
      split at hsrc
      · rename_i e k c0 t hg
        split at hsrc
        · rename_i hble
          split at hsrc
          · rename_i l' hl
            cases hsrc
            obtain ⟨vs, h1, h2, h3⟩ := h.cellsL hg hr _ _ _ hl (Nat.le_of_ble_eq_true hble)
            exact fin h1 (by simpa using h2) h3 hb
          · cases hsrc
        · cases hsrc
      · cases hsrc
    · cases hb
  · cases hb
structure Env where
  P : Program
  ext : FuncId → Option ExtK
  G : Nat → Option (List AV) := fun _ => none
/-- What is known of package variables holds where all began. -/
def GloOK (B : Bas) (G : Nat → Option (List AV)) : Prop :=
  ∀ b l, G b = some l → b < B.size ∧ ∃ arr elem fr, B.held b = some (.cells arr elem fr) ∧ ∃ vs, VRL (fun _ => none) l vs ∧ ∀ (i : Nat) v, vs[i]? = some v → arr[i]? = some v
structure EOK (E : Env) (B : Bas) : Prop where
  ext : ExtOK E.P E.ext
  fn : ∀ f h, E.ext f = some (.fn h) → FnOK E.P B f h
  glo : GloOK B E.G
theorem VRL.ofNone {ρ : Ren} {l : List AV} {vs : List Value} (h : VRL (fun _ => none) l vs) : VRL ρ l vs := VRL.mono (fun _ _ e => by cases e) l vs h
/-- A cell, or several, of a package variable. -/
def gLoad (P : Program) (G : Nat → Option (List AV)) (t : TypeId) (b off : Nat) : Option AV :=
  match G b with
  | none => none
  | some l => match P.underlying t with
    | none => none
    | some d => match aggB d with
      | false => l[off]?
      | true => match P.info? t with
        | none => none
        | some i => match Nat.ble (off + i.size) l.length with
          | false => none
          | true => some (.agg ((l.drop off).take i.size))
theorem gLoad_sound {P : Program} {B : Bas} {G : Nat → Option (List AV)} {ρ : Ren} {H : AHeap} {w : World} (hG : GloOK B G) (h : HR P B ρ H w) {t : TypeId} {b off : Nat} {r : AV} (hl : gLoad P G t b off = some r) :
    ∃ z, (loadVar t ⟨b, off, none⟩).run P w = .ok z w ∧ VR ρ r z := by
  unfold gLoad at hl
  split at hl
  · cases hl
  rename_i l hg
  obtain ⟨hb, arr, elem, fr, h1, vs, h2, h3⟩ := hG b l hg
  have h2 : VRL ρ l vs := h2.ofNone
  have hh : w.heap[b]? = some (.cells arr elem fr) := (h.snap b hb).trans h1
  have hc : ∀ (j : Nat) v, vs[j]? = some v → w.cell? ⟨b, j, none⟩ = some v := fun j v e => by simp [World.cell?, hh, h3 j v e]
  split at hl
  · cases hl
  rename_i d hd
  split at hl
  · rename_i ha
    obtain ⟨v, e1, e2⟩ := h2.get off r hl
    refine ⟨v, ?_, e2⟩
    simp only [loadVar, Sem.run_bind, run_agg hd, ha, Result.andThen_ok, Bool.false_eq_true, if_false, run_load, hc off v e1]
  · rename_i ha
    split at hl
    · cases hl
    rename_i i hi
    split at hl
    · cases hl
    rename_i hle
    cases hl
    have hle := Nat.le_of_ble_eq_true hle
    have hlen := h2.length
    refine ⟨.agg ((vs.drop off).take i.size).toArray, ?_, ?_⟩
    · have hl2 : ((vs.drop off).take i.size).length = i.size := by simp; omega
      have := run_loads (P := P) (w := w) b off ((vs.drop off).take i.size) fun j v e => by
        rw [List.getElem?_take] at e
        split at e
        · rw [List.getElem?_drop] at e; exact hc _ _ e
        · cases e
      rw [hl2] at this
      simp only [loadVar, Sem.run_bind, run_agg hd, ha, Result.andThen_ok, if_true, run_size hi, this, Sem.run_pure]
    · refine ⟨_, rfl, VRL.mk (by simp; omega) fun j a e => ?_⟩
      rw [List.getElem?_take] at e ⊢
      split at e
      · rename_i hj
        rw [if_pos hj, List.getElem?_drop]
        rw [List.getElem?_drop] at e
        exact h2.get _ a e
      · cases e
def calleeOf (ev : Operand → AV) (P : Program) (c : Call) : Option (FuncId × List AV) :=
  match c.callee with
  | .value f => match ev f with
    | .func (.func fid) first captured => some (fid, first ++ c.args.toList.map ev ++ captured)
    | _ => none
  | .invoke recv name => match ev recv with
    | .iface t v => match aMethod P t name with
      | some fid => some (fid, v :: c.args.toList.map ev)
      | none => none
    | _ => none
  | _ => none
def aCall (E : Env) (call : CallEv) (c : Call) (ev : Operand → AV) (H : AHeap) : Option (AV × AHeap) :=
  match calleeOf ev E.P c with
  | none => none
  | some (f, args) => match E.ext f with
    | none => match enters E.P f with
      | true => call f args H
      | false => none
    | some k => match k with
      | .fn h => match enters E.P f with
        | true => h args H
        | false => none
      | k => aExt H k args
def isCall : Op → Bool
  | .call c => match c.callee with
    | .builtin _ => false
    | _ => true
  | _ => false
/-- Names go on. -/
def chk (H : AHeap) (x : Option (AV × AHeap)) : Option (AV × AHeap) :=
  match x with
  | none => none
  | some (r, H') => match Nat.ble H.next H'.next with
    | true => some (r, H')
    | false => none
theorem chk_some {H H' : AHeap} {x : Option (AV × AHeap)} {r : AV} (h : chk H x = some (r, H')) : x = some (r, H') ∧ H.next ≤ H'.next := by
  unfold chk at h
  split at h
  · cases h
  · split at h
    · rename_i hb
      cases h
      exact ⟨rfl, Nat.le_of_ble_eq_true hb⟩
    · cases h
/-- One operation. -/
def opStep (E : Env) (call : CallEv) (op : Op) (ev : Operand → AV) (H : AHeap) : Option (AV × AHeap) :=
  match pureOp E.P op ev with
  | some r => some (r, H)
  | none => match heapOp E.P op ev H with
    | some x => chk H (some x)
    | none => match op with
      | .call c => chk H (aCall E call c ev H)
      | .load t x => match ev x with
        | .glob b off => match gLoad E.P E.G t b off with
          | some r => some (r, H)
          | none => none
        | _ => none
      | _ => none
theorem opStep_next {E : Env} {call : CallEv} {op : Op} {ev : Operand → AV} {H H' : AHeap} {r : AV} (h : opStep E call op ev H = some (r, H')) : H.next ≤ H'.next := by
  unfold opStep at h
  split at h
  · cases h; exact Nat.le_refl _
  · split at h
    · exact (chk_some h).2
    · split at h
      · exact (chk_some h).2
      · split at h
        · split at h
          · cases h; exact Nat.le_refl _
          · cases h
        · cases h
      · cases h
section
variable {E : Env} {call : CallEv} {B : Bas} {ρ : Ren} {H : AHeap} {w : World}
theorem calleeOf_run {ev : Operand → AV} {e : Operand → Value} {c : Call} {t : TypeId} {f : FuncId} {args : List AV} (h : calleeOf ev E.P c = some (f, args)) (hr : ∀ x ∈ c.operands, VR ρ (ev x) (e x)) (w : World) :
    ∃ vs : List Value, VRL ρ args vs ∧ (do let d ← resolve e c t; invoke d.target d.args : Sem Next).run E.P w = (callFunc f vs.toArray).run E.P w := by
  unfold calleeOf at h
  have ha : (∀ x ∈ c.args.toList, VR ρ (ev x) (e x)) → VRL ρ (c.args.toList.map ev) (c.args.toList.map e) := VRL.ofMap _
  split at h
  · rename_i fo hc
    have hf := hr fo (by simp [Call.operands, hc])
    split at h
    · rename_i fid first captured hev
      cases h
      rw [hev] at hf
      simp only [VR] at hf
      obtain ⟨us, xs, he, h1, h2⟩ := hf
      have h3 := ha fun x hx => hr x (by simp [Call.operands, hc, Array.mem_toList_iff.1 hx])
      refine ⟨us ++ c.args.toList.map e ++ xs, (h1.append h3).append h2, ?_⟩
      simp only [resolve, hc, he, Deferred.ofValue, pure_bind, invoke]
      congr 2
      apply Array.ext'
      simp
    · cases h
  · rename_i recv name hc
    have hf := hr recv (by simp [Call.operands, hc])
    split at h
    · rename_i ty v hev
      split at h
      · rename_i fid hm
        cases h
        rw [hev] at hf
        simp only [VR] at hf
        obtain ⟨u, he, h1⟩ := hf
        have h3 := ha fun x hx => hr x (by simp [Call.operands, hc, Array.mem_toList_iff.1 hx])
        refine ⟨u :: c.args.toList.map e, VRL.cons h1 h3, ?_⟩
        have hsz : (#[Value.iface ty u] ++ c.args.map e)[0]? = some (.iface ty u) := by
          rw [Array.getElem?_append, if_pos (by simp)]; rfl
        simp only [resolve, hc, he, pure_bind, invoke, hsz, callMethod, Sem.run_bind, run_program, Result.andThen_ok]
        have hmr : (method (E.P.types.size + Made.depth) ty u name).run E.P w = .ok (f, u) w := aMethod_run hm u w (E.P.types.size + 99)
        rw [hmr]
        simp only [Result.andThen_ok]
        congr 2
        apply Array.ext'
        simp
        rw [List.take_of_length_le (by simp)]
      · cases h
    · cases h
  · cases h
theorem opStep_sound (hE : EOK E B) (hcall : CallOK E.P B call) (h : HR E.P B ρ H w) {o : Oper} {a : Act} {ev : Operand → AV} {r : AV} {H' : AHeap} (hs : opStep E call o.op ev H = some (r, H')) (hf : Free ρ H.next H'.next)
    (hr : ∀ x ∈ o.op.operands, VR ρ (ev x) (a.eval x)) {next : Act → World → Prop} {Q : Exit → Act → World → Prop}
    (hn : ∀ v w' ρ', VR ρ' r v → HR E.P B ρ' H' w' → Post ρ H w ρ' H' w' → next (a.put o.dst v) w') : o.wp E.P a w next Q := by
  unfold opStep at hs
  split at hs
  · rename_i r' hp
    cases hs
    obtain ⟨v, h1, h2⟩ := pureOp_sound (e := a.eval) hp hr w
    simp only [Oper.wp, h1, Oper.upon]
    exact hn v w ρ h2 h (Post.refl _ _ _)
  · split at hs
    · rename_i x hh
      have hs := (chk_some hs).1
      cases hs
      obtain ⟨nx, v, w', ρ', h1, h2, h3, h4, h5⟩ := heapOp_sound (e := a.eval) h hh hf hr
      rcases h2 with rfl | ⟨rfl, rfl⟩
      · simp only [Oper.wp, h1, Oper.upon]
        exact hn v w' ρ' h3 h4 h5
      · simp only [Oper.wp, h1, Oper.upon]
        exact hn _ w' ρ' h3 h4 h5
    · split at hs
      · rename_i c hop
        have hs := (chk_some hs).1
        unfold aCall at hs
        split at hs
        · cases hs
        rename_i f args hcal
        have hex : execOp a.eval o = (do let d ← resolve a.eval c o.type; invoke d.target d.args : Sem Next) := by unfold execOp; rw [hop]
        obtain ⟨vs, hv, hrun⟩ := calleeOf_run (e := a.eval) (t := o.type) hcal (fun x hx => hr x (by rw [hop]; exact hx)) w
        split at hs
        · split at hs
          · rename_i hent
            simp only [Oper.wp]
            rw [hex, hrun, enters_run hent]
            simp only [Oper.upon]
            refine (hcall f args H r H' hs ρ w vs h hf hv).mono fun e w' he => ?_
            obtain ⟨v, ρ', rfl, h1, h2, h3⟩ := he
            exact hn v w' ρ' h1 h2 h3
          · cases hs
        · rename_i k hk
          split at hs
          · rename_i hh
            split at hs
            · rename_i hent
              simp only [Oper.wp]
              rw [hex, hrun, enters_run hent]
              simp only [Oper.upon]
              refine (hE.fn f hh hk args H r H' hs ρ w vs h hf hv).mono fun e w' he => ?_
              obtain ⟨v, ρ', rfl, h1, h2, h3⟩ := he
              exact hn v w' ρ' h1 h2 h3
            · cases hs
          · rename_i knf
            unfold aExt at hs
            split at hs
            · rename_i t g
              split at hs
              · rename_i es clock hg hroom
                cases hs
                obtain ⟨v, ws, rfl, ⟨u, rfl, hu⟩, hw0⟩ := hv
                simp only [VRL] at hw0
                subst hw0
                simp only [VR] at hu
                obtain ⟨b, cp, hρ, rfl⟩ := hu
                obtain ⟨ms, q1, q2⟩ := h.map hg hρ
                obtain ⟨ρ', p1, p2, p3⟩ := h.newMap hroom q2 hf
                simp only [Oper.wp]
                rw [hex, hrun, hE.ext f _ hk rfl]
                simp only [ExtK.entry]
                have : (Extern.MapsClone.clone [Value.iface t (.map (some b))].toArray).run E.P w = .ok (.iface t (.map (some w.heap.size))) (w.alloc (.map ms clock)) := by
                  have hc : Extern.MapsClone.clone [Value.iface t (.map (some b))].toArray = (do
                      let .map entries clock ← getObj b | stuck "maps.clone: a map expected"
                      pure (.iface t (.map (some (← newObj (.map entries clock)))))) := rfl
                  rw [hc]
                  simp only [Sem.run_bind, run_getObj q1 (by simp), Result.andThen_ok, run_newObj, Sem.run_pure, World.alloc_eq]
                rw [this]
                simp only [Result.andThen_ok, Oper.upon]
                exact hn _ _ ρ' ⟨_, rfl, p1⟩ p2 p3
              · cases hs
            · rename_i x c0
              split at hs
              · rename_i m hm hlt
                cases hs
                obtain ⟨v, ws, rfl, hu, u, ws', rfl, hc, hw0⟩ := hv
                simp only [VRL] at hw0
                subst hw0
                simp only [VR] at hc
                subst hc
                obtain ⟨q1, q2⟩ := aBytes_idx (P := E.P) h hm hu (blt_t hlt)
                simp only [Oper.wp]
                rw [hex, hrun, hE.ext f _ hk rfl]
                simp only [ExtK.entry]
                have : (Extern.BytealgIndexByte.indexByte [v, Value.int .u8 (Int.ofNat c0)].toArray).run E.P w = _ := q1
                rw [this]
                simp only [Result.andThen_ok, Oper.upon]
                refine hn _ _ ρ ?_ h (Post.refl _ _ _)
                rw [idxB_lib c0 (blt_t hlt) m q2]
                rfl
              · cases hs
            · cases hs
      · rename_i t x hop
        split at hs
        · rename_i b off hev
          split at hs
          · rename_i r' hg
            cases hs
            have hx := hr x (by rw [hop]; simp [Op.operands])
            rw [hev] at hx
            simp only [VR] at hx
            obtain ⟨z, h1, h2⟩ := gLoad_sound hE.glo h hg
            have : (execOp a.eval o).run E.P w = .ok (.value z) w := by
              unfold execOp; rw [hop]
              simp only [Instr.loadAt, hx, Instr.sureAddr, pure_bind, Sem.run_bind, h1, Result.andThen_ok, Sem.run_pure]
            simp only [Oper.wp, this, Oper.upon]
            exact hn z w ρ h2 h (Post.refl _ _ _)
          · cases hs
        · cases hs
      · cases hs
end
end Go.Ev
noncomputable section
namespace Go.Ev
open Go
def tget (A : Tr AV) (t : Nat) : AV :=
  match A.get t with
  | some a => a
  | none => undefA
def aEval (A : Tr AV) : Operand → AV
  | .tmp t => tget A t
  | .const v => match AV.ofValue 100 v with
    | some a => a
    | none => undefA
  | .global g => .glob g 0
  | .func f => .func (.func f) [] []
def constsOK (l : List Operand) : Bool :=
  l.all fun x => match x with
    | .const v => (AV.ofValue 100 v).isSome
    | _ => true
def TR (ρ : Ren) (A : Tr AV) (a : Act) : Prop := ∀ t, VR ρ (tget A t) (a.tmps.getD t undef)
theorem TR.mono {ρ ρ' : Ren} {A : Tr AV} {a : Act} (h : TR ρ A a) (k : ρ.le ρ') : TR ρ' A a := fun t => (h t).mono k
/-- What an operand reads, where its temporary is as told. -/
theorem evalOne {ρ : Ren} {A : Tr AV} {a : Act} {x : Operand} (hc : ∀ v, x = .const v → (AV.ofValue 100 v).isSome = true) (ht : ∀ t, x = .tmp t → VR ρ (tget A t) (a.tmps.getD t undef)) : VR ρ (aEval A x) (a.eval x) := by
  cases x with
  | tmp t => exact ht t rfl
  | const v =>
    have := hc v rfl
    simp only [aEval, Act.eval]
    cases ho : AV.ofValue 100 v with
    | none => rw [ho] at this; cases this
    | some b => exact ofValue_sound ρ _ _ _ ho
  | global g => rfl
  | func f => exact ⟨[], [], rfl, rfl, rfl⟩
theorem constsOK_one {l : List Operand} (h : constsOK l = true) {x : Operand} (hx : x ∈ l) : ∀ v, x = .const v → (AV.ofValue 100 v).isSome = true := by
  intro v hv
  subst hv
  exact List.all_eq_true.1 h _ hx
theorem TR.eval {ρ : Ren} {A : Tr AV} {a : Act} (h : TR ρ A a) {l : List Operand} (hc : constsOK l = true) : ∀ x ∈ l, VR ρ (aEval A x) (a.eval x) :=
  fun x hx => evalOne (constsOK_one hc hx) fun t _ => h t
def aPut (A : Tr AV) (n : Nat) (dst : Option Tmp) (r : AV) : Option (Tr AV) :=
  match dst with
  | none => some A
  | some d => match Nat.blt d n && Nat.blt d 1000000000000 with
    | true => some (A.set d r)
    | false => none
theorem Act.put_size (a : Act) (dst : Option Tmp) (v : Value) : (a.put dst v).tmps.size = a.tmps.size := by
  cases dst <;> simp [Act.put]
theorem Act.put_defers' (a : Act) (dst : Option Tmp) (v : Value) : (a.put dst v).defers = a.defers := by
  cases dst <;> simp [Act.put]
theorem put_getD (a : Act) (d : Nat) (v : Value) (h : d < a.tmps.size) (t : Nat) : (a.put (some d) v).tmps.getD t undef = if t = d then v else a.tmps.getD t undef := by
  simp only [Act.put, Array.getD_eq_getD_getElem?, Array.getElem?_setIfInBounds]
  by_cases c : t = d
  · subst c; simp [h]
  · rw [if_neg (fun e => c e.symm), if_neg c]
theorem aPut_tget {A A' : Tr AV} {n d : Nat} {r : AV} (h : aPut A n (some d) r = some A') (t : Nat) : tget A' t = if t = d then r else tget A t := by
  unfold aPut at h
  simp only at h
  split at h
  · rename_i hb
    obtain ⟨_, b2⟩ := bAnd hb
    have b2 := blt_t b2
    cases h
    unfold tget
    rw [Tr.set_get _ _ _ _ (by omega)]
    by_cases c : t = d
    · rw [if_pos c, if_pos c]
    · rw [if_neg c, if_neg c]
  · cases h
theorem aPut_lt {A A' : Tr AV} {n d : Nat} {r : AV} (h : aPut A n (some d) r = some A') : d < n := by
  unfold aPut at h
  simp only at h
  split at h
  · rename_i hb
    exact blt_t (bAnd hb).1
  · cases h
theorem TR.put {ρ : Ren} {A A' : Tr AV} {a : Act} {n : Nat} {dst : Option Tmp} {r : AV} {v : Value} (h : TR ρ A a) (hp : aPut A n dst r = some A') (hn : a.tmps.size = n) (hv : VR ρ r v) : TR ρ A' (a.put dst v) := by
  cases dst with
  | none => simp [aPut] at hp; subst hp; exact h
  | some d =>
    intro t
    rw [aPut_tget hp, put_getD _ _ _ (by rw [hn]; exact aPut_lt hp)]
    by_cases c : t = d
    · rw [if_pos c, if_pos c]; exact hv
    · rw [if_neg c, if_neg c]; exact h t
def eqB : Bool → Bool → Bool
  | true, true | false, false => true
  | _, _ => false
def aWanted (ops : Array Oper) (o : Oper) (A : Tr AV) : Bool :=
  match o.guard with
  | none => true
  | some (j, want) => match (ops[j]?).bind (·.dst) with
    | none => false
    | some d => match tget A d with
      | .bool b => eqB b want
      | _ => false
theorem VR.ofBool {ρ : Ren} {a : AV} {b : Bool} (h : VR ρ a (.bool b)) : a = .bool b := by
  cases a <;> simp [VR] at h
  · exact congrArg _ h.symm
theorem aWanted_sound {ρ : Ren} {ops : Array Oper} {o : Oper} {A : Tr AV} {a : Act} (h : ∀ j w d, o.guard = some (j, w) → (ops[j]?).bind (·.dst) = some d → VR ρ (tget A d) (a.tmps.getD d undef)) :
    Region.wanted o (yielded ops a.tmps) = aWanted ops o A := by
  unfold Region.wanted aWanted
  cases hg : o.guard with
  | none => rfl
  | some g =>
    obtain ⟨j, want⟩ := g
    simp only
    unfold yielded
    cases hd : (ops[j]?).bind (·.dst) with
    | none => simp
    | some d =>
      have hv := h j want d hg hd
      simp only [Option.bind_some]
      have ht : a.tmps.getD d undef = (a.tmps[d]?).getD undef := by simp [Array.getD_eq_getD_getElem?]
      split
      · rename_i b hb
        rw [ht, hb] at hv
        have := VR.ofBool hv
        rw [this]
        cases b <;> cases want <;> rfl
      · rename_i hb
        split
        · rename_i b hq
          rw [hq] at hv
          simp only [VR] at hv
          rw [ht] at hv
          cases hx : a.tmps[d]? with
          | none => rw [hx] at hv; cases hv
          | some x => rw [hx] at hv; simp at hv; subst hv; exact absurd hx (hb b)
        · simp
/-- A region, one operation behind the other. -/
def aOps (E : Env) (call : CallEv) (ops : Array Oper) (n : Nat) : List Oper → Tr AV → AHeap → Option (Tr AV × AHeap)
  | [], A, H => some (A, H)
  | o :: rest, A, H => match aWanted ops o A with
    | false => match aPut A n o.dst undefA with
      | none => none
      | some A1 => aOps E call ops n rest A1 H
    | true => match constsOK o.op.operands.toList with
      | false => none
      | true => match opStep E call o.op (aEval A) H with
        | none => none
        | some (r, H1) => match aPut A n o.dst r with
          | none => none
          | some A1 => aOps E call ops n rest A1 H1
theorem aOps_next {E : Env} {call : CallEv} {ops : Array Oper} {n : Nat} : ∀ (l : List Oper) {A A' : Tr AV} {H H' : AHeap}, aOps E call ops n l A H = some (A', H') → H.next ≤ H'.next
  | [], A, A', H, H', h => by simp [aOps] at h; obtain ⟨_, rfl⟩ := h; exact Nat.le_refl _
  | o :: rest, A, A', H, H', h => by
    unfold aOps at h
    split at h
    · split at h
      · cases h
      · exact aOps_next rest h
    · split at h
      · cases h
      · split at h
        · cases h
        · rename_i r H1 hs
          split at h
          · cases h
          · exact Nat.le_trans (opStep_next hs) (aOps_next rest h)
theorem aOps_sound {E : Env} {call : CallEv} {B : Bas} (hE : EOK E B) (hcall : CallOK E.P B call) {ops : Array Oper} {n : Nat} {Q : Exit → Act → World → Prop} :
    ∀ (l : List Oper) {A A' : Tr AV} {H H' : AHeap} {ρ : Ren} {a : Act} {w : World}, aOps E call ops n l A H = some (A', H') → HR E.P B ρ H w → Free ρ H.next H'.next → TR ρ A a → a.tmps.size = n →
      (∀ a' w' ρ', TR ρ' A' a' → a'.tmps.size = n → a'.defers = a.defers → HR E.P B ρ' H' w' → Post ρ H w ρ' H' w' → Q .normal a' w') → wpList E.P ops Q l a w
  | [], A, A', H, H', ρ, a, w, h, hh, hf, ht, hn, hq => by
    simp [aOps] at h
    obtain ⟨rfl, rfl⟩ := h
    exact hq a w ρ ht hn rfl hh (Post.refl _ _ _)
  | o :: rest, A, A', H, H', ρ, a, w, h, hh, hf, ht, hn, hq => by
    unfold aOps at h
    have hw := aWanted_sound (ρ := ρ) (ops := ops) (o := o) (A := A) (a := a) (fun _ _ d _ _ => ht d)
    unfold wpList
    split at h
    · rename_i hwf
      rw [hwf] at hw
      rw [if_neg (by rw [hw]; simp)]
      split at h
      · cases h
      · rename_i A1 hp
        exact aOps_sound hE hcall rest h hh hf (ht.put hp hn VR.undefA) (by rw [Act.put_size]; exact hn) fun a' w' ρ' t1 t2 t3 => hq a' w' ρ' t1 t2 (by rw [t3, Act.put_defers'])
    · rename_i hwf
      rw [hwf] at hw
      rw [if_pos hw]
      split at h
      · cases h
      · rename_i hc
        split at h
        · cases h
        · rename_i r H1 hs
          split at h
          · cases h
          · rename_i A1 hp
            have hnx := aOps_next rest h
            refine .inl (opStep_sound hE hcall hh hs (hf.mono hnx) (fun x hx => ht.eval hc x (Array.mem_toList_iff.2 hx)) fun v w' ρ' hv h1 p1 => ?_)
            exact aOps_sound hE hcall rest h h1 (p1.free hf) ((ht.mono p1.le).put hp hn hv) (by rw [Act.put_size]; exact hn) fun a' w'' ρ'' t1 t2 t3 t4 t5 =>
              hq a' w'' ρ'' t1 t2 (by rw [t3, Act.put_defers']) t4 (p1.trans t5)
end Go.Ev
noncomputable section
namespace Go.Ev
open Go
def ToldF (ρ : Ren) (g : Nat → Option AObj) (b : Nat) : Prop := ∃ n o cp, g n = some o ∧ o.live = true ∧ ρ n = some (b, cp)
def over_ (g : Nat → Option AObj) (H : AHeap) (k k' : Nat) : Nat → Option AObj := fun n => if k ≤ n ∧ n < k' then H.objs.get n else g n
theorem comb {P : Program} {B : Bas} {ρ ρ' : Ren} {w w' : World} {g : Nat → Option AObj} {K lo0 k k' : Nat} {Hin Hout : AHeap}
    (h : HRF P B ρ g K lo0 w) (hin : ∀ n o, Hin.objs.get n = some o → g n = some o) (low : ∀ n o, Hin.objs.get n = some o → n < k) (hout : HR P B ρ' Hout w') (p : Post ρ Hin w ρ' Hout w')
    (hk : Hin.next = k) (hlo : Hin.lo = k) (hk' : Hout.next = k') (hK : k' ≤ K) (hun : ∀ n, k ≤ n → n < k' → g n = none)
    (clean : ∀ n o c, k ≤ n → Hout.objs.get n = some o → o.cls = some c → k ≤ c)
    (sep1 : ∀ n o m q c, g n = some o → Hin.objs.get n = none → Hin.objs.get m = some q → o.cls = some c → q.cls ≠ some c)
    (sep2 : ∀ n o c, g n = some o → o.cls = some c → ¬ (k ≤ c ∧ c < k')) :
    HRF P B ρ' (over_ g Hout k k') K lo0 w' ∧ (∀ b, b < w.heap.size → ¬ ToldF ρ g b → w'.heap[b]? = w.heap[b]?) ∧
      (∀ b, ToldF ρ' (over_ g Hout k k') b → w.heap.size ≤ b ∨ ToldF ρ g b) := by
  have hle := p.le
  have keep : ∀ n o, Hin.objs.get n = some o → Hout.objs.get n = some o := fun n o e => by
    rw [p.keep n (by rw [hlo]; exact low n o e)]; exact e
  have back : ∀ n o, Hout.objs.get n = some o → n < k → Hin.objs.get n = some o := fun n o e c => by
    rw [← p.keep n (by rw [hlo]; exact c)]; exact e
  have blk : ∀ n o, g n = some o → o.live = true → ∃ b cp, ρ n = some (b, cp) ∧ b < w.heap.size := fun n o e hl => (h.obj n o e).block hl
  have told' : ∀ b, Told ρ Hin b → ToldF ρ g b := fun b ⟨n, o, cp, e, hl, hr⟩ => ⟨n, o, cp, hin n o e, hl, hr⟩
  -- what is told of beside Hin shares no block with Hin's
  have apart : ∀ n o b cp, g n = some o → o.live = true → Hin.objs.get n = none → ρ n = some (b, cp) → ¬ Told ρ Hin b := by
    rintro n o b cp e hl hno hr ⟨m, q, cq, em, hlm, hrm⟩
    rcases h.inj n m o q b cp cq e (hin m q em) hl hlm hr hrm with h1 | ⟨c, h1, h2⟩
    · subst h1; rw [hno] at em; cases em
    · exact sep1 n o m q c e hno em h1 h2
  have get' : ∀ n o, over_ g Hout k k' n = some o → (k ≤ n ∧ n < k' ∧ Hout.objs.get n = some o) ∨ (¬ (k ≤ n ∧ n < k') ∧ g n = some o) := fun n o e => by
    unfold over_ at e
    split at e
    · rename_i c; exact .inl ⟨c.1, c.2, e⟩
    · rename_i c; exact .inr ⟨c, e⟩
  have frame : ∀ b, b < w.heap.size → ¬ ToldF ρ g b → w'.heap[b]? = w.heap[b]? := fun b hb ht => p.frame b hb fun h1 => ht (told' b h1)
  have newblk : ∀ n o b cp, k ≤ n → Hout.objs.get n = some o → o.live = true → ρ' n = some (b, cp) → w.heap.size ≤ b ∨ Told ρ Hin b := fun n o b cp _ e hl hr => p.told b ⟨n, o, cp, e, hl, hr⟩
  refine ⟨⟨fun n o e => ?_, fun n m o q b cp cq e1 e2 l1 l2 r1 r2 => ?_, fun n o c l m e ec el => ?_, fun n o c e ec => ?_, hout.low, fun n o e => ?_, h.lim, hout.base, h.lole, hout.snap⟩, frame, fun b hb => ?_⟩
  · rcases get' n o e with ⟨_, _, e1⟩ | ⟨_, e1⟩
    · exact hout.obj n o e1
    · cases hi : Hin.objs.get n with
      | some o2 =>
        have := hin n o2 hi
        rw [e1] at this
        obtain rfl := Option.some.inj this
        exact hout.obj n o (keep n o hi)
      | none =>
        by_cases hl : o.live = true
        · obtain ⟨b, cp, hr, hb⟩ := blk n o e1 hl
          refine (h.obj n o e1).keep hle fun b1 c1 hr1 => ?_
          rw [hr] at hr1
          obtain ⟨rfl, rfl⟩ := Prod.mk.inj (Option.some.inj hr1)
          exact p.frame b hb (apart n o b cp e1 hl hi hr)
        · cases o <;> first | trivial | simp [AObj.live] at hl
  · have old : ∀ n o b cp, g n = some o → o.live = true → ρ' n = some (b, cp) → ρ n = some (b, cp) ∧ b < w.heap.size := fun n o b cp e hl hr => by
      obtain ⟨b0, c0, h0, hb⟩ := blk n o e hl
      have := hle n _ h0
      rw [hr] at this
      obtain ⟨rfl, rfl⟩ := Prod.mk.inj (Option.some.inj this)
      exact ⟨h0, hb⟩
    have mix : ∀ n m o q b cp cq, k ≤ n → Hout.objs.get n = some o → g m = some q → o.live = true → q.live = true → ρ' n = some (b, cp) → ρ' m = some (b, cq) → n = m ∨ ∃ c, o.cls = some c ∧ q.cls = some c := by
      intro n m o q b cp cq hn e1 e2 l1 l2 r1 r2
      cases hi : Hin.objs.get m with
      | some q2 =>
        have := hin m q2 hi
        rw [e2] at this
        obtain rfl := Option.some.inj this
        exact hout.inj n m o q b cp cq e1 (keep m q hi) l1 l2 r1 r2
      | none =>
        obtain ⟨r2', hb⟩ := old m q b cq e2 l2 r2
        rcases newblk n o b cp hn e1 l1 r1 with h1 | h1
        · omega
        · exact absurd h1 (apart m q b cq e2 l2 hi r2')
    rcases get' n o e1 with ⟨c1, _, f1⟩ | ⟨_, f1⟩
    · rcases get' m q e2 with ⟨_, _, f2⟩ | ⟨_, f2⟩
      · exact hout.inj n m o q b cp cq f1 f2 l1 l2 r1 r2
      · exact mix n m o q b cp cq c1 f1 f2 l1 l2 r1 r2
    · rcases get' m q e2 with ⟨c2, _, f2⟩ | ⟨_, f2⟩
      · rcases mix m n q o b cq cp c2 f2 f1 l2 l1 r2 r1 with h1 | ⟨c, h1, h2⟩
        · exact .inl h1.symm
        · exact .inr ⟨c, h2, h1⟩
      · exact h.inj n m o q b cp cq f1 f2 l1 l2 (old n o b cp f1 l1 r1).1 (old m q b cq f2 l2 r2).1
  · rcases get' n o e with ⟨c1, _, f1⟩ | ⟨_, f1⟩
    · have hck := clean n o c c1 f1 ec
      have hck' : c < k' := by rw [← hk']; exact hout.clo n o c f1 ec
      rcases get' c _ el with ⟨_, _, f2⟩ | ⟨c2, _⟩
      · exact hout.mem n o c l m f1 ec f2
      · exact absurd ⟨hck, hck'⟩ c2
    · rcases get' c _ el with ⟨c2, c3, _⟩ | ⟨_, f2⟩
      · exact absurd ⟨c2, c3⟩ (sep2 n o c f1 ec)
      · exact h.mem n o c l m f1 ec f2
  · rcases get' n o e with ⟨_, _, f1⟩ | ⟨_, f1⟩
    · have := hout.clo n o c f1 ec; omega
    · exact h.clo n o c f1 ec
  · rcases get' n o e with ⟨_, _, f1⟩ | ⟨_, f1⟩
    · have := hout.old n o f1; omega
    · exact h.old n o f1
  · obtain ⟨n, o, cp, e, hl, hr⟩ := hb
    rcases get' n o e with ⟨c1, _, f1⟩ | ⟨_, f1⟩
    · rcases newblk n o b cp c1 f1 hl hr with h1 | h1
      · exact .inl h1
      · exact .inr (told' b h1)
    · obtain ⟨b0, c0, h0, hb⟩ := blk n o f1 hl
      have := hle n _ h0
      rw [hr] at this
      obtain ⟨rfl, rfl⟩ := Prod.mk.inj (Option.some.inj this)
      exact .inr ⟨n, o, cp, f1, hl, h0⟩
/-- Less is told. -/
theorem HRF.sub {P : Program} {B : Bas} {ρ : Ren} {w : World} {g g2 : Nat → Option AObj} {K K2 lo0 lo2 : Nat} (h : HRF P B ρ g K lo0 w) (hs : ∀ n o, g2 n = some o → g n = some o)
    (ho : ∀ n o, g2 n = some o → n < K2) (hc : ∀ n o c, g2 n = some o → o.cls = some c → c < K2) (hl : K2 < 2 ^ 63) (hlo : lo2 ≤ K2) : HRF P B ρ g2 K2 lo2 w :=
  ⟨fun n o e => h.obj n o (hs n o e), fun n m o q b cp cq e1 e2 => h.inj n m o q b cp cq (hs n o e1) (hs m q e2), fun n o c l m e ec el => h.mem n o c l m (hs n o e) ec (hs c _ el), hc, h.low, ho, hl, h.base, hlo, h.snap⟩
end Go.Ev
noncomputable section
namespace Go.Ev
open Go
/-- What may look at memory. -/
def heapy : Op → Bool
  | .move _ | .assign _ | .pick .. | .nilCheck _ | .binOp .. | .unOp .. | .makeInterface .. | .makeFunc .. | .fieldAddr .. | .field .. | .indexAddr .. | .index .. | .slice .. | .extract .. | .build .. | .typeAssert .. => false
  | _ => true
def edgeMask (ms : Tr Nat) : List Edge → Nat → Nat
  | [], m => m
  | e :: l, m => match Region.binds .any e with
    | true => edgeMask ms l (m ||| ((2 ^ e.on) ||| (match ms.get e.on with | some x => x | none => 0)))
    | false => edgeMask ms l m
def masksFrom : List Oper → Nat → Tr Nat → Tr Nat
  | [], _, ms => ms
  | o :: l, i, ms => masksFrom l (i + 1) (ms.set i (edgeMask ms o.after.toList 0))
/-- All that stand ahead of each, as bits. -/
def masks (ops : Array Oper) : Tr Nat := masksFrom ops.toList 0 .leaf
def dep (ops : Array Oper) (i j : Nat) : Bool := match (masks ops).get i with | some m => Nat.testBit m j | none => false
def upto (n : Nat) (f : Nat → Bool) : Bool := (List.range n).all f
/-- An operation of which all others that may look at memory stand ahead or behind. -/
def barrier (ops : Array Oper) (i : Nat) : Bool :=
  upto ops.size fun j => match ops[j]? with
    | none => true
    | some o => Nat.beq i j || !heapy o.op || (match Nat.blt j i with | true => dep ops i j | false => dep ops j i)
def looks (ops : Array Oper) (o : Oper) : List Tmp :=
  (o.op.operands.toList.filterMap fun | .tmp t => some t | _ => none) ++ (match o.guard with
    | none => []
    | some (j, _) => match (ops[j]?).bind (·.dst) with | some d => [d] | none => [])
/-- The region is of a form that can be reckoned so. -/
def fine (ops : Array Oper) : Bool :=
  Nat.ble ops.size 1000000 &&
  (upto ops.size fun i => match ops[i]? with
    | none => true
    | some o => (o.after.toList.all fun e => !Region.binds .any e || (Nat.blt e.on i && dep ops i e.on)) &&
      (upto ops.size fun j => !dep ops i j || (Nat.blt j i && (o.after.toList.any fun e => Region.binds .any e && (Nat.beq j e.on || dep ops e.on j)))) &&
      (upto ops.size fun j => match ops[j]? with
        | none => true
        | some q => Nat.beq i j || ((match o.dst, q.dst with | some d, some d' => !Nat.beq d d' | _, _ => true) &&
            (match q.dst with | none => true | some d => !natIn d (looks ops o) || (match Nat.blt j i with | true => dep ops i j | false => dep ops j i)))))
structure RR where
  kind : Nat
  r : AV
  k : Nat
  k' : Nat
  out : AHeap
structure RS where
  A : Tr AV
  p : Nat
  base : AHeap
  segs : List (Nat × RR)
  next : Nat
def mergeRange (t s : Tr AObj) : Nat → Nat → Tr AObj
  | _, 0 => t
  | lo, n + 1 => match s.get lo with
    | some o => mergeRange (t.set lo o) s (lo + 1) n
    | none => mergeRange t s (lo + 1) n
theorem mergeRange_get (s : Tr AObj) : ∀ (n lo : Nat) (t : Tr AObj) (m : Nat), lo + n < 2 ^ 63 → (mergeRange t s lo n).get m = if lo ≤ m ∧ m < lo + n ∧ (s.get m).isSome then s.get m else t.get m
  | 0, lo, t, m, _ => by
    unfold mergeRange
    rw [if_neg (by omega)]
  | n + 1, lo, t, m, h => by
    unfold mergeRange
    split
    · rename_i o ho
      rw [mergeRange_get s n (lo + 1) _ m (by omega), Tr.set_get _ _ _ _ (by omega)]
      by_cases c : m = lo
      · subst c
        rw [if_neg (by omega), if_pos rfl, if_pos ⟨Nat.le_refl _, by omega, by simp [ho]⟩, ho]
      · rw [if_neg c]
        by_cases c2 : lo + 1 ≤ m ∧ m < lo + 1 + n ∧ (s.get m).isSome
        · rw [if_pos c2, if_pos ⟨by omega, by omega, c2.2.2⟩]
        · rw [if_neg c2, if_neg (fun c3 => c2 ⟨by omega, by omega, c3.2.2⟩)]
    · rename_i ho
      rw [mergeRange_get s n (lo + 1) _ m (by omega)]
      by_cases c : m = lo
      · subst c
        rw [if_neg (by omega), if_neg (by simp [ho])]
      · by_cases c2 : lo + 1 ≤ m ∧ m < lo + 1 + n ∧ (s.get m).isSome
        · rw [if_pos c2, if_pos ⟨by omega, by omega, c2.2.2⟩]
        · rw [if_neg c2, if_neg (fun c3 => c2 ⟨by omega, by omega, c3.2.2⟩)]
/-- The parts that were made apart, laid together. -/
def mergeAll (t : Tr AObj) : List (Nat × RR) → Tr AObj
  | [] => t
  | (_, x) :: l => match Nat.blt x.k' 4000000000000000000 with
    | true => mergeRange (mergeAll t l) x.out.objs x.k (x.k' - x.k)
    | false => mergeAll t l
def depsOf (m : Option Nat) (l : List (Nat × RR)) : List (Nat × RR) :=
  match l with
  | [] => []
  | (j, x) :: l => match (match m with | some m => Nat.testBit m j | none => false) with
    | true => (j, x) :: depsOf m l
    | false => depsOf m l
/-- New rows lean on new ones alone. -/
def cleanRange (t : Tr AObj) (k : Nat) : Nat → Nat → Bool
  | _, 0 => true
  | n, c + 1 => match t.get n with
    | some o => match o.cls with
      | none => cleanRange t k (n + 1) c
      | some x => match Nat.ble k x with
        | true => cleanRange t k (n + 1) c
        | false => false
    | none => cleanRange t k (n + 1) c
def stepR (E : Env) (call : CallEv) (ops : Array Oper) (n lo0 i : Nat) (o : Oper) (S : RS) : Option (RR × RS) :=
  match aWanted ops o S.A with
  | false => match aPut S.A n o.dst undefA with
    | none => none
    | some A1 => some (⟨0, undefA, S.next, S.next, S.base⟩, { S with A := A1 })
  | true => match constsOK o.op.operands.toList with
    | false => none
    | true => match heapy o.op with
      | false => match pureOp E.P o.op (aEval S.A) with
        | none => none
        | some r => match aPut S.A n o.dst r with
          | none => none
          | some A1 => some (⟨0, r, S.next, S.next, S.base⟩, { S with A := A1 })
      | true => match barrier ops i with
        | true => match opStep E call o.op (aEval S.A) ⟨mergeAll S.base.objs S.segs, S.next, lo0⟩ with
          | none => none
          | some (r, H1) => match aPut S.A n o.dst r with
            | none => none
            | some A1 => some (⟨2, r, S.next, H1.next, H1⟩, ⟨A1, i + 1, H1, [], H1.next⟩)
        | false => match opStep E call o.op (aEval S.A) ⟨mergeAll S.base.objs (depsOf ((masks ops).get i) S.segs), S.next, S.next⟩ with
          | none => none
          | some (r, H1) => match cleanRange H1.objs S.next S.next (H1.next - S.next) with
            | false => none
            | true => match aPut S.A n o.dst r with
              | none => none
              | some A1 => some (⟨1, r, S.next, H1.next, H1⟩, ⟨A1, S.p, S.base, (i, ⟨1, r, S.next, H1.next, H1⟩) :: S.segs, H1.next⟩)
def goR (E : Env) (call : CallEv) (ops : Array Oper) (n lo0 : Nat) : List Oper → Nat → RS → Option RS
  | [], _, S => some S
  | o :: l, i, S => match stepR E call ops n lo0 i o S with
    | none => none
    | some (_, S1) => goR E call ops n lo0 l (i + 1) S1
def aDrawn (E : Env) (call : CallEv) (ops : Array Oper) (n : Nat) (A : Tr AV) (H : AHeap) : Option (Tr AV × AHeap) :=
  match fine ops with
  | false => none
  | true => match goR E call ops n H.lo ops.toList 0 ⟨A, 0, H, [], H.next⟩ with
    | none => none
    | some S => match Nat.blt S.next 4000000000000000000 with
      | true => some (S.A, ⟨mergeAll S.base.objs S.segs, S.next, H.lo⟩)
      | false => none

/-! ### What 'fine' gives -/
theorem upto_all {n : Nat} {f : Nat → Bool} (h : upto n f = true) {i : Nat} (hi : i < n) : f i = true := List.all_eq_true.1 h i (List.mem_range.2 hi)
structure Fine (ops : Array Oper) : Prop where
  small : ops.size ≤ 1000000
  edge : ∀ (i : Nat) (o : Oper), ops[i]? = some o → ∀ e ∈ o.after, Region.binds .any e = true → e.on < i ∧ dep ops i e.on = true
  back : ∀ (i : Nat) (o : Oper) (j : Nat), ops[i]? = some o → j < ops.size → dep ops i j = true → j < i ∧ ∃ e ∈ o.after, Region.binds .any e = true ∧ (j = e.on ∨ dep ops e.on j = true)
  dst : ∀ (i j : Nat) (o q : Oper) (d : Tmp), ops[i]? = some o → ops[j]? = some q → i ≠ j → o.dst = some d → q.dst ≠ some d
  look : ∀ (i j : Nat) (o q : Oper) (d : Tmp), ops[i]? = some o → ops[j]? = some q → i ≠ j → q.dst = some d → d ∈ looks ops o → (j < i ∧ dep ops i j = true) ∨ (i < j ∧ dep ops j i = true)
theorem fine_spec {ops : Array Oper} (h : fine ops = true) : Fine ops := by
  obtain ⟨h1, h2⟩ := bAnd h
  have lt : ∀ {i : Nat} {o : Oper}, ops[i]? = some o → i < ops.size := fun e => (Array.getElem?_eq_some_iff.1 e).1
  have row : ∀ i o, ops[i]? = some o → _ := fun i o e => upto_all h2 (lt e)
  refine ⟨Nat.le_of_ble_eq_true h1, fun i o e ed hed hb => ?_, fun i o j e hj hd => ?_, fun i j o q d e1 e2 hne hd1 hd2 => ?_, fun i j o q d e1 e2 hne hd1 hd2 => ?_⟩
  · have r := row i o e
    simp only [e] at r
    obtain ⟨r, _⟩ := bAnd r
    obtain ⟨r, _⟩ := bAnd r
    have := List.all_eq_true.1 r ed (Array.mem_toList_iff.2 hed)
    rw [hb] at this
    simp only [Bool.not_true, Bool.false_or] at this
    obtain ⟨t1, t2⟩ := bAnd this
    exact ⟨blt_t t1, t2⟩
  · have r := row i o e
    simp only [e] at r
    obtain ⟨r, _⟩ := bAnd r
    obtain ⟨_, r⟩ := bAnd r
    have := upto_all r hj
    rw [hd] at this
    simp only [Bool.not_true, Bool.false_or] at this
    obtain ⟨t1, t2⟩ := bAnd this
    refine ⟨blt_t t1, ?_⟩
    obtain ⟨ed, q1, q2⟩ := List.any_eq_true.1 t2
    obtain ⟨q2, q3⟩ := bAnd q2
    exact ⟨ed, Array.mem_toList_iff.1 q1, q2, (bOrT q3).imp Nat.eq_of_beq_eq_true id⟩
  · have r := row i o e1
    simp only [e1] at r
    obtain ⟨_, r⟩ := bAnd r
    have := upto_all r (lt e2)
    simp only [e2] at this
    rcases bOrT this with t | t
    · exact hne (Nat.eq_of_beq_eq_true t)
    · obtain ⟨t, _⟩ := bAnd t
      simp only [hd1, hd2] at t
      rw [Nat.beq_refl] at t
      cases t
  · have r := row i o e1
    simp only [e1] at r
    obtain ⟨_, r⟩ := bAnd r
    have := upto_all r (lt e2)
    simp only [e2] at this
    rcases bOrT this with t | t
    · exact absurd (Nat.eq_of_beq_eq_true t) hne
    · obtain ⟨_, t⟩ := bAnd t
      simp only [hd1] at t
      have hin : natIn d (looks ops o) = true := by rw [natIn_eq]; simpa using hd2
      rw [hin] at t
      simp only [Bool.not_true, Bool.false_or] at t
      cases c : Nat.blt j i with
      | true => rw [c] at t; exact .inl ⟨blt_t c, t⟩
      | false => rw [c] at t; have := blt_f c; exact .inr ⟨by omega, t⟩
theorem barrier_spec {ops : Array Oper} {i : Nat} (h : barrier ops i = true) {j : Nat} {o : Oper} (hj : ops[j]? = some o) (hh : heapy o.op = true) (hne : j ≠ i) : (j < i ∧ dep ops i j = true) ∨ (i < j ∧ dep ops j i = true) := by
  have := upto_all h (Array.getElem?_eq_some_iff.1 hj).1
  simp only [hj] at this
  rcases bOrT this with t | t
  · rcases bOrT t with t | t
    · exact absurd (Nat.eq_of_beq_eq_true t).symm hne
    · rw [hh] at t; cases t
  · cases c : Nat.blt j i with
    | true => rw [c] at t; exact .inl ⟨blt_t c, t⟩
    | false => rw [c] at t; have := blt_f c; exact .inr ⟨by omega, t⟩
end Go.Ev
