/- Going through texts and maps; delete, len, clone of maps. -/
import Derived.Test.YtjlaiimcbkbciaaDoorEv16
noncomputable section
namespace Go.Ev
open Go
section
variable {P : Program} {B : Bas} {ρ : Ren} {H : AHeap} {w : World}
def aRange (P : Program) (H : AHeap) (t : TypeId) (x : AV) : Option (AV × AHeap) :=
  match H.room with
  | false => none
  | true => match P.underlying t, x with
    | some .string, .str l => some (.ptr H.next 0, H.alloc (.sit l 0))
    | some (.map _ _), .nilMap => some (.ptr H.next 0, H.alloc (.mit none 0 [] 0))
    | some (.map _ _), .map g => match H.objs.get g with
      | some (.map _ clock) => some (.ptr H.next 0, H.alloc (.mit (some g) clock [] clock))
      | _ => none
    | _, _ => none
theorem aRange_sound (h : HR P B ρ H w) {t : TypeId} {x r : AV} {H' : AHeap} {xv : Value} (ha : aRange P H t x = some (r, H')) (hf : Free ρ H.next H'.next) (hx : VR ρ x xv) :
    ∃ v w' ρ', (Instr.range t xv).run P w = .ok v w' ∧ VR ρ' r v ∧ HR P B ρ' H' w' ∧ Post ρ H w ρ' H' w' := by
  have fin : ∀ {o : AObj} {O : Obj}, H.room = true → Free ρ H.next (H.next + 1) → o.cls = none → (∀ ρ', ρ' H.next = some (w.heap.size, 0) → ρ.le ρ' → OR P ρ' H.next o (w.alloc O)) →
      ∃ ρ', VR ρ' (.ptr H.next 0) (.pointer (some ⟨w.heap.size, 0, none⟩)) ∧ HR P B ρ' (H.alloc o) (w.alloc O) ∧ Post ρ H w ρ' (H.alloc o) (w.alloc O) := by
    intro o O hroom hf hc ho
    have hfr : ρ H.next = none := hf _ (Nat.le_refl _) (by omega)
    obtain ⟨h1, p1⟩ := h.make (o := o) (O := O) (AHeap.room_lt hroom) hfr 0 (ho _ (Ren.upd_same _ _ _) (Ren.le_upd _ hfr)) (by rw [hc]; simp)
    exact ⟨_, ⟨_, _, Ren.upd_same _ _ _, rfl⟩, h1, p1⟩
  unfold aRange at ha
  split at ha
  · cases ha
  rename_i hroom
  split at ha
  · rename_i l hd
    cases ha
    simp only [VR] at hx
    obtain ⟨rfl, hl⟩ := hx
    obtain ⟨ρ', q1, q2, q3⟩ := fin (o := .sit l 0) (O := .stringIter (bs l) 0) hroom hf rfl (fun ρ' hr _ => ⟨_, _, hr, heap_new _ _, hl⟩)
    exact ⟨_, _, ρ', by simp [Instr.range, run_und hd], q1, q2, q3⟩
  · rename_i k e hd
    cases ha
    simp only [VR] at hx
    subst hx
    obtain ⟨ρ', q1, q2, q3⟩ := fin (o := .mit none 0 [] 0) (O := .mapIter none 0 #[] 0) hroom hf rfl (fun ρ' hr _ => ⟨_, _, hr, heap_new _ _⟩)
    exact ⟨_, _, ρ', by simp [Instr.range, run_und hd], q1, q2, q3⟩
  · rename_i k e g hd
    split at ha
    · rename_i es clock hg
      cases ha
      simp only [VR] at hx
      obtain ⟨b, c, hr, rfl⟩ := hx
      obtain ⟨ms, q1, q2⟩ := h.map hg hr
      obtain ⟨ρ', r1, r2, r3⟩ := fin (o := .mit (some g) clock [] clock) (O := .mapIter (some b) clock #[] clock) hroom hf rfl (fun ρ' hr' hle => ⟨_, _, hr', b, c, hle _ _ hr, heap_new _ _⟩)
      exact ⟨_, _, ρ', by simp [Instr.range, run_und hd, run_getObj q1], r1, r2, r3⟩
    · cases ha
  · cases ha
def over : AV := .tuple [.bool false]
theorem VR.over : VR ρ over (.tuple #[.bool false]) := ⟨[.bool false], rfl, VRL.cons rfl VRL.nil⟩
def natIn (n : Nat) : List Nat → Bool
  | [] => false
  | m :: l => match Nat.beq n m with
    | true => true
    | false => natIn n l
theorem natIn_eq (n : Nat) : ∀ l, natIn n l = l.contains n
  | [] => rfl
  | m :: l => by
    unfold natIn
    split
    · rename_i h; rw [Nat.eq_of_beq_eq_true h]; simp
    · rename_i h
      rw [natIn_eq n l]
      have := beq_f h
      simp [this]
def unseen (seen : List Nat) : List (AV × AV × Nat) → List (AV × AV × Nat)
  | [] => []
  | e :: l => match natIn e.2.2 seen with
    | true => unseen seen l
    | false => e :: unseen seen l
theorem unseen_rel (seen : List Nat) : ∀ {es : List (AV × AV × Nat)} {ms : List MapEntry}, ERL ρ es ms → ERL ρ (unseen seen es) (ms.filter fun e => !seen.toArray.contains e.born)
  | [], ms, h => by simp [ERL] at h; subst h; rfl
  | e :: es, ms, h => by
    obtain ⟨m, ns, rfl, h1, h2⟩ := h
    have ih := unseen_rel seen h2
    have hb := h1.2.2
    unfold unseen
    split
    · rename_i hn
      rw [natIn_eq] at hn
      rw [List.filter_cons_of_neg (by simp [hb]; simpa using hn)]
      exact ih
    · rename_i hn
      rw [natIn_eq] at hn
      rw [List.filter_cons_of_pos (by simp [hb]; simpa using hn)]
      exact ⟨m, _, rfl, h1, ih⟩
def allLate (last : Nat) : List (AV × AV × Nat) → Bool
  | [] => true
  | e :: l => match Nat.ble last e.2.2 with
    | true => allLate last l
    | false => false
theorem allLate_rel (last : Nat) : ∀ {es : List (AV × AV × Nat)} {ms : List MapEntry}, ERL ρ es ms → ms.all (fun e => decide (e.born ≥ last)) = allLate last es
  | [], ms, h => by simp [ERL] at h; subst h; rfl
  | e :: es, ms, h => by
    obtain ⟨m, ns, rfl, h1, h2⟩ := h
    have ih := allLate_rel last h2
    have hb := h1.2.2
    unfold allLate
    simp only [List.all_cons, ih, hb]
    split
    · rename_i hn
      have := Nat.le_of_ble_eq_true hn
      simp [this]
    · rename_i hn
      have : ¬ last ≤ e.2.2 := fun hh => by rw [Nat.ble_eq_true_of_le hh] at hn; cases hn
      simp [this]
def aNext (H : AHeap) (it : AV) (isS : Bool) : Option (AV × AHeap) :=
  match it with
  | .ptr g 0 => match H.objs.get g, isS with
    | some (.sit l pos), true => match l[pos]?, Nat.ble H.lo g with
      | none, _ => some (over, H)
      | some _, false => none
      | some c, true => match Nat.blt c 128 with
        | true => some (.tuple [.bool true, .int .i64 (Int.ofNat pos), .int .i32 (Int.ofNat c)], H.put g (.sit l (pos + 1)))
        | false => some (.tuple [.bool true, .int .i64 (Int.ofNat pos), .int .i32 (Int.ofNat (Utf8.decode (bs l) pos).1)], H.put g (.sit l (pos + (Utf8.decode (bs l) pos).2)))
    | some (.mit none _ _ _), false => some (over, H)
    | some (.mit (some m) since seen last), false => match H.objs.get m with
      | some (.map es clock) => match !seen.isEmpty && !es.isEmpty && allLate last es with
        | true => none
        | false => match unseen seen es with
          | [] => some (over, H)
          | [e] => match Nat.blt e.2.2 since && Nat.ble H.lo g with
            | true => some (.tuple [.bool true, e.1, e.2.1], H.put g (.mit (some m) since (seen ++ [e.2.2]) clock))
            | false => none
          | _ => none
      | _ => none
    | _, _ => none
  | _ => none
theorem aNext_sound (h : HR P B ρ H w) {it r : AV} {isS : Bool} {H' : AHeap} {v : Value} (ha : aNext H it isS = some (r, H')) (hx : VR ρ it v) (ty : TypeId) :
    ∃ z w', (Instr.next v isS ty).run P w = .ok z w' ∧ VR ρ r z ∧ HR P B ρ H' w' ∧ Post ρ H w ρ H' w' := by
  unfold aNext at ha
  split at ha
  · rename_i g
    simp only [VR] at hx
    obtain ⟨b, cp, hr, rfl⟩ := hx
    split at ha
    · rename_i l pos hg
      obtain ⟨b', cp', q1, q2, q3⟩ := h.obj g _ hg
      rw [hr] at q1
      obtain ⟨rfl, rfl⟩ := Prod.mk.inj (Option.some.inj q1)
      have hlt := (Array.getElem?_eq_some_iff.1 q2).1
      split at ha
      · rename_i hn
        cases ha
        have hp : ¬ pos < (bs l).size := by
          rw [bs_size]; exact Nat.not_lt.2 (List.getElem?_eq_none_iff.1 hn)
        refine ⟨.tuple #[.bool false], w, ?_, VR.over, h, Post.refl _ _ _⟩
        simp only [Instr.next, Sem.run_bind, run_getObj q2 (by simp), Result.andThen_ok]
        rw [if_neg hp]
        rfl
      · cases ha
      · rename_i c hc hlo
        have hlo := Nat.le_of_ble_eq_true hlo
        have hpl : pos < l.length := (List.getElem?_eq_some_iff.1 hc).1
        have hp : pos < (bs l).size := by rw [bs_size]; exact hpl
        have hc256 : c < 256 := q3 c (List.mem_of_getElem? hc)
        have step : ∀ (n : Nat) (c : Nat), Utf8.decode (bs l) pos = (c, n) → ∃ z w', (Instr.next (.pointer (some ⟨b, 0, none⟩)) true ty).run P w = .ok z w' ∧
            VR ρ (.tuple [.bool true, .int .i64 (Int.ofNat pos), .int .i32 (Int.ofNat c)]) z ∧ HR P B ρ (H.put g (.sit l (pos + n))) w' ∧ Post ρ H w ρ (H.put g (.sit l (pos + n))) w' := by
          intro n c hd
          obtain ⟨h1, p1⟩ := h.turn (O := .stringIter (bs l) (pos + n)) (o' := .sit l (pos + n)) hg rfl rfl rfl rfl rfl hlo hr hlt ⟨b, cp, hr, heap_set hlt, q3⟩
          refine ⟨.tuple #[.bool true, goInt pos, .int .i32 c], _, ?_, ⟨_, rfl, VRL.cons rfl (VRL.cons rfl (VRL.cons rfl VRL.nil))⟩, h1, p1⟩
          simp only [Instr.next, Sem.run_bind, run_getObj q2 (by simp), Result.andThen_ok]
          rw [if_pos hp]
          simp only [hd, Sem.run_bind, run_setObj q2 (by simp), Result.andThen_ok, Sem.run_pure]
        split at ha
        · rename_i hasc
          cases ha
          refine step 1 c ?_
          have hb : ((bs l)[pos]'hp).toNat = c := by
            have := bs_get l pos
            rw [ByteArray.getElem?_lt' _ _ hp, hc] at this
            have := Option.some.inj this
            rw [this]
            simp [Nat.mod_eq_of_lt hc256]
          rw [decode_ascii (bs l) pos hp (by rw [hb]; exact blt_t hasc), hb]
        · cases ha
          exact step _ _ rfl
    · rename_i since seen last hg
      cases ha
      obtain ⟨b', cp', q1, q2⟩ := h.obj g _ hg
      rw [hr] at q1
      obtain ⟨rfl, rfl⟩ := Prod.mk.inj (Option.some.inj q1)
      refine ⟨.tuple #[.bool false], w, ?_, VR.over, h, Post.refl _ _ _⟩
      simp only at q2
      simp only [Instr.next, Sem.run_bind, run_getObj q2 (by simp), Result.andThen_ok]
      rfl
    · rename_i m since seen last hg
      split at ha
      · rename_i es clock hm
        obtain ⟨b', cp', q1, rb, cb, q2, q3⟩ := h.obj g _ hg
        rw [hr] at q1
        obtain ⟨rfl, rfl⟩ := Prod.mk.inj (Option.some.inj q1)
        obtain ⟨ms, m1, m2⟩ := h.map hm q2
        have hlt := (Array.getElem?_eq_some_iff.1 q3).1
        split at ha
        · cases ha
        rename_i hlate
        have hcond : (!seen.toArray.isEmpty && !ms.isEmpty && ms.all (fun e => decide (e.born ≥ last))) = false := by
          have e1 : ms.isEmpty = es.isEmpty := by
            have := (ERL.get m2).1
            simp only [Array.length_toList] at this
            rw [Bool.eq_iff_iff, Array.isEmpty_iff_size_eq_zero, List.isEmpty_iff_length_eq_zero, this]
          have e2 : ms.all (fun e => decide (e.born ≥ last)) = allLate last es := by
            rw [← allLate_rel last m2]; simp
          rw [e1, e2]
          simpa using hlate
        have hun := unseen_rel seen m2
        have hfl : (ms.filter fun e => !seen.toArray.contains e.born).toList = ms.toList.filter fun e => !seen.toArray.contains e.born := by simp
        rw [← hfl] at hun
        generalize hleft : (ms.filter fun e => !seen.toArray.contains e.born) = left at hun
        have pre : ∀ {cand : Array (Option MapEntry)} {c0 : Option MapEntry}, cand = (if (left.filter fun e => decide (e.born < since)).isEmpty = true then #[none] else #[]) ++ ((left.filter fun e => decide (e.born < since)) ++ (left.filter fun e => decide (e.born ≥ since))).map some → cand = #[c0] →
            (Instr.next (.pointer (some ⟨b, 0, none⟩)) false ty).run P w = (match c0 with
              | some e => (do setObj b (.mapIter (some rb) since (seen.toArray.push e.born) clock); pure (.tuple #[.bool true, e.key, e.val]) : Sem Value)
              | none => pure (.tuple #[.bool false])).run P w := by
          intro cand c0 hcand hc0
          simp only [Instr.next, Sem.run_bind, run_getObj q3 (by simp), run_getObj m1 (by simp), Result.andThen_ok]
          rw [hcond]
          simp only [Bool.false_eq_true, if_false, hleft]
          rw [← hcand, hc0]
          simp only [Sem.run_bind, List.size_toArray, List.length_cons, List.length_nil, run_choose, Question.forced, Nat.zero_add, Nat.le_refl, decide_true, if_true, Result.andThen_ok]
          cases c0 with
          | none => rfl
          | some e => rfl
        split at ha
        · rename_i hnil
          cases ha
          rw [hnil] at hun
          simp only [ERL] at hun
          have hl0 : left = #[] := by apply Array.ext'; simpa using hun
          subst hl0
          refine ⟨.tuple #[.bool false], w, ?_, VR.over, h, Post.refl _ _ _⟩
          rw [pre rfl (c0 := none) (by simp)]
          rfl
        · rename_i e hone
          split at ha
          · rename_i hold
            cases ha
            obtain ⟨hold, hlo⟩ := bAnd hold
            have hold := blt_t hold
            have hlo := Nat.le_of_ble_eq_true hlo
            rw [hone] at hun
            obtain ⟨m0, ns, e1, ⟨f1, f2, f3⟩, e2⟩ := hun
            simp only [ERL] at e2
            subst e2
            have hl0 : left = #[m0] := by apply Array.ext'; simpa using e1
            subst hl0
            have hb1 : m0.born < since := by rw [f3]; exact hold
            obtain ⟨h1, p1⟩ := h.turn (O := .mapIter (some rb) since (seen.toArray.push m0.born) clock) (o' := .mit (some m) since (seen ++ [e.2.2]) clock) hg rfl rfl rfl rfl rfl hlo hr hlt
              ⟨b, cp, hr, rb, cb, q2, by rw [heap_set hlt, f3]; simp⟩
            refine ⟨.tuple #[.bool true, m0.key, m0.val], _, ?_, ⟨_, rfl, VRL.cons rfl (VRL.cons f1 (VRL.cons f2 VRL.nil))⟩, h1, p1⟩
            rw [pre rfl (c0 := some m0) (by
              have a1 : (#[m0].filter fun e => decide (e.born < since)) = #[m0] := by simp [hb1]
              have a2 : (#[m0].filter fun e => decide (e.born ≥ since)) = #[] := by simp; omega
              rw [a1, a2]; simp)]
            simp only [Sem.run_bind, run_setObj q3 (by simp), Result.andThen_ok, Sem.run_pure]
          · cases ha
        · cases ha
      · cases ha
    · cases ha
  · cases ha
/-- The entry of this stamp. -/
def bornIs (b : Nat) : List (AV × AV × Nat) → Option (AV × AV × Nat)
  | [] => none
  | e :: l => match Nat.beq e.2.2 b with
    | true => some e
    | false => bornIs b l
theorem bornIs_rel (b : Nat) : ∀ {es : List (AV × AV × Nat)} {ms : List MapEntry} {e : AV × AV × Nat}, ERL ρ es ms → bornIs b es = some e → ∃ m, ms.find? (fun x => x.born == b) = some m ∧ VR ρ e.1 m.key ∧ VR ρ e.2.1 m.val
  | [], _, _, _, h => by simp [bornIs] at h
  | e0 :: es, ms, e, h, he => by
    obtain ⟨m, ns, rfl, ⟨h1, h2, h3⟩, h4⟩ := h
    unfold bornIs at he
    split at he
    · rename_i hb
      cases he
      have hb := Nat.eq_of_beq_eq_true hb
      exact ⟨m, by rw [List.find?_cons_of_pos (by simp [h3, hb])], h1, h2⟩
    · rename_i hb
      have hb := beq_f hb
      obtain ⟨m', q1, q2⟩ := bornIs_rel b h4 he
      exact ⟨m', by rw [List.find?_cons_of_neg (by simp [h3, hb])]; exact q1, q2⟩
def aEntry (H : AHeap) (it : AV) : Option AV :=
  match it with
  | .ptr g 0 => match H.objs.get g with
    | some (.mit (some m) _ seen stepped) => match H.objs.get m, seen.getLast? with
      | some (.map es clock), some b => match Nat.beq clock stepped with
        | true => match bornIs b es with
          | some e => some (.tuple [e.1, e.2.1])
          | none => none
        | false => none
      | _, _ => none
    | _ => none
  | _ => none
theorem aEntry_sound (h : HR P B ρ H w) {it r : AV} {v : Value} (ha : aEntry H it = some r) (hx : VR ρ it v) : ∃ z, (Instr.entry v).run P w = .ok z w ∧ VR ρ r z := by
  unfold aEntry at ha
  split at ha
  · rename_i g
    simp only [VR] at hx
    obtain ⟨b, cp, hr, rfl⟩ := hx
    split at ha
    · rename_i m since seen stepped hg
      split at ha
      · rename_i es clock bo hm hlast
        split at ha
        · rename_i hck
          have hck := Nat.eq_of_beq_eq_true hck
          split at ha
          · rename_i e he
            cases ha
            obtain ⟨b', cp', q1, rb, cb, q2, q3⟩ := h.obj g _ hg
            rw [hr] at q1
            obtain ⟨rfl, rfl⟩ := Prod.mk.inj (Option.some.inj q1)
            obtain ⟨ms, m1, m2⟩ := h.map hm q2
            obtain ⟨mm, f1, f2, f3⟩ := bornIs_rel bo m2 he
            have hl : seen.toArray.back? = some bo := by rw [List.back?_toArray]; exact hlast
            refine ⟨.tuple #[mm.key, mm.val], ?_, ⟨_, rfl, VRL.cons f2 (VRL.cons f3 VRL.nil)⟩⟩
            have f1' : ms.find? (fun x => x.born == bo) = some mm := by rw [← Array.find?_toList]; exact f1
            simp only [Instr.entry, Sem.run_bind, run_getObj q3 (by simp), Result.andThen_ok, hl, run_getObj m1 (by simp), f1']
            rw [if_neg (by simp [hck])]
            rfl
          · cases ha
        · cases ha
      · cases ha
    · cases ha
  · cases ha
end
end Go.Ev
