/- Contracts and plain facts that the law leans on. -/
import Derived.Test.YtpighkpdnifejaaDoorChecked
import Derived.Test.YtpighkpdnifejaaDoorPpCb
import Derived.Laws.AppendOwnNone
import Derived.OwnWalk
import Derived.Test.YtpighkpdnifejaaDoorPpCc
import Derived.Test.YtpighkpdnifejaaDoorUpM
namespace Go.Proofs.YtpighkpdnifejaaDoor
open Go.RowKit Go.Lib Go.Tx
/-- A value that reads as texts. -/
def TextsIn (w : World) (v : Value) (zs : List (List UInt8)) : Prop :=
  (v = .slice none 0 0 ∧ zs = []) ∨ ∃ ad c, v = .slice (some ad) zs.length c ∧ ∀ (i : Nat) l, zs[i]? = some l → w.cell? (ad.add i) = some (strV l)
theorem StrC.texts {B : Nat} {w : World} {v : Value} {ws : List (List UInt8)} (h : StrC B w v ws) : TextsIn w v ws := by
  rcases h.2 with ⟨a, b⟩ | ⟨g, cap, cur, a, a2, a3, a4, a5, a6⟩
  · refine .inl ⟨a, ?_⟩
    have := h.1
    cases ws
    · rfl
    · simp at b
  · refine .inr ⟨⟨g, 0, none⟩, cap, a, fun i l hi => ?_⟩
    have := World.ownsRow.cells h (g := g) (by rw [a]; rfl) i (strV l) (by rw [List.getElem?_map, hi]; rfl)
    exact this
theorem TextsIn.below {w w' : World} {v : Value} {zs : List (List UInt8)} (h : TextsIn w v zs) (hb : Below w.heap.size w w') : TextsIn w' v zs := by
  rcases h with h | ⟨ad, c, h1, h2⟩
  · exact .inl h
  · refine .inr ⟨ad, c, h1, fun i l hi => ?_⟩
    have hc := h2 i l hi
    have hlt : (ad.add i).block < w.heap.size := by
      unfold World.cell? at hc
      split at hc
      · rename_i hh
        exact (Array.getElem?_eq_some_iff.1 hh).1
      · cases hc
    rw [hb.cell hlt]
    exact hc
theorem infoStr : (Tryd.prog.info? 9).map (fun i => (i.zero, i.size, i.bytes)) = some (some (.string ⟨#[]⟩), 1, 16) := by kernel_rfl
theorem wpList_append_texts {w : World} {ops : Array Oper} {rest : List Oper} {o : Oper} {a : Act} {Q : Exit → Act → World → Prop} (hgd : o.guard = none) (s x : Operand)
    (ho : o.op = .call { callee := .builtin .append, args := #[s, x], argTypes := #[44, 44] }) {B : Nat} {v y : Value} {ws zs : List (List UInt8)} (hs : a.eval s = v) (hx : a.eval x = y) (hown : StrC B w v ws) (hsrc : TextsIn w y zs)
    (hlen : ws.length + zs.length ≤ 1000000) (hB : B ≤ w.heap.size) (h : ∀ v' w', StrC B w' v' (ws ++ zs) → Below B w w' → wpList Tryd.prog ops Q rest (a.put o.dst v') w') : wpList Tryd.prog ops Q (o :: rest) a w := by
  obtain ⟨i9, hi, hz0, hz1, hz2⟩ := info_parts infoStr
  rcases hsrc with ⟨rfl, rfl⟩ | ⟨ad, c, rfl, hcell⟩
  · exact wpList_append_own_none hgd s x 44 ho B 9 i9 1 Tryd.underlying44 hi v ws.length (ws.map strV) hs hown hx (h v w (by rw [List.append_nil]; exact hown) (Below.refl B w))
  · refine wpList_append_own w hgd s x 44 ho B 9 i9 (.string ⟨#[]⟩) 1 16 Tryd.underlying44 hi hz0 hz1 hz2 rfl (by decide) v ws.length (ws.map strV) hs hown ad zs.length c (zs.map strV) hx (by simp) (fun j u hj => ?_) ?_ (by unfold maxLen; omega) (by omega) hB fun v' w' h1 h2 h3 => ?_
    · rw [List.getElem?_map] at hj
      obtain ⟨l, hl, rfl⟩ := Option.map_eq_some_iff.1 hj
      exact hcell j l hl
    · intro u hu
      obtain ⟨l, _, rfl⟩ := List.mem_map.1 hu
      rfl
    · refine h v' w' ?_ ?_
      · unfold StrC
        rw [List.length_append, List.map_append]
        exact h1
      · exact (Below.refl B w).grown h2 hB (fun g hg => (World.ownsRow.lt hown g hg).1)
end Go.Proofs.YtpighkpdnifejaaDoor

namespace Go.Proofs.YtpighkpdnifejaaDoor
open Go.RowKit Go.Lib Go.Tx Go.Pol Go.Extern.Stop Go.Stop
def t0 : List UInt8 := [104, 111, 115, 116, 115, 58, 32, 97, 10]
def t1 : List UInt8 := [97, 100, 100, 114, 115, 58, 32, 98, 32, 91, 78, 79, 84, 70, 79, 85, 78, 68, 61, 114, 101, 116, 117, 114, 110, 93, 10]
def t2 : List UInt8 := [115, 101, 114, 118, 105, 99, 101, 115, 58, 32, 99, 32, 100, 10]
def t3 : List UInt8 := [112, 111, 114, 116, 115, 58, 32, 101, 32, 91, 83, 85, 67, 67, 69, 83, 83, 61, 99, 111, 110, 116, 105, 110, 117, 101, 32, 84, 82, 89, 65, 71, 65, 73, 78, 61, 114, 101, 116, 117, 114, 110, 93, 10]
def ins {α : Type} (x : α) : List α → List (List α)
  | [] => [[x]]
  | y :: l => (x :: y :: l) :: (ins x l).map (y :: ·)
def permsO {α : Type} : List α → List (List α)
  | [] => [[]]
  | x :: l => (permsO l).flatMap (ins x)
def rotO {α : Type} (k : Nat) (l : List α) : List α := l.take k ++ l.drop (k + 1) ++ (l.drop k).take 1
/-- The orders of four, by numbers. -/
def orders : List (List Nat) := permsO [0, 1, 2, 3]
theorem orders_rot : (orders.all fun o => [0, 1, 2, 3].all fun k => decide (rotO k o ∈ orders) && decide (o.length = 4)) = true := by decide +kernel
def txO (o : List Nat) : List (List UInt8) := o.map fun i => [t0, t1, t2, t3].getD i []
theorem orders_print : (orders.all fun o => decide ((viewP (polOf (txO o).flatten)).map (·.2) = some (t0 ++ t1 ++ t2 ++ t3)) && decide (((viewP (polOf (txO o).flatten)).map (fun v => v.1.all fun ss => decide (ss.length ≤ 8) && ss.all fun s => decide (s.1.length ≤ 16))) = some true) && decide ((txO o).flatten.length ≤ 200)) = true := by decide +kernel
theorem order_len {o : List Nat} (h : o ∈ orders) : o.length = 4 := by
  have := List.all_eq_true.1 orders_rot o h
  simp only [List.all_cons, Bool.and_eq_true] at this
  exact of_decide_eq_true this.1.2
theorem order_rot {o : List Nat} (h : o ∈ orders) (k : Nat) (hk : k < 4) : rotO k o ∈ orders := by
  have := List.all_eq_true.1 orders_rot o h
  simp only [List.all_cons, Bool.and_eq_true, decide_eq_true_eq] at this
  have hk4 : k = 0 ∨ k = 1 ∨ k = 2 ∨ k = 3 := by omega
  rcases hk4 with rfl | rfl | rfl | rfl
  · exact this.1.1
  · exact this.2.1.1
  · exact this.2.2.1.1
  · exact this.2.2.2.1.1
/-- What a policy's text in any order gives. -/
theorem order_ok {o : List Nat} (h : o ∈ orders) : ∃ P, polOf (txO o).flatten = .ok P ∧ printP P = t0 ++ t1 ++ t2 ++ t3 ∧ (∀ j, j < 5 → (P j).length ≤ 8) ∧ (∀ j, j < 5 → ∀ s ∈ P j, s.src.length ≤ 16) ∧ (txO o).flatten.length ≤ 200 := by
  have := List.all_eq_true.1 orders_print o h
  simp only [Bool.and_eq_true] at this
  obtain ⟨⟨h1, h2⟩, h3⟩ := this
  have h1 := of_decide_eq_true h1
  have h2 := of_decide_eq_true h2
  cases hr : polOf (txO o).flatten with
  | error q => rw [hr] at h1; cases h1
  | ok P =>
    rw [hr] at h1 h2
    simp only [viewP, Option.map_some, Option.some.injEq] at h1 h2
    have hj : ∀ j, j < 5 → (P j).length ≤ 8 ∧ ∀ s ∈ P j, s.src.length ≤ 16 := fun j hj => by
      have := List.all_eq_true.1 h2 _ (List.mem_map.2 ⟨j, List.mem_range.2 hj, rfl⟩)
      rw [Bool.and_eq_true] at this
      refine ⟨by simpa using of_decide_eq_true this.1, fun s hs => ?_⟩
      exact of_decide_eq_true (List.all_eq_true.1 this.2 (tupS s) (List.mem_map.2 ⟨s, hs, rfl⟩))
    exact ⟨P, rfl, h1, fun j hj' => (hj j hj').1, fun j hj' => (hj j hj').2, of_decide_eq_true h3⟩
theorem txO_rot (k : Nat) (o : List Nat) : txO (rotO k o) = rotO k (txO o) := by
  unfold txO rotO
  simp [List.map_take, List.map_drop]
/-- The conversion of the law's text, by a name of its own. -/
def convQ : Op := .convert 9 22 (.tmp 85)
theorem convQ_eq : Op.convert 9 22 (.tmp 85) = convQ := rfl
theorem bel2 (w : World) (a b : Obj) : Below w.heap.size w ((w.alloc a).alloc b) := ((Below.refl _ w).alloc (Nat.le_refl _) _).alloc (by show w.heap.size ≤ (w.heap.push _).size; simp) _
theorem belA (w : World) (a : Obj) : Below (w.drew.heap.size + 1) (w.drew.alloc a) (w.alloc a).drew.drew := ⟨rfl, rfl, rfl, Nat.le_refl _, fun _ _ => rfl⟩
theorem belB (w : World) (z a : Obj) : Below ((w.alloc z).drew.heap.size + 1) ((w.alloc z).drew.alloc a) ((w.alloc z).alloc a).drew.drew := ⟨rfl, rfl, rfl, Nat.le_refl _, fun _ _ => rfl⟩
theorem belC (w : World) (a z : Obj) : Below (w.drew.heap.size + 1) (w.drew.alloc a) ((w.alloc a).alloc z).drew.drew :=
  ⟨rfl, rfl, rfl, by show (w.heap.push a).size ≤ ((w.heap.push a).push z).size; simp, fun k hk => Below.heap_alloc (w.alloc a) z k (by show k < (w.heap.push a).size; simp; exact hk)⟩
theorem set5bel {B b : Nat} {w0 w : World} {v0 v1 v2 v3 v4 : Value} (h : Below B w0 w) (hb : B ≤ b) : Below B w0 (((((w.setCell ⟨b, 0, none⟩ v0).setCell ⟨b, 1, none⟩ v1).setCell ⟨b, 2, none⟩ v2).setCell ⟨b, 3, none⟩ v3).setCell ⟨b, 4, none⟩ v4) :=
  ((((h.setCell (p := ⟨b, 0, none⟩) hb _).setCell (p := ⟨b, 1, none⟩) hb _).setCell (p := ⟨b, 2, none⟩) hb _).setCell (p := ⟨b, 3, none⟩) hb _).setCell (p := ⟨b, 4, none⟩) hb _
def GoodQ (w : World) (P : Nat → List Stp) (e : Ending) (w' : World) : Prop := ∃ (p : Nat → Option Addr) (c : Nat → Nat), e = .returned (.tuple #[.agg #[.slice (p 0) (nOf P 0) (c 0), .slice (p 1) (nOf P 1) (c 1), .slice (p 2) (nOf P 2) (c 2), .slice (p 3) (nOf P 3) (c 3), .slice (p 4) (nOf P 4) (c 4)], .nilIface]) ∧ Below w.heap.size w w' ∧ Hid (∀ j, j < 5 → StepsC w.heap.size w' (.slice (p j) (nOf P j) (c j)) (P j))
theorem good_q {w : World} {P : Nat → List Stp} {e : Ending} {w' : World} (h : PParR w (.ok P) e w') : GoodQ w P e w' := by
  obtain ⟨hb, vs, he, hst⟩ := h
  have h : ∀ j, ∃ pc : Option Addr × Nat, j < 5 → vs j = .slice pc.1 (P j).length pc.2 := fun j => by
    by_cases hj : j < 5
    · obtain ⟨p, c, e⟩ := (hst j hj).shape
      exact ⟨(p, c), fun _ => e⟩
    · exact ⟨(none, 0), fun h => absurd h hj⟩
  refine ⟨fun j => (h j).choose.1, fun j => (h j).choose.2, ?_, hb, Lib.hid (fun j hj => ?_)⟩
  · rw [he]
    unfold pArr
    rw [(h 0).choose_spec (by decide), (h 1).choose_spec (by decide), (h 2).choose_spec (by decide), (h 3).choose_spec (by decide), (h 4).choose_spec (by decide)]
    rfl
  · have := hst j hj
    rw [(h j).choose_spec hj] at this
    exact this
theorem set5v_blk {w : World} {b : Nat} {e : TypeId} {x0 x1 x2 x3 x4 v0 v1 v2 v3 v4 : Value} (h : w.heap[b]? = some (.cells #[x0, x1, x2, x3, x4] e (0, 0))) : (((((w.setCell ⟨b, 0, none⟩ v0).setCell ⟨b, 1, none⟩ v1).setCell ⟨b, 2, none⟩ v2).setCell ⟨b, 3, none⟩ v3).setCell ⟨b, 4, none⟩ v4).heap[b]? = some (.cells #[v0, v1, v2, v3, v4] e (0, 0)) := by
  rw [set_blk (set_blk (set_blk (set_blk (set_blk h))))]
  rfl
theorem set5v_else (w : World) (b : Nat) (v0 v1 v2 v3 v4 : Value) : ∀ j, j ≠ b → (((((w.setCell ⟨b, 0, none⟩ v0).setCell ⟨b, 1, none⟩ v1).setCell ⟨b, 2, none⟩ v2).setCell ⟨b, 3, none⟩ v3).setCell ⟨b, 4, none⟩ v4).heap[j]? = w.heap[j]? := fun j hj =>
  ((((setCell_else _ ⟨b, 4, none⟩ v4 j hj).trans (setCell_else _ ⟨b, 3, none⟩ v3 j hj)).trans (setCell_else _ ⟨b, 2, none⟩ v2 j hj)).trans (setCell_else _ ⟨b, 1, none⟩ v1 j hj)).trans (setCell_else _ ⟨b, 0, none⟩ v0 j hj)
theorem cellV {w : World} {b : Nat} {e : TypeId} {v0 v1 v2 v3 v4 : Value} (h : w.heap[b]? = some (.cells #[v0, v1, v2, v3, v4] e (0, 0))) : w.cell? ⟨b, 0, none⟩ = some v0 ∧ w.cell? ⟨b, 1, none⟩ = some v1 ∧ w.cell? ⟨b, 2, none⟩ = some v2 ∧ w.cell? ⟨b, 3, none⟩ = some v3 ∧ w.cell? ⟨b, 4, none⟩ = some v4 := by
  refine ⟨?_, ?_, ?_, ?_, ?_⟩ <;> (unfold World.cell?; rw [h]; rfl)
theorem szA (w : World) : w.drew.heap.size = w.heap.size := rfl
theorem szB (w : World) (z : Obj) : (w.alloc z).drew.heap.size = w.heap.size + 1 := by show (w.heap.push z).size = _; simp
theorem thenA {w w3 : World} {a : Obj} (h : Below (w.alloc a).drew.drew.heap.size (w.alloc a).drew.drew w3) : Below w.heap.size w w3 := (((Below.refl _ w).alloc (Nat.le_refl _) _).drew.drew).trans (h.mono (by show w.heap.size ≤ (w.heap.push a).size; simp))
theorem thenBC {w w3 : World} {a b : Obj} (h : Below ((w.alloc a).alloc b).drew.drew.heap.size ((w.alloc a).alloc b).drew.drew w3) : Below w.heap.size w w3 := (bel2 w a b).drew.drew.trans (h.mono (by show w.heap.size ≤ ((w.heap.push a).push b).size; simp; omega))
theorem zB {w w3 : World} {c : Array Value} {e : TypeId} {b : Obj} (h : Below ((w.alloc (.cells c e)).alloc b).drew.drew.heap.size ((w.alloc (.cells c e)).alloc b).drew.drew w3) : w3.heap[w.heap.size]? = some (.cells c e (0, 0)) := (h.block w.heap.size (by show w.heap.size < ((w.heap.push _).push _).size; simp; omega)).trans (heap_alloc2_old w _ _)
theorem zC {w w3 : World} {c : Array Value} {e : TypeId} {b : Obj} (h : Below ((w.alloc b).alloc (.cells c e)).drew.drew.heap.size ((w.alloc b).alloc (.cells c e)).drew.drew w3) : w3.heap[w.heap.size + 1]? = some (.cells c e (0, 0)) := (h.block (w.heap.size + 1) (by show w.heap.size + 1 < ((w.heap.push _).push _).size; simp)).trans (heap_alloc2_new w _ _)
theorem cellOf5 {w : World} {b : Nat} {e : TypeId} (h : w.heap[b]? = some (.cells #[.slice none 0 0, .slice none 0 0, .slice none 0 0, .slice none 0 0, .slice none 0 0] e (0, 0))) (j : Nat) (hj : j < 5) : w.cell? ⟨b, j, none⟩ = some (.slice none 0 0) := by
  unfold World.cell?
  rw [h]
  have hh : j = 0 ∨ j = 1 ∨ j = 2 ∨ j = 3 ∨ j = 4 := by omega
  rcases hh with rfl | rfl | rfl | rfl | rfl <;> rfl
theorem free5 {w : World} {b : Nat} {e : TypeId} {arr : Array Value} (h : w.heap[b]? = some (.cells arr e (0, 0))) (j : Nat) : w.frozen? ⟨b, j, none⟩ = false := by simp [World.frozen?, h]
/-- A slice of texts without any, of the call's own. -/
theorem own0 (w : World) : StrC w.heap.size (w.alloc (.cells #[] 9)) (.slice (some ⟨w.heap.size, 0, none⟩) 0 0) [] :=
  ⟨rfl, .inr ⟨w.heap.size, 0, #[], rfl, Nat.le_refl _, heap_alloc_new w _, Nat.le_refl _, by unfold maxLen; omega, rfl, rfl⟩⟩
theorem src_of {w : World} {g off n c : Nat} {ls : List (List UInt8)} (h : ∀ j l, ls[j]? = some l → w.cell? ⟨g, off + j, none⟩ = some (.string ⟨l.toArray⟩)) (hn : n = ls.length) : TextsIn w (.slice (some ⟨g, off, none⟩) n c) ls := by
  subst hn
  refine .inr ⟨_, c, rfl, fun j l hj => ?_⟩
  have ha : (⟨g, off, none⟩ : Addr).add j = ⟨g, off + j, none⟩ := by unfold Addr.add; split <;> simp_all
  rw [ha]
  exact h j l hj
theorem src_nil {w : World} (ad : Addr) (c : Nat) : TextsIn w (.slice (some ad) 0 c) [] := .inr ⟨ad, c, rfl, fun j l hj => by simp at hj⟩
theorem src_one (w : World) (X : ByteArray) (l : List UInt8) (h : X.data.toList = l) : TextsIn (w.alloc (.cells #[.string X] 9)) (.slice (some ⟨w.heap.size, 0, none⟩) 1 1) [l] := by
  refine src_of (off := 0) (fun j l2 hj => ?_) rfl
  have hj0 : j = 0 := by have := (List.getElem?_eq_some_iff.1 hj).1; simp at this; exact this
  subst hj0
  simp at hj
  subst hj
  have : (w.alloc (.cells #[.string X] 9)).cell? ⟨w.heap.size, 0, none⟩ = some (.string X) := by unfold World.cell?; rw [heap_alloc_new]; rfl
  rw [Nat.zero_add, this, ← h]
theorem conv_all (s : ByteArray) (hs : s.size ≤ 1000000) : ∃ (capF : World → Nat) (objF : World → Obj), (∀ w, (convert 9 22 (.string s)).run Tryd.prog w = .ok (.slice (some ⟨w.heap.size, 0, none⟩) s.size (capF w)) (w.drew.alloc (objF w))) ∧
    ∀ w V : World, Below (w.heap.size + 1) (w.alloc (objF w)) V → PG V → Calls Tryd.prog 9 #[.slice (some ⟨w.heap.size, 0, none⟩) s.size (capF w)] V (PParR V (polOf s.data.toList)) := by
  have h : ∀ w : World, ∃ co : Nat × Obj, (convert 9 22 (.string s)).run Tryd.prog w = .ok (.slice (some ⟨w.heap.size, 0, none⟩) s.size co.1) (w.drew.alloc co.2) ∧ s.size ≤ co.1 ∧ co.1 ≤ 9223372036854775807 ∧ Go.Rb.RowB 5 (w.alloc co.2) w.heap.size co.1 s.data.toList := fun w => by
    obtain ⟨cap, o, h1, h2, h3, h4⟩ := row_made (P := Tryd.prog) (src := 9) (dst := 22) s w (by unfold maxLen; omega) Tryd.underlying9 Tryd.underlying22 Tryd.underlying5
    exact ⟨(cap, o), h1, h2, h3, h4⟩
  refine ⟨fun w => (h w).choose.1, fun w => (h w).choose.2, fun w => (h w).choose_spec.1, fun w V hV hg => ?_⟩
  obtain ⟨_, h2, h3, h4⟩ := (h w).choose_spec
  have hb : BA (w.alloc (h w).choose.2) (some ⟨w.heap.size, 0, none⟩) s.size (h w).choose.1 s.data.toList := ba_row h4 h3
  have hsz : (w.alloc (h w).choose.2).heap.size = w.heap.size + 1 := by show (w.heap.push _).size = _; simp
  exact pparse_any _ _ _ _ V (hb.below hV (fun x hx => by cases hx; show w.heap.size < _; omega)) (fun x hx => by cases hx; have := hV.size; rw [hsz] at this; exact this) hs hg
theorem lst4 {ls : List (List UInt8)} (h : ls.length = 4) : ∃ a b c d, ls = [a, b, c, d] := by
  match ls, h with
  | [a, b, c, d], _ => exact ⟨a, b, c, d, rfl⟩
theorem own4 {B : Nat} {w : World} {v : Value} {a b c d : List UInt8} (h : StrC B w v [a, b, c, d]) : ∃ g cap, v = .slice (some ⟨g, 0, none⟩) 4 cap ∧ 4 ≤ cap ∧ cap ≤ 9223372036854775807 ∧ g < w.heap.size ∧ ∀ j l, [a, b, c, d][j]? = some l → w.cell? ⟨g, j, none⟩ = some (.string ⟨l.toArray⟩) := by
  obtain ⟨g, cap, hv, hlt, hw⟩ := words_at8 h (w' := w) (fun _ _ _ => rfl) (Nat.le_refl _) (by simp)
  refine ⟨g, cap, hv, ?_, ?_, hlt, fun j l hj => by have := hw j l hj; simpa using this⟩
  · rcases h.2 with ⟨_, q⟩ | ⟨g', cap', cur, q, _, _, q4, _⟩
    · cases q
    · rw [hv] at q; cases q; exact q4
  · rcases h.2 with ⟨_, q⟩ | ⟨g', cap', cur, q, _, _, q4, q5, _⟩
    · cases q
    · rw [hv] at q; cases q; unfold maxLen at q5; omega
/-- The numbers that came in, read later. -/
theorem ints_in {W : World} {a : Option Addr} {n c : Nat} (h : ∃ zs, Go.Sl.IsInts .i64 W a n c zs) : n ≤ 9223372036854775807 ∧ ∀ i, i < n → ∃ (x : Addr) (z : Int), a = some x ∧ ∀ V, Below W.heap.size W V → V.cell? (x.add i) = some (.int .i64 z) := by
  obtain ⟨zs, hz⟩ := h
  rcases hz with ⟨rfl, rfl, rfl, rfl⟩ | ⟨x, rfl, h1, h2, h3, h4, h5⟩
  · exact ⟨by omega, fun i hi => by omega⟩
  · refine ⟨by unfold maxLen at h2; omega, fun i hi => ⟨x, zs.getD i 0, rfl, fun V hV => ?_⟩⟩
    have := h4 i (by omega)
    exact (hV.cell (block_lt_of_cell this)).trans this
set_option maxHeartbeats 8000000 in
set_option maxRecDepth 100000 in
theorem policyOrder_walk (a0 : Option Addr) (n0 c0 : Nat) (W : World) (w0 : ∃ zs, Go.Sl.IsInts .i64 W a0 n0 c0 zs) (hg : PG W) :
    Calls Tryd.prog 6 #[.slice a0 n0 c0] W fun e w' => e = .returned (.bool true) ∧ Below W.heap.size W w' := by
  have HBg := Lib.hid (begun_any W hg)
  have HG := Lib.hid hg
  obtain ⟨hn0, hrd⟩ := ints_in w0
  have HRd := Lib.hid hrd
  have t5 := j_eq
  obtain ⟨T0, hT0⟩ : ∃ T0 : ByteArray, (⟨t0.toArray⟩ : ByteArray) = T0 := ⟨_, rfl⟩
  obtain ⟨T1, hT1⟩ : ∃ T1 : ByteArray, (⟨t1.toArray⟩ : ByteArray) = T1 := ⟨_, rfl⟩
  obtain ⟨T2, hT2⟩ : ∃ T2 : ByteArray, (⟨t2.toArray⟩ : ByteArray) = T2 := ⟨_, rfl⟩
  obtain ⟨T3, hT3⟩ : ∃ T3 : ByteArray, (⟨t3.toArray⟩ : ByteArray) = T3 := ⟨_, rfl⟩
  have hs0 : T0.size = 9 := by rw [← hT0]; rfl
  have hs1 : T1.size = 27 := by rw [← hT1]; rfl
  have hs2 : T2.size = 14 := by rw [← hT2]; rfl
  have hs3 : T3.size = 44 := by rw [← hT3]; rfl
  have HT : Hid (T0.data.toList = t0 ∧ T1.data.toList = t1 ∧ T2.data.toList = t2 ∧ T3.data.toList = t3) := Lib.hid ⟨by rw [← hT0], by rw [← hT1], by rw [← hT2], by rw [← hT3]⟩
  have HTe : Hid ((⟨t0.toArray⟩ : ByteArray) = T0 ∧ (⟨t1.toArray⟩ : ByteArray) = T1 ∧ (⟨t2.toArray⟩ : ByteArray) = T2 ∧ (⟨t3.toArray⟩ : ByteArray) = T3) := Lib.hid ⟨hT0, hT1, hT2, hT3⟩
  clear w0 hrd hg hT0 hT1 hT2 hT3
  go_enter Tryd.func6, Tryd.ntmps6
  go_upto_region 5 with (go_at_call 7; refine HBg.out.mono ?_; rintro e w1 ⟨rfl, hb1⟩; have HB1 := Lib.hid hb1; clear hb1)
  have hst2 : StrC w1.heap.size (w1.alloc (.cells #[.string ⟨#[104, 111, 115, 116, 115, 58, 32, 97, 10]⟩, .string ⟨#[97, 100, 100, 114, 115, 58, 32, 98, 32, 91, 78, 79, 84, 70, 79, 85, 78, 68, 61, 114, 101, 116, 117, 114, 110, 93, 10]⟩, .string ⟨#[115, 101, 114, 118, 105, 99, 101, 115, 58, 32, 99, 32, 100, 10]⟩, .string ⟨#[112, 111, 114, 116, 115, 58, 32, 101, 32, 91, 83, 85, 67, 67, 69, 83, 83, 61, 99, 111, 110, 116, 105, 110, 117, 101, 32, 84, 82, 89, 65, 71, 65, 73, 78, 61, 114, 101, 116, 117, 114, 110, 93, 10]⟩] 9)) (.slice (some ⟨w1.heap.size, 0, none⟩) 4 4) (txO [0, 1, 2, 3]) :=
    ⟨rfl, .inr ⟨w1.heap.size, 4, _, rfl, Nat.le_refl _, heap_alloc_new w1 _, Nat.le_refl _, by unfold maxLen; omega, rfl, rfl⟩⟩
  have hb2 : Below w1.heap.size w1 (w1.alloc (.cells #[.string ⟨#[104, 111, 115, 116, 115, 58, 32, 97, 10]⟩, .string ⟨#[97, 100, 100, 114, 115, 58, 32, 98, 32, 91, 78, 79, 84, 70, 79, 85, 78, 68, 61, 114, 101, 116, 117, 114, 110, 93, 10]⟩, .string ⟨#[115, 101, 114, 118, 105, 99, 101, 115, 58, 32, 99, 32, 100, 10]⟩, .string ⟨#[112, 111, 114, 116, 115, 58, 32, 101, 32, 91, 83, 85, 67, 67, 69, 83, 83, 61, 99, 111, 110, 116, 105, 110, 117, 101, 32, 84, 82, 89, 65, 71, 65, 73, 78, 61, 114, 101, 116, 117, 114, 110, 93, 10]⟩] 9)) := (Below.refl _ _).alloc (Nat.le_refl _) _
  have hh2 : (w1.alloc (.cells #[.string ⟨#[104, 111, 115, 116, 115, 58, 32, 97, 10]⟩, .string ⟨#[97, 100, 100, 114, 115, 58, 32, 98, 32, 91, 78, 79, 84, 70, 79, 85, 78, 68, 61, 114, 101, 116, 117, 114, 110, 93, 10]⟩, .string ⟨#[115, 101, 114, 118, 105, 99, 101, 115, 58, 32, 99, 32, 100, 10]⟩, .string ⟨#[112, 111, 114, 116, 115, 58, 32, 101, 32, 91, 83, 85, 67, 67, 69, 83, 83, 61, 99, 111, 110, 116, 105, 110, 117, 101, 32, 84, 82, 89, 65, 71, 65, 73, 78, 61, 114, 101, 116, 117, 114, 110, 93, 10]⟩] 9)).heap[w1.heap.size]? = some (.cells (rowV [t0, t1, t2, t3]) 9 (0, 0)) := heap_alloc_new w1 _
  generalize (w1.alloc (.cells #[.string ⟨#[104, 111, 115, 116, 115, 58, 32, 97, 10]⟩, .string ⟨#[97, 100, 100, 114, 115, 58, 32, 98, 32, 91, 78, 79, 84, 70, 79, 85, 78, 68, 61, 114, 101, 116, 117, 114, 110, 93, 10]⟩, .string ⟨#[115, 101, 114, 118, 105, 99, 101, 115, 58, 32, 99, 32, 100, 10]⟩, .string ⟨#[112, 111, 114, 116, 115, 58, 32, 101, 32, 91, 83, 85, 67, 67, 69, 83, 83, 61, 99, 111, 110, 116, 105, 110, 117, 101, 32, 84, 82, 89, 65, 71, 65, 73, 78, 61, 114, 101, 116, 117, 114, 110, 93, 10]⟩] 9)) = w2 at *
  have k0 : w2.cell? ⟨w1.heap.size, 0, none⟩ = some (.string T0) := by rw [← HTe.out.1]; unfold World.cell?; rw [hh2]; rfl
  have k1 : w2.cell? ⟨w1.heap.size, 1, none⟩ = some (.string T1) := by rw [← HTe.out.2.1]; unfold World.cell?; rw [hh2]; rfl
  have k2 : w2.cell? ⟨w1.heap.size, 2, none⟩ = some (.string T2) := by rw [← HTe.out.2.2.1]; unfold World.cell?; rw [hh2]; rfl
  have k3 : w2.cell? ⟨w1.heap.size, 3, none⟩ = some (.string T3) := by rw [← HTe.out.2.2.2]; unfold World.cell?; rw [hh2]; rfl
  have q1 : ¬ 9223372036854775807 < T0.size + T1.size := by omega
  have q2 : ¬ 9223372036854775807 < T0.size + T1.size + T2.size := by omega
  have q3 : ¬ 9223372036854775807 < T0.size + T1.size + T2.size + T3.size := by omega
  have HS2 : Hid (StrC W.heap.size w2 (.slice (some ⟨w1.heap.size, 0, none⟩) 4 4) (txO [0, 1, 2, 3])) := Lib.hid (own_base hst2 HB1.out.size)
  have HB2 : Hid (Below W.heap.size W w2) := Lib.hid (HB1.out.trans (hb2.mono HB1.out.size))
  have HSz : Hid (T0.size = 9 ∧ T1.size = 27 ∧ T2.size = 14 ∧ T3.size = 44) := Lib.hid ⟨hs0, hs1, hs2, hs3⟩
  clear hst2 hb2 hh2 hs0 hs1 hs2 hs3
  go_quiet (fail)
  go_wp2
  clear k0 k1 k2 k3 q1 q2 q3
  have HS3 : Hid (StrC W.heap.size (w2.drewN nq) (.slice (some ⟨w1.heap.size, 0, none⟩) 4 4) (txO [0, 1, 2, 3])) := Lib.hid HS2.out
  have HB3 : Hid (Below W.heap.size W (w2.drewN nq)) := Lib.hid (bel_drewN9 HB2.out nq)
  generalize (w2.drewN nq) = w3 at *
  obtain ⟨Wt, hWt⟩ : ∃ Wt : ByteArray, T0 ++ T1 ++ T2 ++ T3 = Wt := ⟨_, rfl⟩
  have HWt : Hid (Wt.data.toList = t0 ++ t1 ++ t2 ++ t3) := Lib.hid (by rw [← hWt, ← HT.out.1, ← HT.out.2.1, ← HT.out.2.2.1, ← HT.out.2.2.2]; simp)
  rw [hWt]
  clear hWt
  go_loopw [4, 6] (fun lv iv wr => ∃ (i : Nat) (o : List Nat), i ≤ 6 ∧ i ≤ n0 ∧ iv = .int .i64 i ∧ o ∈ orders ∧ StrC W.heap.size wr lv (txO o) ∧ Below W.heap.size W wr) (fun _ iv _ => 6 - (intOf iv).toNat)
  case atStart => exact ⟨0, [0, 1, 2, 3], by decide, Nat.zero_le _, rfl, by decide, HS3.out, HB3.out⟩
  case round =>
    obtain ⟨i, o, hi6, hin, rfl, ho, hS, hB⟩ := hrel
    obtain ⟨a, b, c, d, hls⟩ := lst4 (show (txO o).length = 4 by unfold txO; rw [List.length_map]; exact order_len ho)
    rw [hls] at hS
    obtain ⟨g, cap, rfl, hcap, hcm, hgl, hcells⟩ := own4 hS
    have HS := Lib.hid hS
    have HB := Lib.hid hB
    have HO := Lib.hid ho
    have HLs := Lib.hid hls
    have HCells := Lib.hid hcells
    have hsB := hB.size
    have k0 : wr.cell? ⟨g, 0, none⟩ = some (.string ⟨a.toArray⟩) := hcells 0 a rfl
    have k1 : wr.cell? ⟨g, 1, none⟩ = some (.string ⟨b.toArray⟩) := hcells 1 b rfl
    have k2 : wr.cell? ⟨g, 2, none⟩ = some (.string ⟨c.toArray⟩) := hcells 2 c rfl
    have k3 : wr.cell? ⟨g, 3, none⟩ = some (.string ⟨d.toArray⟩) := hcells 3 d rfl
    clear hS hB ho hls hcells
    by_cases hgo : i < n0 ∧ i < 6
    · obtain ⟨hl1, hl2⟩ := hgo
      obtain ⟨x, z, rfl, hzc⟩ := HRd.out i hl1
      have hz := hzc wr HB.out
      have e1 : (i : Int) < (n0 : Int) := by omega
      have e2 : (i : Int) < 6 := by omega
      have e3 : (0 : Int) ≤ (i : Int) := by omega
      clear hzc
      have hzk : z < 0 ∨ 3 < z ∨ z = 0 ∨ z = 1 ∨ z = 2 ∨ z = 3 := by omega
      rcases hzk with hzk | hzk | rfl | rfl | rfl | rfl
      · have hb0 : Below wr.heap.size wr (wr.alloc (.cells #[] 9)) := (Below.refl _ _).alloc (Nat.le_refl _) _
        have HSr1 : Hid (TextsIn (wr.alloc (.cells #[] 9)) (.slice (some ⟨g, 0, none⟩) 0 cap) []) := Lib.hid (src_nil _ _)
        clear hb0
        go_upto_region 14 with (at_builtin; refine wpList_append_texts rfl _ _ rfl (B := wr.heap.size) rfl rfl (own0 wr) HSr1.out (by simp) (by show wr.heap.size ≤ (wr.heap.push _).size; simp) ?_; intro v4 w4 hown hb; have HO4 := Lib.hid hown; have HB4 := Lib.hid hb; clear hown hb)
        have HB4r : Hid (Below wr.heap.size wr w4) := Lib.hid (((Below.refl _ _).alloc (Nat.le_refl _) _).trans HB4.out)
        have HSr2 : Hid (TextsIn w4 (.slice (some ⟨g, 1, none⟩) 3 (cap - 1)) [b, c, d]) := Lib.hid (src_of (fun j l hj => (HB4r.out.cell (p := ⟨g, 1 + j, none⟩) hgl).trans (HCells.out (1 + j) l (by rw [← List.getElem?_drop]; exact hj))) rfl)
        have hz4 : wr.heap.size ≤ w4.heap.size := HB4r.out.size
        go_upto_region 15 with (at_builtin; refine wpList_append_texts rfl _ _ rfl (B := wr.heap.size) rfl rfl HO4.out HSr2.out (by simp) (by exact hz4) ?_; intro v5 w5 hown hb; have HO5 := Lib.hid hown; have HB5 := Lib.hid hb; clear hown hb)
        have hz5 : wr.heap.size ≤ w5.heap.size := Nat.le_trans hz4 HB5.out.size
        go_wp2_with (at_builtin; refine wpList_append_texts rfl _ _ rfl (B := wr.heap.size) rfl rfl (World.ownsRow.alloc HO5.out _) (src_one w5 ⟨a.toArray⟩ a (by simp)) (by simp) (by show wr.heap.size ≤ (w5.heap.push _).size; simp; omega) ?_; intro v6 w6 hown hb; have HO6 := Lib.hid hown; have HB6 := Lib.hid hb; clear hown hb)
        go_roundw
        case rel => exact ⟨i + 1, rotO 0 o, by omega, by omega, by go_num, order_rot HO.out 0 (by decide), by rw [txO_rot, HLs.out]; exact own_base HO6.out hsB, HB.out.trans (((HB4r.out.trans HB5.out).trans ((((Below.refl _ w5).alloc (Nat.le_refl _) _).mono hz5).trans HB6.out)).mono hsB)⟩
        case measure => simp [intOf]; omega
      · have hz0 : ¬ z < 0 := by omega
        have hb0 : Below wr.heap.size wr (wr.alloc (.cells #[] 9)) := (Below.refl _ _).alloc (Nat.le_refl _) _
        have HSr1 : Hid (TextsIn (wr.alloc (.cells #[] 9)) (.slice (some ⟨g, 0, none⟩) 0 cap) []) := Lib.hid (src_nil _ _)
        clear hb0
        go_upto_region 14 with (at_builtin; refine wpList_append_texts rfl _ _ rfl (B := wr.heap.size) rfl rfl (own0 wr) HSr1.out (by simp) (by show wr.heap.size ≤ (wr.heap.push _).size; simp) ?_; intro v4 w4 hown hb; have HO4 := Lib.hid hown; have HB4 := Lib.hid hb; clear hown hb)
        have HB4r : Hid (Below wr.heap.size wr w4) := Lib.hid (((Below.refl _ _).alloc (Nat.le_refl _) _).trans HB4.out)
        have HSr2 : Hid (TextsIn w4 (.slice (some ⟨g, 1, none⟩) 3 (cap - 1)) [b, c, d]) := Lib.hid (src_of (fun j l hj => (HB4r.out.cell (p := ⟨g, 1 + j, none⟩) hgl).trans (HCells.out (1 + j) l (by rw [← List.getElem?_drop]; exact hj))) rfl)
        have hz4 : wr.heap.size ≤ w4.heap.size := HB4r.out.size
        go_upto_region 15 with (at_builtin; refine wpList_append_texts rfl _ _ rfl (B := wr.heap.size) rfl rfl HO4.out HSr2.out (by simp) (by exact hz4) ?_; intro v5 w5 hown hb; have HO5 := Lib.hid hown; have HB5 := Lib.hid hb; clear hown hb)
        have hz5 : wr.heap.size ≤ w5.heap.size := Nat.le_trans hz4 HB5.out.size
        go_wp2_with (at_builtin; refine wpList_append_texts rfl _ _ rfl (B := wr.heap.size) rfl rfl (World.ownsRow.alloc HO5.out _) (src_one w5 ⟨a.toArray⟩ a (by simp)) (by simp) (by show wr.heap.size ≤ (w5.heap.push _).size; simp; omega) ?_; intro v6 w6 hown hb; have HO6 := Lib.hid hown; have HB6 := Lib.hid hb; clear hown hb)
        go_roundw
        case rel => exact ⟨i + 1, rotO 0 o, by omega, by omega, by go_num, order_rot HO.out 0 (by decide), by rw [txO_rot, HLs.out]; exact own_base HO6.out hsB, HB.out.trans (((HB4r.out.trans HB5.out).trans ((((Below.refl _ w5).alloc (Nat.le_refl _) _).mono hz5).trans HB6.out)).mono hsB)⟩
        case measure => simp [intOf]; omega
      · have hb0 : Below wr.heap.size wr (wr.alloc (.cells #[] 9)) := (Below.refl _ _).alloc (Nat.le_refl _) _
        have HSr1 : Hid (TextsIn (wr.alloc (.cells #[] 9)) (.slice (some ⟨g, 0, none⟩) 0 cap) []) := Lib.hid (src_nil _ _)
        clear hb0
        go_upto_region 14 with (at_builtin; refine wpList_append_texts rfl _ _ rfl (B := wr.heap.size) rfl rfl (own0 wr) HSr1.out (by simp) (by show wr.heap.size ≤ (wr.heap.push _).size; simp) ?_; intro v4 w4 hown hb; have HO4 := Lib.hid hown; have HB4 := Lib.hid hb; clear hown hb)
        have HB4r : Hid (Below wr.heap.size wr w4) := Lib.hid (((Below.refl _ _).alloc (Nat.le_refl _) _).trans HB4.out)
        have HSr2 : Hid (TextsIn w4 (.slice (some ⟨g, 1, none⟩) 3 (cap - 1)) [b, c, d]) := Lib.hid (src_of (fun j l hj => (HB4r.out.cell (p := ⟨g, 1 + j, none⟩) hgl).trans (HCells.out (1 + j) l (by rw [← List.getElem?_drop]; exact hj))) rfl)
        have hz4 : wr.heap.size ≤ w4.heap.size := HB4r.out.size
        go_upto_region 15 with (at_builtin; refine wpList_append_texts rfl _ _ rfl (B := wr.heap.size) rfl rfl HO4.out HSr2.out (by simp) (by exact hz4) ?_; intro v5 w5 hown hb; have HO5 := Lib.hid hown; have HB5 := Lib.hid hb; clear hown hb)
        have hz5 : wr.heap.size ≤ w5.heap.size := Nat.le_trans hz4 HB5.out.size
        go_wp2_with (at_builtin; refine wpList_append_texts rfl _ _ rfl (B := wr.heap.size) rfl rfl (World.ownsRow.alloc HO5.out _) (src_one w5 ⟨a.toArray⟩ a (by simp)) (by simp) (by show wr.heap.size ≤ (w5.heap.push _).size; simp; omega) ?_; intro v6 w6 hown hb; have HO6 := Lib.hid hown; have HB6 := Lib.hid hb; clear hown hb)
        go_roundw
        case rel => exact ⟨i + 1, rotO 0 o, by omega, by omega, by go_num, order_rot HO.out 0 (by decide), by rw [txO_rot, HLs.out]; exact own_base HO6.out hsB, HB.out.trans (((HB4r.out.trans HB5.out).trans ((((Below.refl _ w5).alloc (Nat.le_refl _) _).mono hz5).trans HB6.out)).mono hsB)⟩
        case measure => simp [intOf]; omega
      · have hb0 : Below wr.heap.size wr (wr.alloc (.cells #[] 9)) := (Below.refl _ _).alloc (Nat.le_refl _) _
        have HSr1 : Hid (TextsIn (wr.alloc (.cells #[] 9)) (.slice (some ⟨g, 0, none⟩) 1 cap) [a]) := Lib.hid (src_of (off := 0) (fun j l hj => (hb0.cell (p := ⟨g, 0 + j, none⟩) hgl).trans (by rw [Nat.zero_add]; exact HCells.out j l (by rw [← List.take_append_drop 1 [a, b, c, d], List.getElem?_append_left (by have := (List.getElem?_eq_some_iff.1 hj).1; simpa using this)]; exact hj))) rfl)
        clear hb0
        go_upto_region 14 with (at_builtin; refine wpList_append_texts rfl _ _ rfl (B := wr.heap.size) rfl rfl (own0 wr) HSr1.out (by simp) (by show wr.heap.size ≤ (wr.heap.push _).size; simp) ?_; intro v4 w4 hown hb; have HO4 := Lib.hid hown; have HB4 := Lib.hid hb; clear hown hb)
        have HB4r : Hid (Below wr.heap.size wr w4) := Lib.hid (((Below.refl _ _).alloc (Nat.le_refl _) _).trans HB4.out)
        have HSr2 : Hid (TextsIn w4 (.slice (some ⟨g, 2, none⟩) 2 (cap - 2)) [c, d]) := Lib.hid (src_of (fun j l hj => (HB4r.out.cell (p := ⟨g, 2 + j, none⟩) hgl).trans (HCells.out (2 + j) l (by rw [← List.getElem?_drop]; exact hj))) rfl)
        have hz4 : wr.heap.size ≤ w4.heap.size := HB4r.out.size
        go_upto_region 15 with (at_builtin; refine wpList_append_texts rfl _ _ rfl (B := wr.heap.size) rfl rfl HO4.out HSr2.out (by simp) (by exact hz4) ?_; intro v5 w5 hown hb; have HO5 := Lib.hid hown; have HB5 := Lib.hid hb; clear hown hb)
        have hz5 : wr.heap.size ≤ w5.heap.size := Nat.le_trans hz4 HB5.out.size
        go_wp2_with (at_builtin; refine wpList_append_texts rfl _ _ rfl (B := wr.heap.size) rfl rfl (World.ownsRow.alloc HO5.out _) (src_one w5 ⟨b.toArray⟩ b (by simp)) (by simp) (by show wr.heap.size ≤ (w5.heap.push _).size; simp; omega) ?_; intro v6 w6 hown hb; have HO6 := Lib.hid hown; have HB6 := Lib.hid hb; clear hown hb)
        go_roundw
        case rel => exact ⟨i + 1, rotO 1 o, by omega, by omega, by go_num, order_rot HO.out 1 (by decide), by rw [txO_rot, HLs.out]; exact own_base HO6.out hsB, HB.out.trans (((HB4r.out.trans HB5.out).trans ((((Below.refl _ w5).alloc (Nat.le_refl _) _).mono hz5).trans HB6.out)).mono hsB)⟩
        case measure => simp [intOf]; omega
      · have hb0 : Below wr.heap.size wr (wr.alloc (.cells #[] 9)) := (Below.refl _ _).alloc (Nat.le_refl _) _
        have HSr1 : Hid (TextsIn (wr.alloc (.cells #[] 9)) (.slice (some ⟨g, 0, none⟩) 2 cap) [a, b]) := Lib.hid (src_of (off := 0) (fun j l hj => (hb0.cell (p := ⟨g, 0 + j, none⟩) hgl).trans (by rw [Nat.zero_add]; exact HCells.out j l (by rw [← List.take_append_drop 2 [a, b, c, d], List.getElem?_append_left (by have := (List.getElem?_eq_some_iff.1 hj).1; simpa using this)]; exact hj))) rfl)
        clear hb0
        go_upto_region 14 with (at_builtin; refine wpList_append_texts rfl _ _ rfl (B := wr.heap.size) rfl rfl (own0 wr) HSr1.out (by simp) (by show wr.heap.size ≤ (wr.heap.push _).size; simp) ?_; intro v4 w4 hown hb; have HO4 := Lib.hid hown; have HB4 := Lib.hid hb; clear hown hb)
        have HB4r : Hid (Below wr.heap.size wr w4) := Lib.hid (((Below.refl _ _).alloc (Nat.le_refl _) _).trans HB4.out)
        have HSr2 : Hid (TextsIn w4 (.slice (some ⟨g, 3, none⟩) 1 (cap - 3)) [d]) := Lib.hid (src_of (fun j l hj => (HB4r.out.cell (p := ⟨g, 3 + j, none⟩) hgl).trans (HCells.out (3 + j) l (by rw [← List.getElem?_drop]; exact hj))) rfl)
        have hz4 : wr.heap.size ≤ w4.heap.size := HB4r.out.size
        go_upto_region 15 with (at_builtin; refine wpList_append_texts rfl _ _ rfl (B := wr.heap.size) rfl rfl HO4.out HSr2.out (by simp) (by exact hz4) ?_; intro v5 w5 hown hb; have HO5 := Lib.hid hown; have HB5 := Lib.hid hb; clear hown hb)
        have hz5 : wr.heap.size ≤ w5.heap.size := Nat.le_trans hz4 HB5.out.size
        go_wp2_with (at_builtin; refine wpList_append_texts rfl _ _ rfl (B := wr.heap.size) rfl rfl (World.ownsRow.alloc HO5.out _) (src_one w5 ⟨c.toArray⟩ c (by simp)) (by simp) (by show wr.heap.size ≤ (w5.heap.push _).size; simp; omega) ?_; intro v6 w6 hown hb; have HO6 := Lib.hid hown; have HB6 := Lib.hid hb; clear hown hb)
        go_roundw
        case rel => exact ⟨i + 1, rotO 2 o, by omega, by omega, by go_num, order_rot HO.out 2 (by decide), by rw [txO_rot, HLs.out]; exact own_base HO6.out hsB, HB.out.trans (((HB4r.out.trans HB5.out).trans ((((Below.refl _ w5).alloc (Nat.le_refl _) _).mono hz5).trans HB6.out)).mono hsB)⟩
        case measure => simp [intOf]; omega
      · have hb0 : Below wr.heap.size wr (wr.alloc (.cells #[] 9)) := (Below.refl _ _).alloc (Nat.le_refl _) _
        have HSr1 : Hid (TextsIn (wr.alloc (.cells #[] 9)) (.slice (some ⟨g, 0, none⟩) 3 cap) [a, b, c]) := Lib.hid (src_of (off := 0) (fun j l hj => (hb0.cell (p := ⟨g, 0 + j, none⟩) hgl).trans (by rw [Nat.zero_add]; exact HCells.out j l (by rw [← List.take_append_drop 3 [a, b, c, d], List.getElem?_append_left (by have := (List.getElem?_eq_some_iff.1 hj).1; simpa using this)]; exact hj))) rfl)
        clear hb0
        go_upto_region 14 with (at_builtin; refine wpList_append_texts rfl _ _ rfl (B := wr.heap.size) rfl rfl (own0 wr) HSr1.out (by simp) (by show wr.heap.size ≤ (wr.heap.push _).size; simp) ?_; intro v4 w4 hown hb; have HO4 := Lib.hid hown; have HB4 := Lib.hid hb; clear hown hb)
        have HB4r : Hid (Below wr.heap.size wr w4) := Lib.hid (((Below.refl _ _).alloc (Nat.le_refl _) _).trans HB4.out)
        have hz4 : wr.heap.size ≤ w4.heap.size := HB4r.out.size
        by_cases hc4 : cap = 4
        · subst hc4
          go_upto_region 15 with (at_builtin; refine wpList_append_texts rfl _ _ rfl (B := wr.heap.size) rfl rfl HO4.out (src_nil _ _) (by simp) (by exact hz4) ?_; intro v5 w5 hown hb; have HO5 := Lib.hid hown; have HB5 := Lib.hid hb; clear hown hb)
          have hz5 : wr.heap.size ≤ w5.heap.size := Nat.le_trans hz4 HB5.out.size
          go_wp2_with (at_builtin; refine wpList_append_texts rfl _ _ rfl (B := wr.heap.size) rfl rfl (World.ownsRow.alloc HO5.out _) (src_one w5 ⟨d.toArray⟩ d (by simp)) (by simp) (by show wr.heap.size ≤ (w5.heap.push _).size; simp; omega) ?_; intro v6 w6 hown hb; have HO6 := Lib.hid hown; have HB6 := Lib.hid hb; clear hown hb)
          go_roundw
          case rel => exact ⟨i + 1, rotO 3 o, by omega, by omega, by go_num, order_rot HO.out 3 (by decide), by rw [txO_rot, HLs.out]; exact own_base HO6.out hsB, HB.out.trans (((HB4r.out.trans HB5.out).trans ((((Below.refl _ w5).alloc (Nat.le_refl _) _).mono hz5).trans HB6.out)).mono hsB)⟩
          case measure => simp [intOf]; omega
        · have hc5 : ¬ (4 : Nat) = cap := fun e => hc4 e.symm
          go_upto_region 15 with (at_builtin; refine wpList_append_texts rfl _ _ rfl (B := wr.heap.size) rfl rfl HO4.out (src_nil _ _) (by simp) (by exact hz4) ?_; intro v5 w5 hown hb; have HO5 := Lib.hid hown; have HB5 := Lib.hid hb; clear hown hb)
          have hz5 : wr.heap.size ≤ w5.heap.size := Nat.le_trans hz4 HB5.out.size
          go_wp2_with (at_builtin; refine wpList_append_texts rfl _ _ rfl (B := wr.heap.size) rfl rfl (World.ownsRow.alloc HO5.out _) (src_one w5 ⟨d.toArray⟩ d (by simp)) (by simp) (by show wr.heap.size ≤ (w5.heap.push _).size; simp; omega) ?_; intro v6 w6 hown hb; have HO6 := Lib.hid hown; have HB6 := Lib.hid hb; clear hown hb)
          go_roundw
          case rel => exact ⟨i + 1, rotO 3 o, by omega, by omega, by go_num, order_rot HO.out 3 (by decide), by rw [txO_rot, HLs.out]; exact own_base HO6.out hsB, HB.out.trans (((HB4r.out.trans HB5.out).trans ((((Below.refl _ w5).alloc (Nat.le_refl _) _).mono hz5).trans HB6.out)).mono hsB)⟩
          case measure => simp [intOf]; omega
    · have hsel : ¬ ((i : Int) < (n0 : Int)) ∨ ((i : Int) < (n0 : Int) ∧ ¬ ((i : Int) < 6)) := by omega
      obtain ⟨P, hP, hpr, hl8, hl16, hlen⟩ := order_ok HO.out
      rw [HLs.out] at hP hlen
      obtain ⟨Ba, hBa⟩ : ∃ B : ByteArray, (⟨a.toArray⟩ : ByteArray) = B := ⟨_, rfl⟩
      obtain ⟨Bb, hBb⟩ : ∃ B : ByteArray, (⟨b.toArray⟩ : ByteArray) = B := ⟨_, rfl⟩
      obtain ⟨Bc, hBc⟩ : ∃ B : ByteArray, (⟨c.toArray⟩ : ByteArray) = B := ⟨_, rfl⟩
      obtain ⟨Bd, hBd⟩ : ∃ B : ByteArray, (⟨d.toArray⟩ : ByteArray) = B := ⟨_, rfl⟩
      have hda : Ba.data.toList = a := by rw [← hBa]
      have hdb : Bb.data.toList = b := by rw [← hBb]
      have hdc : Bc.data.toList = c := by rw [← hBc]
      have hdd : Bd.data.toList = d := by rw [← hBd]
      have hsa : a.length = Ba.size := by rw [← hda]; rfl
      have hsb : b.length = Bb.size := by rw [← hdb]; rfl
      have hsc : c.length = Bc.size := by rw [← hdc]; rfl
      have hsd : d.length = Bd.size := by rw [← hdd]; rfl
      rw [hBa] at k0
      rw [hBb] at k1
      rw [hBc] at k2
      rw [hBd] at k3
      simp only [List.flatten_cons, List.flatten_nil, List.append_nil, List.length_append] at hlen
      have q1 : ¬ 9223372036854775807 < Ba.size + Bb.size := by omega
      have q2 : ¬ 9223372036854775807 < Ba.size + Bb.size + Bc.size := by omega
      have q3 : ¬ 9223372036854775807 < Ba.size + Bb.size + Bc.size + Bd.size := by omega
      obtain ⟨Sx, hSx⟩ : ∃ Sx : ByteArray, Ba ++ Bb ++ Bc ++ Bd = Sx := ⟨_, rfl⟩
      have hSd : Sx.data.toList = [a, b, c, d].flatten := by rw [← hSx, ← hda, ← hdb, ← hdc, ← hdd]; simp
      have hSs : Sx.size ≤ 1000000 := by rw [← hSx]; simp only [ByteArray.size_append]; omega
      obtain ⟨capF, objF, hcv, hpa⟩ := conv_all Sx hSs
      rw [hSd, hP] at hpa
      have HPa : Hid (∀ (V V' : World) (s0 : Nat), Below W.heap.size W V → V.heap.size = s0 → Below (V.heap.size + 1) (V.alloc (objF V)) V' → Calls Tryd.prog 9 #[.slice (some ⟨s0, 0, none⟩) Sx.size (capF V)] V' (GoodQ V' P)) := Lib.hid (fun V V' s0 h1 h2 h3 => by
        subst h2
        exact (hpa V V' h3 (HG.out.below (h1.trans ((((Below.refl _ _).alloc (Nat.le_refl _) _).trans (h3.mono (Nat.le_succ _))).mono h1.size)))).mono fun e w' h => good_q h)
      have HSx : Hid (∀ V, Below wr.heap.size wr V → V.cell? ⟨g, 0, none⟩ = some (.string Ba) ∧ V.cell? ⟨g, 1, none⟩ = some (.string Bb) ∧ V.cell? ⟨g, 2, none⟩ = some (.string Bc) ∧ V.cell? ⟨g, 3, none⟩ = some (.string Bd)) := Lib.hid (fun V hV => ⟨(hV.cell (p := ⟨g, 0, none⟩) hgl).trans k0, (hV.cell (p := ⟨g, 1, none⟩) hgl).trans k1, (hV.cell (p := ⟨g, 2, none⟩) hgl).trans k2, (hV.cell (p := ⟨g, 3, none⟩) hgl).trans k3⟩)
      have HPl : Hid (printP P = t0 ++ t1 ++ t2 ++ t3 ∧ (∀ j, j < 5 → (P j).length ≤ 8) ∧ (∀ j, j < 5 → ∀ s ∈ P j, s.src.length ≤ 16)) := Lib.hid ⟨hpr, hl8, hl16⟩
      have hw16 : wr.heap.size < wr.heap.size + 1 := by omega
      clear hpa hP hpr hl8 hl16 hlen hBa hBb hBc hBd hda hdb hdc hdd hsa hsb hsc hsd hSd hSs hgo
      rcases hsel with hsel | ⟨hsel, hsel2⟩
      · go_upto_region 16 with (fail)
        rw [convQ_eq]
        have hco := convQ_eq.symm
        go_region_held3 (fun V => V.cell? ⟨g, 0, none⟩ = some (.string Ba) ∧ V.cell? ⟨g, 1, none⟩ = some (.string Bb) ∧ V.cell? ⟨g, 2, none⟩ = some (.string Bc) ∧ V.cell? ⟨g, 3, none⟩ = some (.string Bd)) (first | with_reducible exact HSx.out _ (set5bel HBw3.out (Nat.le_refl _)) | with_reducible exact HSx.out _ (set5bel HBw3.out (Nat.le_succ _)) | with_reducible exact HSx.out _ (set5bel HBw3.out (Nat.le_refl _)).drew | with_reducible exact HSx.out _ (set5bel HBw3.out (Nat.le_succ _)).drew | with_reducible exact HSx.out _ (set5bel (HBw3.out.alloc HBw3.out.size _) HBw3.out.size) | with_reducible exact HSx.out _ (bel2 _ _ _).drew.drew | with_reducible exact HSx.out _ (bel2 _ _ _).drew | with_reducible exact HSx.out _ (bel2 _ _ _) | with_reducible exact HSx.out _ HBw3.out | with_reducible exact HSx.out _ (HBw3.out.alloc HBw3.out.size _) | with_reducible exact HSx.out _ (Below.refl _ _) | with_reducible exact HSx.out _ (Below.refl _ _).drew | with_reducible exact HSx.out _ ((Below.refl _ _).alloc (Nat.le_refl _) _) | with_reducible exact HSx.out _ ((Below.refl _ _).drew.alloc (Nat.le_refl _) _) | with_reducible exact HSx.out _ ((Below.refl _ _).alloc (Nat.le_refl _) _).drew.drew | with_reducible exact HSx.out _ ((Below.refl _ _).alloc (Nat.le_refl _) _).drew) (((go_at_call 9; refine (HPa.out _ _ _ (by first | with_reducible exact HB.out.drew | with_reducible exact (HB.out.alloc HB.out.size _).drew) (by first | with_reducible exact szA _ | with_reducible exact szB _ _) (by first | with_reducible exact belA _ _ | with_reducible exact belB _ _ _ | with_reducible exact belC _ _ _)).mono ?_; rintro e w3 ⟨pp, cc, rfl, hb3, hs3⟩; have hbw3 : Below wr.heap.size wr w3 := (by first | with_reducible exact thenA hb3 | with_reducible exact thenBC hb3); have HBw3 := Lib.hid hbw3; (first | (have hz3 : w3.heap[wr.heap.size]? = some (.cells #[.slice none 0 0, .slice none 0 0, .slice none 0 0, .slice none 0 0, .slice none 0 0] 28 (0, 0)) := (by with_reducible exact zB hb3); have HZ3 := Lib.hid hz3; have r0 := cellOf5 hz3 0 (by decide); have r1 := cellOf5 hz3 1 (by decide); have r2 := cellOf5 hz3 2 (by decide); have r3 := cellOf5 hz3 3 (by decide); have r4 := cellOf5 hz3 4 (by decide); have f0 := free5 hz3 0; have f1 := free5 hz3 1; have f2 := free5 hz3 2; have f3 := free5 hz3 3; have f4 := free5 hz3 4; clear hz3) | (have hz3 : w3.heap[wr.heap.size + 1]? = some (.cells #[.slice none 0 0, .slice none 0 0, .slice none 0 0, .slice none 0 0, .slice none 0 0] 28 (0, 0)) := (by with_reducible exact zC hb3); have HZ3 := Lib.hid hz3; have r0 := cellOf5 hz3 0 (by decide); have r1 := cellOf5 hz3 1 (by decide); have r2 := cellOf5 hz3 2 (by decide); have r3 := cellOf5 hz3 3 (by decide); have r4 := cellOf5 hz3 4 (by decide); have f0 := free5 hz3 0; have f1 := free5 hz3 1; have f2 := free5 hz3 2; have f3 := free5 hz3 3; have f4 := free5 hz3 4; clear hz3) | skip); clear hb3 hbw3)))
        · have hhV : (w3.alloc (.cells #[.slice (pp 0) (nOf P 0) (cc 0), .slice (pp 1) (nOf P 1) (cc 1), .slice (pp 2) (nOf P 2) (cc 2), .slice (pp 3) (nOf P 3) (cc 3), .slice (pp 4) (nOf P 4) (cc 4)] 28)).heap[w3.heap.size]? = some (.cells #[.slice (pp 0) (nOf P 0) (cc 0), .slice (pp 1) (nOf P 1) (cc 1), .slice (pp 2) (nOf P 2) (cc 2), .slice (pp 3) (nOf P 3) (cc 3), .slice (pp 4) (nOf P 4) (cc 4)] 28 (0, 0)) := heap_alloc_new w3 _
          have hbV : Below W.heap.size W (w3.alloc (.cells #[.slice (pp 0) (nOf P 0) (cc 0), .slice (pp 1) (nOf P 1) (cc 1), .slice (pp 2) (nOf P 2) (cc 2), .slice (pp 3) (nOf P 3) (cc 3), .slice (pp 4) (nOf P 4) (cc 4)] 28)) := (HB.out.trans (HBw3.out.mono HB.out.size)).trans (((Below.refl _ _).alloc (Nat.le_refl _) _).mono (Nat.le_trans HB.out.size HBw3.out.size))
          have hsV : ∀ j, j < 5 → StepsC 0 (w3.alloc (.cells #[.slice (pp 0) (nOf P 0) (cc 0), .slice (pp 1) (nOf P 1) (cc 1), .slice (pp 2) (nOf P 2) (cc 2), .slice (pp 3) (nOf P 3) (cc 3), .slice (pp 4) (nOf P 4) (cc 4)] 28)) (.slice (pp j) (nOf P j) (cc j)) (P j) := fun j hj => own_base (own_below (hs3.out j hj) ((Below.refl _ _).alloc (Nat.le_refl _) _)) (Nat.zero_le _)
          clear hs3
          generalize (w3.alloc (.cells #[.slice (pp 0) (nOf P 0) (cc 0), .slice (pp 1) (nOf P 1) (cc 1), .slice (pp 2) (nOf P 2) (cc 2), .slice (pp 3) (nOf P 3) (cc 3), .slice (pp 4) (nOf P 4) (cc 4)] 28)) = w9 at *
          have HBV := Lib.hid hbV
          obtain ⟨y0, y1, y2, y3, y4⟩ := cellV hhV
          have HPr : Hid (Calls Tryd.prog 13 #[.agg #[.slice (pp 0) (nOf P 0) (cc 0), .slice (pp 1) (nOf P 1) (cc 1), .slice (pp 2) (nOf P 2) (cc 2), .slice (pp 3) (nOf P 3) (cc 3), .slice (pp 4) (nOf P 4) (cc 4)]] w9 fun e w' => e = .returned (.string Wt) ∧ Below w9.heap.size w9 w') := Lib.hid (by have := print_any (fun j => .slice (pp j) (nOf P j) (cc j)) P w9 (HG.out.below HBV.out) (fun j hj => StpsAt.of (hsV j hj)) HPl.out.2.1 HPl.out.2.2; rw [HPl.out.1, ← HWt.out] at this; exact this)
          clear hhV hbV hsV
          go_wp2_with (go_at_call 13; refine HPr.out.mono ?_; rintro e w10 ⟨rfl, hb10⟩; have HB10 := Lib.hid hb10; clear hb10)
          go_ret
          exact ⟨by simp, HBV.out.trans (HB10.out.mono HBV.out.size)⟩
        · have hhV : (((((w3.setCell ⟨wr.heap.size + 1, 0, none⟩ (.slice (pp 0) (nOf P 0) (cc 0))).setCell ⟨wr.heap.size + 1, 1, none⟩ (.slice (pp 1) (nOf P 1) (cc 1))).setCell ⟨wr.heap.size + 1, 2, none⟩ (.slice (pp 2) (nOf P 2) (cc 2))).setCell ⟨wr.heap.size + 1, 3, none⟩ (.slice (pp 3) (nOf P 3) (cc 3))).setCell ⟨wr.heap.size + 1, 4, none⟩ (.slice (pp 4) (nOf P 4) (cc 4))).heap[wr.heap.size + 1]? = some (.cells #[.slice (pp 0) (nOf P 0) (cc 0), .slice (pp 1) (nOf P 1) (cc 1), .slice (pp 2) (nOf P 2) (cc 2), .slice (pp 3) (nOf P 3) (cc 3), .slice (pp 4) (nOf P 4) (cc 4)] 28 (0, 0)) := set5v_blk HZ3.out
          have hbV : Below W.heap.size W (((((w3.setCell ⟨wr.heap.size + 1, 0, none⟩ (.slice (pp 0) (nOf P 0) (cc 0))).setCell ⟨wr.heap.size + 1, 1, none⟩ (.slice (pp 1) (nOf P 1) (cc 1))).setCell ⟨wr.heap.size + 1, 2, none⟩ (.slice (pp 2) (nOf P 2) (cc 2))).setCell ⟨wr.heap.size + 1, 3, none⟩ (.slice (pp 3) (nOf P 3) (cc 3))).setCell ⟨wr.heap.size + 1, 4, none⟩ (.slice (pp 4) (nOf P 4) (cc 4))) := set5bel (HB.out.trans (HBw3.out.mono HB.out.size)) (Nat.le_succ_of_le HB.out.size)
          have hsV : ∀ j, j < 5 → StepsC 0 (((((w3.setCell ⟨wr.heap.size + 1, 0, none⟩ (.slice (pp 0) (nOf P 0) (cc 0))).setCell ⟨wr.heap.size + 1, 1, none⟩ (.slice (pp 1) (nOf P 1) (cc 1))).setCell ⟨wr.heap.size + 1, 2, none⟩ (.slice (pp 2) (nOf P 2) (cc 2))).setCell ⟨wr.heap.size + 1, 3, none⟩ (.slice (pp 3) (nOf P 3) (cc 3))).setCell ⟨wr.heap.size + 1, 4, none⟩ (.slice (pp 4) (nOf P 4) (cc 4))) (.slice (pp j) (nOf P j) (cc j)) (P j) := fun j hj => own_base ((hs3.out j hj).other HZ3.out (by decide) (set5v_else _ _ _ _ _ _ _)) (Nat.zero_le _)
          clear r0 r1 r2 r3 r4 f0 f1 f2 f3 f4
          generalize (((((w3.setCell ⟨wr.heap.size + 1, 0, none⟩ (.slice (pp 0) (nOf P 0) (cc 0))).setCell ⟨wr.heap.size + 1, 1, none⟩ (.slice (pp 1) (nOf P 1) (cc 1))).setCell ⟨wr.heap.size + 1, 2, none⟩ (.slice (pp 2) (nOf P 2) (cc 2))).setCell ⟨wr.heap.size + 1, 3, none⟩ (.slice (pp 3) (nOf P 3) (cc 3))).setCell ⟨wr.heap.size + 1, 4, none⟩ (.slice (pp 4) (nOf P 4) (cc 4))) = w9 at *
          have HBV := Lib.hid hbV
          obtain ⟨y0, y1, y2, y3, y4⟩ := cellV hhV
          have HPr : Hid (Calls Tryd.prog 13 #[.agg #[.slice (pp 0) (nOf P 0) (cc 0), .slice (pp 1) (nOf P 1) (cc 1), .slice (pp 2) (nOf P 2) (cc 2), .slice (pp 3) (nOf P 3) (cc 3), .slice (pp 4) (nOf P 4) (cc 4)]] w9 fun e w' => e = .returned (.string Wt) ∧ Below w9.heap.size w9 w') := Lib.hid (by have := print_any (fun j => .slice (pp j) (nOf P j) (cc j)) P w9 (HG.out.below HBV.out) (fun j hj => StpsAt.of (hsV j hj)) HPl.out.2.1 HPl.out.2.2; rw [HPl.out.1, ← HWt.out] at this; exact this)
          clear hhV hbV hsV
          go_wp2_with (go_at_call 13; refine HPr.out.mono ?_; rintro e w10 ⟨rfl, hb10⟩; have HB10 := Lib.hid hb10; clear hb10)
          go_ret
          exact ⟨by simp, HBV.out.trans (HB10.out.mono HBV.out.size)⟩
        · have hhV : (((((w3.setCell ⟨wr.heap.size, 0, none⟩ (.slice (pp 0) (nOf P 0) (cc 0))).setCell ⟨wr.heap.size, 1, none⟩ (.slice (pp 1) (nOf P 1) (cc 1))).setCell ⟨wr.heap.size, 2, none⟩ (.slice (pp 2) (nOf P 2) (cc 2))).setCell ⟨wr.heap.size, 3, none⟩ (.slice (pp 3) (nOf P 3) (cc 3))).setCell ⟨wr.heap.size, 4, none⟩ (.slice (pp 4) (nOf P 4) (cc 4))).heap[wr.heap.size]? = some (.cells #[.slice (pp 0) (nOf P 0) (cc 0), .slice (pp 1) (nOf P 1) (cc 1), .slice (pp 2) (nOf P 2) (cc 2), .slice (pp 3) (nOf P 3) (cc 3), .slice (pp 4) (nOf P 4) (cc 4)] 28 (0, 0)) := set5v_blk HZ3.out
          have hbV : Below W.heap.size W (((((w3.setCell ⟨wr.heap.size, 0, none⟩ (.slice (pp 0) (nOf P 0) (cc 0))).setCell ⟨wr.heap.size, 1, none⟩ (.slice (pp 1) (nOf P 1) (cc 1))).setCell ⟨wr.heap.size, 2, none⟩ (.slice (pp 2) (nOf P 2) (cc 2))).setCell ⟨wr.heap.size, 3, none⟩ (.slice (pp 3) (nOf P 3) (cc 3))).setCell ⟨wr.heap.size, 4, none⟩ (.slice (pp 4) (nOf P 4) (cc 4))) := set5bel (HB.out.trans (HBw3.out.mono HB.out.size)) (HB.out.size)
          have hsV : ∀ j, j < 5 → StepsC 0 (((((w3.setCell ⟨wr.heap.size, 0, none⟩ (.slice (pp 0) (nOf P 0) (cc 0))).setCell ⟨wr.heap.size, 1, none⟩ (.slice (pp 1) (nOf P 1) (cc 1))).setCell ⟨wr.heap.size, 2, none⟩ (.slice (pp 2) (nOf P 2) (cc 2))).setCell ⟨wr.heap.size, 3, none⟩ (.slice (pp 3) (nOf P 3) (cc 3))).setCell ⟨wr.heap.size, 4, none⟩ (.slice (pp 4) (nOf P 4) (cc 4))) (.slice (pp j) (nOf P j) (cc j)) (P j) := fun j hj => own_base ((hs3.out j hj).other HZ3.out (by decide) (set5v_else _ _ _ _ _ _ _)) (Nat.zero_le _)
          clear r0 r1 r2 r3 r4 f0 f1 f2 f3 f4
          generalize (((((w3.setCell ⟨wr.heap.size, 0, none⟩ (.slice (pp 0) (nOf P 0) (cc 0))).setCell ⟨wr.heap.size, 1, none⟩ (.slice (pp 1) (nOf P 1) (cc 1))).setCell ⟨wr.heap.size, 2, none⟩ (.slice (pp 2) (nOf P 2) (cc 2))).setCell ⟨wr.heap.size, 3, none⟩ (.slice (pp 3) (nOf P 3) (cc 3))).setCell ⟨wr.heap.size, 4, none⟩ (.slice (pp 4) (nOf P 4) (cc 4))) = w9 at *
          have HBV := Lib.hid hbV
          obtain ⟨y0, y1, y2, y3, y4⟩ := cellV hhV
          have HPr : Hid (Calls Tryd.prog 13 #[.agg #[.slice (pp 0) (nOf P 0) (cc 0), .slice (pp 1) (nOf P 1) (cc 1), .slice (pp 2) (nOf P 2) (cc 2), .slice (pp 3) (nOf P 3) (cc 3), .slice (pp 4) (nOf P 4) (cc 4)]] w9 fun e w' => e = .returned (.string Wt) ∧ Below w9.heap.size w9 w') := Lib.hid (by have := print_any (fun j => .slice (pp j) (nOf P j) (cc j)) P w9 (HG.out.below HBV.out) (fun j hj => StpsAt.of (hsV j hj)) HPl.out.2.1 HPl.out.2.2; rw [HPl.out.1, ← HWt.out] at this; exact this)
          clear hhV hbV hsV
          go_wp2_with (go_at_call 13; refine HPr.out.mono ?_; rintro e w10 ⟨rfl, hb10⟩; have HB10 := Lib.hid hb10; clear hb10)
          go_ret
          exact ⟨by simp, HBV.out.trans (HB10.out.mono HBV.out.size)⟩
      · go_upto_region 16 with (fail)
        rw [convQ_eq]
        have hco := convQ_eq.symm
        go_region_held3 (fun V => V.cell? ⟨g, 0, none⟩ = some (.string Ba) ∧ V.cell? ⟨g, 1, none⟩ = some (.string Bb) ∧ V.cell? ⟨g, 2, none⟩ = some (.string Bc) ∧ V.cell? ⟨g, 3, none⟩ = some (.string Bd)) (first | with_reducible exact HSx.out _ (set5bel HBw3.out (Nat.le_refl _)) | with_reducible exact HSx.out _ (set5bel HBw3.out (Nat.le_succ _)) | with_reducible exact HSx.out _ (set5bel HBw3.out (Nat.le_refl _)).drew | with_reducible exact HSx.out _ (set5bel HBw3.out (Nat.le_succ _)).drew | with_reducible exact HSx.out _ (set5bel (HBw3.out.alloc HBw3.out.size _) HBw3.out.size) | with_reducible exact HSx.out _ (bel2 _ _ _).drew.drew | with_reducible exact HSx.out _ (bel2 _ _ _).drew | with_reducible exact HSx.out _ (bel2 _ _ _) | with_reducible exact HSx.out _ HBw3.out | with_reducible exact HSx.out _ (HBw3.out.alloc HBw3.out.size _) | with_reducible exact HSx.out _ (Below.refl _ _) | with_reducible exact HSx.out _ (Below.refl _ _).drew | with_reducible exact HSx.out _ ((Below.refl _ _).alloc (Nat.le_refl _) _) | with_reducible exact HSx.out _ ((Below.refl _ _).drew.alloc (Nat.le_refl _) _) | with_reducible exact HSx.out _ ((Below.refl _ _).alloc (Nat.le_refl _) _).drew.drew | with_reducible exact HSx.out _ ((Below.refl _ _).alloc (Nat.le_refl _) _).drew) (((go_at_call 9; refine (HPa.out _ _ _ (by first | with_reducible exact HB.out.drew | with_reducible exact (HB.out.alloc HB.out.size _).drew) (by first | with_reducible exact szA _ | with_reducible exact szB _ _) (by first | with_reducible exact belA _ _ | with_reducible exact belB _ _ _ | with_reducible exact belC _ _ _)).mono ?_; rintro e w3 ⟨pp, cc, rfl, hb3, hs3⟩; have hbw3 : Below wr.heap.size wr w3 := (by first | with_reducible exact thenA hb3 | with_reducible exact thenBC hb3); have HBw3 := Lib.hid hbw3; (first | (have hz3 : w3.heap[wr.heap.size]? = some (.cells #[.slice none 0 0, .slice none 0 0, .slice none 0 0, .slice none 0 0, .slice none 0 0] 28 (0, 0)) := (by with_reducible exact zB hb3); have HZ3 := Lib.hid hz3; have r0 := cellOf5 hz3 0 (by decide); have r1 := cellOf5 hz3 1 (by decide); have r2 := cellOf5 hz3 2 (by decide); have r3 := cellOf5 hz3 3 (by decide); have r4 := cellOf5 hz3 4 (by decide); have f0 := free5 hz3 0; have f1 := free5 hz3 1; have f2 := free5 hz3 2; have f3 := free5 hz3 3; have f4 := free5 hz3 4; clear hz3) | (have hz3 : w3.heap[wr.heap.size + 1]? = some (.cells #[.slice none 0 0, .slice none 0 0, .slice none 0 0, .slice none 0 0, .slice none 0 0] 28 (0, 0)) := (by with_reducible exact zC hb3); have HZ3 := Lib.hid hz3; have r0 := cellOf5 hz3 0 (by decide); have r1 := cellOf5 hz3 1 (by decide); have r2 := cellOf5 hz3 2 (by decide); have r3 := cellOf5 hz3 3 (by decide); have r4 := cellOf5 hz3 4 (by decide); have f0 := free5 hz3 0; have f1 := free5 hz3 1; have f2 := free5 hz3 2; have f3 := free5 hz3 3; have f4 := free5 hz3 4; clear hz3) | skip); clear hb3 hbw3)))
        · have hhV : (w3.alloc (.cells #[.slice (pp 0) (nOf P 0) (cc 0), .slice (pp 1) (nOf P 1) (cc 1), .slice (pp 2) (nOf P 2) (cc 2), .slice (pp 3) (nOf P 3) (cc 3), .slice (pp 4) (nOf P 4) (cc 4)] 28)).heap[w3.heap.size]? = some (.cells #[.slice (pp 0) (nOf P 0) (cc 0), .slice (pp 1) (nOf P 1) (cc 1), .slice (pp 2) (nOf P 2) (cc 2), .slice (pp 3) (nOf P 3) (cc 3), .slice (pp 4) (nOf P 4) (cc 4)] 28 (0, 0)) := heap_alloc_new w3 _
          have hbV : Below W.heap.size W (w3.alloc (.cells #[.slice (pp 0) (nOf P 0) (cc 0), .slice (pp 1) (nOf P 1) (cc 1), .slice (pp 2) (nOf P 2) (cc 2), .slice (pp 3) (nOf P 3) (cc 3), .slice (pp 4) (nOf P 4) (cc 4)] 28)) := (HB.out.trans (HBw3.out.mono HB.out.size)).trans (((Below.refl _ _).alloc (Nat.le_refl _) _).mono (Nat.le_trans HB.out.size HBw3.out.size))
          have hsV : ∀ j, j < 5 → StepsC 0 (w3.alloc (.cells #[.slice (pp 0) (nOf P 0) (cc 0), .slice (pp 1) (nOf P 1) (cc 1), .slice (pp 2) (nOf P 2) (cc 2), .slice (pp 3) (nOf P 3) (cc 3), .slice (pp 4) (nOf P 4) (cc 4)] 28)) (.slice (pp j) (nOf P j) (cc j)) (P j) := fun j hj => own_base (own_below (hs3.out j hj) ((Below.refl _ _).alloc (Nat.le_refl _) _)) (Nat.zero_le _)
          clear hs3
          generalize (w3.alloc (.cells #[.slice (pp 0) (nOf P 0) (cc 0), .slice (pp 1) (nOf P 1) (cc 1), .slice (pp 2) (nOf P 2) (cc 2), .slice (pp 3) (nOf P 3) (cc 3), .slice (pp 4) (nOf P 4) (cc 4)] 28)) = w9 at *
          have HBV := Lib.hid hbV
          obtain ⟨y0, y1, y2, y3, y4⟩ := cellV hhV
          have HPr : Hid (Calls Tryd.prog 13 #[.agg #[.slice (pp 0) (nOf P 0) (cc 0), .slice (pp 1) (nOf P 1) (cc 1), .slice (pp 2) (nOf P 2) (cc 2), .slice (pp 3) (nOf P 3) (cc 3), .slice (pp 4) (nOf P 4) (cc 4)]] w9 fun e w' => e = .returned (.string Wt) ∧ Below w9.heap.size w9 w') := Lib.hid (by have := print_any (fun j => .slice (pp j) (nOf P j) (cc j)) P w9 (HG.out.below HBV.out) (fun j hj => StpsAt.of (hsV j hj)) HPl.out.2.1 HPl.out.2.2; rw [HPl.out.1, ← HWt.out] at this; exact this)
          clear hhV hbV hsV
          go_wp2_with (go_at_call 13; refine HPr.out.mono ?_; rintro e w10 ⟨rfl, hb10⟩; have HB10 := Lib.hid hb10; clear hb10)
          go_ret
          exact ⟨by simp, HBV.out.trans (HB10.out.mono HBV.out.size)⟩
        · have hhV : (((((w3.setCell ⟨wr.heap.size + 1, 0, none⟩ (.slice (pp 0) (nOf P 0) (cc 0))).setCell ⟨wr.heap.size + 1, 1, none⟩ (.slice (pp 1) (nOf P 1) (cc 1))).setCell ⟨wr.heap.size + 1, 2, none⟩ (.slice (pp 2) (nOf P 2) (cc 2))).setCell ⟨wr.heap.size + 1, 3, none⟩ (.slice (pp 3) (nOf P 3) (cc 3))).setCell ⟨wr.heap.size + 1, 4, none⟩ (.slice (pp 4) (nOf P 4) (cc 4))).heap[wr.heap.size + 1]? = some (.cells #[.slice (pp 0) (nOf P 0) (cc 0), .slice (pp 1) (nOf P 1) (cc 1), .slice (pp 2) (nOf P 2) (cc 2), .slice (pp 3) (nOf P 3) (cc 3), .slice (pp 4) (nOf P 4) (cc 4)] 28 (0, 0)) := set5v_blk HZ3.out
          have hbV : Below W.heap.size W (((((w3.setCell ⟨wr.heap.size + 1, 0, none⟩ (.slice (pp 0) (nOf P 0) (cc 0))).setCell ⟨wr.heap.size + 1, 1, none⟩ (.slice (pp 1) (nOf P 1) (cc 1))).setCell ⟨wr.heap.size + 1, 2, none⟩ (.slice (pp 2) (nOf P 2) (cc 2))).setCell ⟨wr.heap.size + 1, 3, none⟩ (.slice (pp 3) (nOf P 3) (cc 3))).setCell ⟨wr.heap.size + 1, 4, none⟩ (.slice (pp 4) (nOf P 4) (cc 4))) := set5bel (HB.out.trans (HBw3.out.mono HB.out.size)) (Nat.le_succ_of_le HB.out.size)
          have hsV : ∀ j, j < 5 → StepsC 0 (((((w3.setCell ⟨wr.heap.size + 1, 0, none⟩ (.slice (pp 0) (nOf P 0) (cc 0))).setCell ⟨wr.heap.size + 1, 1, none⟩ (.slice (pp 1) (nOf P 1) (cc 1))).setCell ⟨wr.heap.size + 1, 2, none⟩ (.slice (pp 2) (nOf P 2) (cc 2))).setCell ⟨wr.heap.size + 1, 3, none⟩ (.slice (pp 3) (nOf P 3) (cc 3))).setCell ⟨wr.heap.size + 1, 4, none⟩ (.slice (pp 4) (nOf P 4) (cc 4))) (.slice (pp j) (nOf P j) (cc j)) (P j) := fun j hj => own_base ((hs3.out j hj).other HZ3.out (by decide) (set5v_else _ _ _ _ _ _ _)) (Nat.zero_le _)
          clear r0 r1 r2 r3 r4 f0 f1 f2 f3 f4
          generalize (((((w3.setCell ⟨wr.heap.size + 1, 0, none⟩ (.slice (pp 0) (nOf P 0) (cc 0))).setCell ⟨wr.heap.size + 1, 1, none⟩ (.slice (pp 1) (nOf P 1) (cc 1))).setCell ⟨wr.heap.size + 1, 2, none⟩ (.slice (pp 2) (nOf P 2) (cc 2))).setCell ⟨wr.heap.size + 1, 3, none⟩ (.slice (pp 3) (nOf P 3) (cc 3))).setCell ⟨wr.heap.size + 1, 4, none⟩ (.slice (pp 4) (nOf P 4) (cc 4))) = w9 at *
          have HBV := Lib.hid hbV
          obtain ⟨y0, y1, y2, y3, y4⟩ := cellV hhV
          have HPr : Hid (Calls Tryd.prog 13 #[.agg #[.slice (pp 0) (nOf P 0) (cc 0), .slice (pp 1) (nOf P 1) (cc 1), .slice (pp 2) (nOf P 2) (cc 2), .slice (pp 3) (nOf P 3) (cc 3), .slice (pp 4) (nOf P 4) (cc 4)]] w9 fun e w' => e = .returned (.string Wt) ∧ Below w9.heap.size w9 w') := Lib.hid (by have := print_any (fun j => .slice (pp j) (nOf P j) (cc j)) P w9 (HG.out.below HBV.out) (fun j hj => StpsAt.of (hsV j hj)) HPl.out.2.1 HPl.out.2.2; rw [HPl.out.1, ← HWt.out] at this; exact this)
          clear hhV hbV hsV
          go_wp2_with (go_at_call 13; refine HPr.out.mono ?_; rintro e w10 ⟨rfl, hb10⟩; have HB10 := Lib.hid hb10; clear hb10)
          go_ret
          exact ⟨by simp, HBV.out.trans (HB10.out.mono HBV.out.size)⟩
        · have hhV : (((((w3.setCell ⟨wr.heap.size, 0, none⟩ (.slice (pp 0) (nOf P 0) (cc 0))).setCell ⟨wr.heap.size, 1, none⟩ (.slice (pp 1) (nOf P 1) (cc 1))).setCell ⟨wr.heap.size, 2, none⟩ (.slice (pp 2) (nOf P 2) (cc 2))).setCell ⟨wr.heap.size, 3, none⟩ (.slice (pp 3) (nOf P 3) (cc 3))).setCell ⟨wr.heap.size, 4, none⟩ (.slice (pp 4) (nOf P 4) (cc 4))).heap[wr.heap.size]? = some (.cells #[.slice (pp 0) (nOf P 0) (cc 0), .slice (pp 1) (nOf P 1) (cc 1), .slice (pp 2) (nOf P 2) (cc 2), .slice (pp 3) (nOf P 3) (cc 3), .slice (pp 4) (nOf P 4) (cc 4)] 28 (0, 0)) := set5v_blk HZ3.out
          have hbV : Below W.heap.size W (((((w3.setCell ⟨wr.heap.size, 0, none⟩ (.slice (pp 0) (nOf P 0) (cc 0))).setCell ⟨wr.heap.size, 1, none⟩ (.slice (pp 1) (nOf P 1) (cc 1))).setCell ⟨wr.heap.size, 2, none⟩ (.slice (pp 2) (nOf P 2) (cc 2))).setCell ⟨wr.heap.size, 3, none⟩ (.slice (pp 3) (nOf P 3) (cc 3))).setCell ⟨wr.heap.size, 4, none⟩ (.slice (pp 4) (nOf P 4) (cc 4))) := set5bel (HB.out.trans (HBw3.out.mono HB.out.size)) (HB.out.size)
          have hsV : ∀ j, j < 5 → StepsC 0 (((((w3.setCell ⟨wr.heap.size, 0, none⟩ (.slice (pp 0) (nOf P 0) (cc 0))).setCell ⟨wr.heap.size, 1, none⟩ (.slice (pp 1) (nOf P 1) (cc 1))).setCell ⟨wr.heap.size, 2, none⟩ (.slice (pp 2) (nOf P 2) (cc 2))).setCell ⟨wr.heap.size, 3, none⟩ (.slice (pp 3) (nOf P 3) (cc 3))).setCell ⟨wr.heap.size, 4, none⟩ (.slice (pp 4) (nOf P 4) (cc 4))) (.slice (pp j) (nOf P j) (cc j)) (P j) := fun j hj => own_base ((hs3.out j hj).other HZ3.out (by decide) (set5v_else _ _ _ _ _ _ _)) (Nat.zero_le _)
          clear r0 r1 r2 r3 r4 f0 f1 f2 f3 f4
          generalize (((((w3.setCell ⟨wr.heap.size, 0, none⟩ (.slice (pp 0) (nOf P 0) (cc 0))).setCell ⟨wr.heap.size, 1, none⟩ (.slice (pp 1) (nOf P 1) (cc 1))).setCell ⟨wr.heap.size, 2, none⟩ (.slice (pp 2) (nOf P 2) (cc 2))).setCell ⟨wr.heap.size, 3, none⟩ (.slice (pp 3) (nOf P 3) (cc 3))).setCell ⟨wr.heap.size, 4, none⟩ (.slice (pp 4) (nOf P 4) (cc 4))) = w9 at *
          have HBV := Lib.hid hbV
          obtain ⟨y0, y1, y2, y3, y4⟩ := cellV hhV
          have HPr : Hid (Calls Tryd.prog 13 #[.agg #[.slice (pp 0) (nOf P 0) (cc 0), .slice (pp 1) (nOf P 1) (cc 1), .slice (pp 2) (nOf P 2) (cc 2), .slice (pp 3) (nOf P 3) (cc 3), .slice (pp 4) (nOf P 4) (cc 4)]] w9 fun e w' => e = .returned (.string Wt) ∧ Below w9.heap.size w9 w') := Lib.hid (by have := print_any (fun j => .slice (pp j) (nOf P j) (cc j)) P w9 (HG.out.below HBV.out) (fun j hj => StpsAt.of (hsV j hj)) HPl.out.2.1 HPl.out.2.2; rw [HPl.out.1, ← HWt.out] at this; exact this)
          clear hhV hbV hsV
          go_wp2_with (go_at_call 13; refine HPr.out.mono ?_; rintro e w10 ⟨rfl, hb10⟩; have HB10 := Lib.hid hb10; clear hb10)
          go_ret
          exact ⟨by simp, HBV.out.trans (HB10.out.mono HBV.out.size)⟩
end Go.Proofs.YtpighkpdnifejaaDoor

