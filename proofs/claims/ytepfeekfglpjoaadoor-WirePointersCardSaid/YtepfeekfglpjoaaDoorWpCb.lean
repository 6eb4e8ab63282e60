/- Contracts and plain facts that the law leans on. -/
import Derived.Test.YtepfeekfglpjoaaDoorWpCa
import Derived.Laws.AppendOwn
import Derived.OwnWalk
import Derived.Deep.RegionHeld3
import Derived.Deep.AppendLies
import Derived.Deep.RegionLaw
import Derived.Laws.ResultCell
import Derived.Laws.Rows
namespace Go.Wi
/-- The next s bytes as a number. -/
def numSt (l : List UInt8) (st : Option Nat) (s : Nat) : Nat × Option Nat :=
  match st with
  | some i => if i + s ≤ l.length then (numV (tk l i s), some (i + s)) else (0, none)
  | none => (0, none)
def chk (st : Option Nat) (b : Bool) : Option Nat := if b = true then st else none
def subjSt (l : List UInt8) (st : Option Nat) : Option (List UInt8 × Nat × Nat) := st.bind (subjW l)
def recSt (l : List UInt8) (st : Option Nat) : Option (Rec × Nat) := st.bind (recW l)
/-- A reader in that state. -/
def RDS (w : World) (p : Nat) (a : Option Addr) (n c : Nat) (l : List UInt8) (st : Option Nat) : Prop :=
  match st with
  | some i => RD w p a n c l (i : Int) false ∧ i ≤ n
  | none => ∃ i, RD w p a n c l i true
theorem RDS.len {w : World} {p : Nat} {a : Option Addr} {n c : Nat} {l : List UInt8} {st : Option Nat} (h : RDS w p a n c l st) : l.length = n := by
  cases st with
  | some i => exact h.1.ba.len
  | none => obtain ⟨i, h⟩ := h; exact h.ba.len
/-- Whatever keeps a reader keeps it in its state. -/
theorem RDS.map {w w' : World} {p : Nat} {a : Option Addr} {n c : Nat} {l : List UInt8} {st : Option Nat} (h : RDS w p a n c l st) (f : ∀ i b, RD w p a n c l i b → RD w' p a n c l i b) : RDS w' p a n c l st := by
  cases st with
  | some i => exact ⟨f _ _ h.1, h.2⟩
  | none => obtain ⟨i, h⟩ := h; exact ⟨i, f _ _ h⟩
theorem RDS.bad {w : World} {p : Nat} {a : Option Addr} {n c : Nat} {l : List UInt8} {st : Option Nat} (h : RDS w p a n c l st) : ∃ i, RD w p a n c l i st.isNone := by
  cases st with
  | some i => exact ⟨_, h.1⟩
  | none => exact h
end Go.Wi
namespace Go.Proofs.YtepfeekfglpjoaaDoor
open Go.RowKit Go.Lib Go.Wi Go.Tx
theorem number_st (w : World) (p : Nat) (a : Option Addr) (n c : Nat) (l : List UInt8) (st : Option Nat) (s : Nat) (h : RDS w p a n c l st) (hs : s ≤ 4) :
    Calls Tryd.prog 35 #[.pointer (some ⟨p, 0, none⟩), .int .i64 (s : Int)] w fun e w' => e = .returned (.int .i64 ((numSt l st s).1 : Int)) ∧ RDS w' p a n c l (numSt l st s).2 ∧ Kp p w w' := by
  have hl := h.len
  cases st with
  | none =>
    obtain ⟨i, h⟩ := h
    refine (number_no w p a n c l i s true h (.inl rfl) hs).mono ?_
    rintro e w' ⟨rfl, h1, h2⟩
    exact ⟨rfl, ⟨_, h1⟩, h2⟩
  | some i =>
    obtain ⟨h, hi⟩ := h
    by_cases h4 : i + s ≤ l.length
    · rw [show numSt l (some i) s = (numV (tk l i s), some (i + s)) by simp [numSt, h4]]
      refine (number_ok w p a n c l i s h (by omega) hs).mono ?_
      rintro e w' ⟨rfl, h1, h2⟩
      exact ⟨rfl, ⟨h1, by omega⟩, h2⟩
    · rw [show numSt l (some i) s = (0, none) by simp [numSt, h4]]
      refine (number_no w p a n c l i s false h (.inr ⟨by omega, by omega, by omega⟩) hs).mono ?_
      rintro e w' ⟨rfl, h1, h2⟩
      exact ⟨rfl, ⟨_, h1⟩, h2⟩
theorem check_st (w : World) (p : Nat) (a : Option Addr) (n c : Nat) (l : List UInt8) (st : Option Nat) (b : Bool) (h : RDS w p a n c l st) :
    Calls Tryd.prog 36 #[.pointer (some ⟨p, 0, none⟩), .bool b] w fun e w' => e = .returned (.tuple #[]) ∧ RDS w' p a n c l (chk st b) ∧ Kp p w w' := by
  cases st with
  | none =>
    obtain ⟨i, h⟩ := h
    refine (check_any w p a n c l i true b h).mono ?_
    rintro e w' ⟨rfl, h1, h2⟩
    refine ⟨rfl, ?_, h2⟩
    have : chk none b = none := by unfold chk; split <;> rfl
    rw [this]
    exact ⟨_, h1⟩
  | some i =>
    obtain ⟨h, hi⟩ := h
    refine (check_any w p a n c l i false b h).mono ?_
    rintro e w' ⟨rfl, h1, h2⟩
    refine ⟨rfl, ?_, h2⟩
    cases b with
    | true => exact ⟨h1, hi⟩
    | false => exact ⟨_, h1⟩
theorem take_st (w : World) (p : Nat) (a : Option Addr) (n c : Nat) (l : List UInt8) (st : Option Nat) (s : Nat) (h : RDS w p a n c l st) (hs : s ≤ 4) :
    Calls Tryd.prog 37 #[.pointer (some ⟨p, 0, none⟩), .int .i64 (s : Int)] w fun e w' => (∃ q m c', e = .returned (.slice q m c')) ∧ RDS w' p a n c l (numSt l st s).2 ∧ Kp p w w' := by
  have hl := h.len
  cases st with
  | none =>
    obtain ⟨i, h⟩ := h
    refine (take_no w p a n c l i s true h (.inl rfl) (by omega)).mono ?_
    rintro e w' ⟨rfl, h1, h2⟩
    exact ⟨⟨_, _, _, rfl⟩, ⟨_, h1⟩, h2⟩
  | some i =>
    obtain ⟨h, hi⟩ := h
    by_cases h4 : i + s ≤ l.length
    · rw [show numSt l (some i) s = (numV (tk l i s), some (i + s)) by simp [numSt, h4]]
      refine (take_ok w p a n c l i s h (by omega)).mono ?_
      rintro e w' ⟨⟨q, c', rfl, _, _⟩, h1, h2⟩
      exact ⟨⟨_, _, _, rfl⟩, ⟨h1, by omega⟩, h2⟩
    · rw [show numSt l (some i) s = (0, none) by simp [numSt, h4]]
      refine (take_no w p a n c l i s false h (.inr ⟨by omega, by omega, by omega⟩) (by omega)).mono ?_
      rintro e w' ⟨rfl, h1, h2⟩
      exact ⟨⟨_, _, _, rfl⟩, ⟨_, h1⟩, h2⟩
/-- What a subject gives, whatever the state: the text counts only where the reader is not bad. -/
theorem subject_st (w : World) (p : Nat) (a : Option Addr) (n c : Nat) (l : List UInt8) (st : Option Nat) (h : RDS w p a n c l st) (hn : n ≤ 4096) (hm : MaxAt w) (hp0 : p ≠ 0) :
    Calls Tryd.prog 38 #[.pointer (some ⟨p, 0, none⟩)] w fun e w' => (∃ (m : ByteArray) (t : Nat), e = .returned (.tuple #[.string m, .int .i64 (t : Int)]) ∧ ∀ m0 t0 j0, subjSt l st = some (m0, t0, j0) → m = ⟨m0.toArray⟩ ∧ t = t0) ∧ RDS w' p a n c l ((subjSt l st).map (·.2.2)) ∧ Kp p w w' := by
  obtain ⟨i, hi⟩ := h.bad
  have key := subject_any w p a n c l i st.isNone (subjSt l st) hi hn (fun hb => by cases st with | none => rfl | some k => cases hb) (fun hb => by
    cases st with
    | none => cases hb
    | some k =>
      obtain ⟨h1, h2⟩ := h
      have e1 := hi.c1
      rw [h1.c1] at e1
      exact ⟨k, by cases e1; rfl, h2, rfl⟩) hm hp0
  refine key.mono ?_
  rintro e w' ⟨hk, hR⟩
  cases hs : subjSt l st with
  | none =>
    rw [hs] at hR
    obtain ⟨⟨m, t, _, _, rfl⟩, h2⟩ := hR
    exact ⟨⟨m, t, rfl, fun m0 t0 j0 hh => by cases hh⟩, h2, hk⟩
  | some q =>
    obtain ⟨m0, t0, j0⟩ := q
    rw [hs] at hR
    obtain ⟨rfl, h2, h3, _⟩ := hR
    exact ⟨⟨_, _, rfl, fun m1 t1 j1 hh => by cases hh; exact ⟨rfl, rfl⟩⟩, ⟨h2, h3⟩, hk⟩
theorem record_st (w : World) (p : Nat) (a : Option Addr) (n c : Nat) (l : List UInt8) (st : Option Nat) (h : RDS w p a n c l st) (hn : n ≤ 4096) (hm : MaxAt w) (hp0 : p ≠ 0) :
    Calls Tryd.prog 39 #[.pointer (some ⟨p, 0, none⟩)] w fun e w' => (∃ (m d : ByteArray) (t v : Nat), e = .returned (.agg #[.string m, .int .i64 (t : Int), .int .i64 (v : Int), .string d]) ∧ ∀ r j0, recSt l st = some (r, j0) → m = ⟨r.name.toArray⟩ ∧ t = r.kind ∧ v = r.ttl ∧ d = ⟨r.data.toArray⟩) ∧ RDS w' p a n c l ((recSt l st).map (·.2)) ∧ Kp p w w' := by
  obtain ⟨i, hi⟩ := h.bad
  have key := record_any w p a n c l i st.isNone (recSt l st) hi hn (fun hb => by cases st with | none => rfl | some k => cases hb) (fun hb => by
    cases st with
    | none => cases hb
    | some k =>
      obtain ⟨h1, h2⟩ := h
      have e1 := hi.c1
      rw [h1.c1] at e1
      exact ⟨k, by cases e1; rfl, h2, rfl⟩) hm hp0
  refine key.mono ?_
  rintro e w' ⟨hk, hR⟩
  cases hs : recSt l st with
  | none =>
    rw [hs] at hR
    obtain ⟨⟨m, d, t, v, _, _, rfl⟩, h2⟩ := hR
    exact ⟨⟨m, d, t, v, rfl, fun r j0 hh => by cases hh⟩, h2, hk⟩
  | some q =>
    obtain ⟨r, j0⟩ := q
    rw [hs] at hR
    obtain ⟨rfl, h2, h3⟩ := hR
    exact ⟨⟨_, _, _, _, rfl, fun r1 j1 hh => by cases hh; exact ⟨rfl, rfl, rfl, rfl⟩⟩, ⟨h2, h3⟩, hk⟩
end Go.Proofs.YtepfeekfglpjoaaDoor

namespace Go.Wi
open Go.RowKit
/-- So many records, one behind the other. -/
def recsW (l : List UInt8) (st : Option Nat) : Nat → Option (List Rec × Nat)
  | 0 => st.map fun j => ([], j)
  | k + 1 => (recsW l st k).bind fun q => (recW l q.2).map fun x => (q.1 ++ [x.1], x.2)
theorem recsW_none {l : List UInt8} {st : Option Nat} : ∀ {k m : Nat}, k ≤ m → recsW l st k = none → recsW l st m = none
  | k, 0, h, hn => by obtain rfl : k = 0 := by omega
                      exact hn
  | k, m + 1, h, hn => by
    by_cases e : k = m + 1
    · rw [← e]; exact hn
    · unfold recsW; rw [recsW_none (by omega) hn]; rfl
structure Msg where
  id : Nat
  reply : Bool
  cut : Bool
  want : Bool
  code : Nat
  name : List UInt8
  kind : Nat
  recs : List Rec
def Msg.val (M : Msg) (v : Value) : Value := .agg #[.int .i64 (M.id : Int), .bool M.reply, .bool M.cut, .bool M.want, .int .i64 (M.code : Int), .string ⟨M.name.toArray⟩, .int .i64 (M.kind : Int), v]
/-- A whole message, as the program reads it. -/
def msgW (l : List UInt8) : Option Msg :=
  let x1 := numSt l (some 0) 2
  let x2 := numSt l x1.2 2
  let x4 := numSt l (chk x2.2 (decide (x2.1 &&& 30720 = 0))) 2
  let x6 := numSt l (chk x4.2 ((x4.1 : Int) == 1)) 2
  let s8 := (numSt l (chk x6.2 (decide ((x6.1 : Int) ≤ 32))) 4).2
  (subjSt l s8).bind fun q => (recsW l (some q.2.2) x6.1).map fun r =>
    ⟨x1.1, decide (x2.1 &&& 32768 ≠ 0), decide (x2.1 &&& 512 ≠ 0), decide (x2.1 &&& 256 ≠ 0), x2.1 &&& 15, q.1, q.2.1, r.1⟩
def recCells (r : Rec) : List Value := [.string ⟨r.name.toArray⟩, .int .i64 (r.kind : Int), .int .i64 (r.ttl : Int), .string ⟨r.data.toArray⟩]
end Go.Wi
namespace Go.Proofs.YtepfeekfglpjoaaDoor
open Go.RowKit Go.Lib Go.Wi Go.Tx
theorem _root_.Go.Wi.RDS.below {w w' : World} {p : Nat} {a : Option Addr} {n c : Nat} {l : List UInt8} {st : Option Nat} (h : RDS w p a n c l st) (hb : Below w.heap.size w w') : RDS w' p a n c l st := h.map fun _ _ h => h.below hb
theorem _root_.Go.Wi.RDS.alloc {w : World} {p : Nat} {a : Option Addr} {n c : Nat} {l : List UInt8} {st : Option Nat} (h : RDS w p a n c l st) (o : Obj) : RDS (w.alloc o) p a n c l st := h.below ((Below.refl _ _).alloc (Nat.le_refl _) _)
/-- A message in the making: block b holds these cells. -/
def At8 (w : World) (b : Nat) (arr : Array Value) : Prop := w.heap[b]? = some (.cells arr 26 (0, 0))
theorem At8.lt {w : World} {b : Nat} {arr : Array Value} (h : At8 w b arr) : b < w.heap.size := (Array.getElem?_eq_some_iff.1 h).1
theorem At8.kp {w w' : World} {p b : Nat} {arr : Array Value} (h : At8 w b arr) (hk : Kp p w w') (hb : b ≠ p) : At8 w' b arr := by
  unfold At8; rw [hk.block b h.lt hb]; exact h
theorem At8.alloc {w : World} {b : Nat} {arr : Array Value} (h : At8 w b arr) (o : Obj) : At8 (w.alloc o) b arr := by
  unfold At8
  show (w.heap.push o)[b]? = _
  rw [Array.getElem?_push, if_neg (by have := h.lt; omega)]
  exact h
theorem At8.cell {w : World} {b : Nat} {arr : Array Value} (h : At8 w b arr) {j : Nat} {v : Value} (hj : arr[j]? = some v) : w.cell? ⟨b, j, none⟩ = some v := by unfold At8 at h; simp [World.cell?, h, hj]
theorem At8.free {w : World} {b : Nat} {arr : Array Value} (h : At8 w b arr) (j : Nat) : w.frozen? ⟨b, j, none⟩ = false := by unfold At8 at h; simp [World.frozen?, h]
/-- A slice of records that reads as rs. -/
def RecC (B : Nat) (w : World) (v : Value) (rs : List Rec) : Prop := w.ownsRow B 48 4 v rs.length (rs.flatMap recCells)
theorem At8.late {w : World} {b b' : Nat} {arr : Array Value} (h : At8 w b arr) (hb : b ≠ b') (k : Nat) (v : Value) : At8 (w.setCell ⟨b', k, none⟩ v) b arr := by
  unfold At8
  show (w.heap.modify b' _)[b]? = _
  rw [Array.getElem?_modify, if_neg (fun e => hb e.symm)]
  exact h
theorem At8.set {w : World} {b : Nat} {arr : Array Value} (h : At8 w b arr) (k : Nat) (v : Value) : At8 (w.setCell ⟨b, k, none⟩ v) b (arr.setIfInBounds k v) := block_set h v
theorem _root_.Go.Wi.RDS.late {w : World} {p b : Nat} {a : Option Addr} {n c : Nat} {l : List UInt8} {st : Option Nat} (h : RDS w p a n c l st) (hb : b ≠ p) (ha : ∀ x, a = some x → x.block ≠ b) (k : Nat) (v : Value) : RDS (w.setCell ⟨b, k, none⟩ v) p a n c l st := h.map fun _ _ h => h.late hb ha k v
theorem _root_.Go.Wi.Kp.alloc {p : Nat} {w w' : World} (h : Kp p w w') (o : Obj) : Kp p w (w'.alloc o) := h.trans (Kp.of ((Below.refl _ _).alloc (Nat.le_refl _) _))
theorem numSt_lt (l : List UInt8) (st : Option Nat) : (numSt l st 2).1 < 65536 := by
  cases st with
  | none => show (0 : Nat) < 65536; decide
  | some i =>
    by_cases h : i + 2 ≤ l.length
    · rw [show numSt l (some i) 2 = (numV (tk l i 2), some (i + 2)) by simp [numSt, h]]; exact numV_two l i
    · rw [show numSt l (some i) 2 = (0, none) by simp [numSt, h]]; show (0 : Nat) < 65536; decide
theorem andI (v k : Nat) (hv : v < 65536) (hk : k < 65536) : bits .and .i64 (v : Int) (k : Int) = ((v &&& k : Nat) : Int) :=
  (bits_nat .i64 62 (by decide) (fun n h0 h1 => by rw [IntKind.wrap_i64]; omega) v k (by omega) (by omega)).1
theorem and_eq0 (v k : Nat) (hv : v < 65536) (hk : k < 65536) : (bits .and .i64 (v : Int) (k : Int) == 0) = decide (v &&& k = 0) := by
  rw [andI v k hv hk, Bool.eq_iff_iff, beq_iff_eq, decide_eq_true_iff]; omega
theorem and_ne0 (v k : Nat) (hv : v < 65536) (hk : k < 65536) : (bits .and .i64 (v : Int) (k : Int) != 0) = decide (v &&& k ≠ 0) := by
  rw [bne, and_eq0 v k hv hk]; simp
def cellOf (w : World) (a : Addr) : Value := (w.cell? a).getD undef
theorem _root_.Go.Wi.RD.same {w w' : World} {p : Nat} {a : Option Addr} {n c : Nat} {l : List UInt8} {at_ : Int} {bad : Bool} (h : RD w p a n c l at_ bad) (hp : w'.heap[p]? = w.heap[p]?) (hx : ∀ x, a = some x → w'.heap[x.block]? = w.heap[x.block]?) (hs : w.heap.size ≤ w'.heap.size) : RD w' p a n c l at_ bad :=
  ⟨Nat.lt_of_lt_of_le h.lt hs, by rw [World.cell?_of_block (w := w) (a := ⟨p, 0, none⟩) hp]; exact h.c0, by rw [World.cell?_of_block (w := w) (a := ⟨p, 1, none⟩) hp]; exact h.c1, by rw [World.cell?_of_block (w := w) (a := ⟨p, 2, none⟩) hp]; exact h.c2,
    by rw [World.frozen?_of_block (w := w) (a := ⟨p, 1, none⟩) hp]; exact h.f1, by rw [World.frozen?_of_block (w := w) (a := ⟨p, 2, none⟩) hp]; exact h.f2,
    ⟨h.ba.len, h.ba.cap, h.ba.max, h.ba.none, fun x hxa j b hj => by rw [World.cell?_of_block (w := w) (by rw [add_block]; exact hx x hxa)]; exact h.ba.cell x hxa j b hj⟩, fun x hxa => ⟨Nat.lt_of_lt_of_le (h.apart x hxa).1 hs, (h.apart x hxa).2⟩⟩
theorem bkW (k : ByteArray) : (⟨k.data.toList.toArray⟩ : ByteArray) = k := by cases k; simp
theorem some_getD {w : World} {a : Addr} {v : Value} (h : w.cell? a = some v) : w.cell? a = some (cellOf w a) := by unfold cellOf; rw [h]; rfl
theorem own_kp {B p : Nat} {e : TypeId} {size n : Nat} {v : Value} {xs : List Value} {w w' : World} (h : w.ownsRow B e size v n xs) (hk : Kp p w w') (hp : p < B) : w'.ownsRow B e size v n xs := by
  refine ⟨h.1, ?_⟩
  rcases h.2 with h | ⟨g, cap, cur, h1, h2, h3, h4⟩
  · exact .inl h
  · exact .inr ⟨g, cap, cur, h1, h2, by rw [hk.block g (Array.getElem?_eq_some_iff.1 h3).1 (by omega)]; exact h3, h4⟩
theorem own_lower {B B' : Nat} {e : TypeId} {size n : Nat} {v : Value} {xs : List Value} {w : World} (h : w.ownsRow B e size v n xs) (hB : B' ≤ B) : w.ownsRow B' e size v n xs := by
  refine ⟨h.1, ?_⟩
  rcases h.2 with h | ⟨g, cap, cur, h1, h2, h4⟩
  · exact .inl h
  · exact .inr ⟨g, cap, cur, h1, Nat.le_trans hB h2, h4⟩
theorem own_same {B : Nat} {e : TypeId} {size n : Nat} {v : Value} {xs : List Value} {w w' : World} (h : w.ownsRow B e size v n xs) (hb : ∀ j, B ≤ j → w'.heap[j]? = w.heap[j]?) : w'.ownsRow B e size v n xs := by
  refine ⟨h.1, ?_⟩
  rcases h.2 with h | ⟨g, cap, cur, h1, h2, h3, h4⟩
  · exact .inl h
  · exact .inr ⟨g, cap, cur, h1, h2, by rw [hb g h2]; exact h3, h4⟩
theorem new_cells4 (w : World) (x y z u : Value) (e : TypeId) : ∀ j q, [x, y, z, u][j]? = some q → (w.alloc (.cells #[x, y, z, u] e)).cell? ((⟨w.heap.size, 0, none⟩ : Addr).add j) = some q := by
  intro j q hj
  have ha : (⟨w.heap.size, 0, none⟩ : Addr).add j = ⟨w.heap.size, j, none⟩ := by unfold Addr.add; split <;> simp_all
  rw [ha, World.cell?_alloc_new]
  simpa using hj
theorem infoRec : (Tryd.prog.info? 48).map (fun i => (i.zero, i.size, i.bytes)) = some (some (.agg #[.string ⟨#[]⟩, .int .i64 0, .int .i64 0, .string ⟨#[]⟩]), 4, 48) := by kernel_rfl
def MsgR (w : World) (p : Nat) (a : Option Addr) (n c : Nat) (l : List UInt8) (e : Ending) (w' : World) : Prop :=
  Kp p w w' ∧ match msgW l with
    | some M => (∃ v, e = .returned (M.val v) ∧ RecC (w.heap.size + 1) w' v M.recs) ∧ ∃ i, RD w' p a n c l i false
    | none => (∃ (i : Nat) (q1 q2 q3 : Bool) (k : Nat) (m : ByteArray) (t : Nat) (v : Value) (rs : List Rec), e = .returned (.agg #[.int .i64 (i : Int), .bool q1, .bool q2, .bool q3, .int .i64 (k : Int), .string m, .int .i64 (t : Int), v]) ∧ RecC (w.heap.size + 1) w' v rs) ∧ ∃ i, RD w' p a n c l i true
set_option maxHeartbeats 2000000 in
set_option maxRecDepth 100000 in
theorem message_any (w : World) (p : Nat) (a : Option Addr) (n c : Nat) (l : List UInt8) (h : RD w p a n c l 0 false) (hn : n ≤ 4096) (hm : MaxAt w) (hp0 : p ≠ 0) :
    Calls Tryd.prog 23 #[.pointer (some ⟨p, 0, none⟩)] w (MsgR w p a n c l) := by
  have hs0 : RDS w p a n c l (some 0) := ⟨h, Nat.zero_le _⟩
  have hpl := h.lt
  have hax : ∀ x, a = some x → x.block < w.heap.size := fun x hx => (h.apart x hx).1
  have hbp : w.heap.size ≠ p := fun e => by omega
  have HN2 : Hid (∀ W st, RDS W p a n c l st → Calls Tryd.prog 35 #[.pointer (some ⟨p, 0, none⟩), .int .i64 2] W fun e w' => ∃ v s', numSt l st 2 = (v, s') ∧ v < 65536 ∧ e = .returned (.int .i64 (v : Int)) ∧ RDS w' p a n c l s' ∧ Kp p W w') := Lib.hid (fun W st hW => (number_st W p a n c l st 2 hW (by decide)).mono (by
    rintro e w' ⟨rfl, h1, h2⟩
    refine ⟨_, _, rfl, ?_, rfl, h1, h2⟩
    exact numSt_lt l st))
  have HC : Hid (∀ W st b, RDS W p a n c l st → Calls Tryd.prog 36 #[.pointer (some ⟨p, 0, none⟩), .bool b] W fun e w' => e = .returned (.tuple #[]) ∧ RDS w' p a n c l (chk st b) ∧ Kp p W w') := Lib.hid (fun W st b hW => check_st W p a n c l st b hW)
  have HR := Lib.hid hs0
  clear h hs0
  go_enter Tryd.func23, Tryd.ntmps23
  go_upto_region 1 with (fail)
  have HA2 : Hid (At8 (w.alloc (.cells #[.int .i64 0, .bool false, .bool false, .bool false, .int .i64 0, .string ⟨#[]⟩, .int .i64 0, .slice none 0 0] 26)) w.heap.size #[.int .i64 0, .bool false, .bool false, .bool false, .int .i64 0, .string ⟨#[]⟩, .int .i64 0, .slice none 0 0]) := Lib.hid (heap_alloc_new w _)
  have HK := Lib.hid ((Kp.refl p w).alloc (.cells #[.int .i64 0, .bool false, .bool false, .bool false, .int .i64 0, .string ⟨#[]⟩, .int .i64 0, .slice none 0 0] 26))
  have HR := Lib.hid (HR.out.alloc (.cells #[.int .i64 0, .bool false, .bool false, .bool false, .int .i64 0, .string ⟨#[]⟩, .int .i64 0, .slice none 0 0] 26))
  generalize (w.alloc (.cells #[.int .i64 0, .bool false, .bool false, .bool false, .int .i64 0, .string ⟨#[]⟩, .int .i64 0, .slice none 0 0] 26)) = W1 at *
  go_upto_region 2 with (go_at_call 35; refine (HN2.out _ _ HR.out).mono ?_; rintro e w2 ⟨v1, s1, hn1, hv1, rfl, hr2, hk2⟩; have HR := Lib.hid hr2; have HA2 := Lib.hid (HA2.out.kp hk2 hbp); have HK := Lib.hid (HK.out.trans hk2); have HN1 := Lib.hid hn1; clear hr2 hk2 hn1)
  have hb23 : w.heap.size < w2.heap.size := HA2.out.lt
  have hb3p : w2.heap.size ≠ p := fun e => by omega
  have HA3 : Hid (At8 (w2.alloc (.cells #[.int .i64 (v1 : Int), .bool false, .bool false, .bool false, .int .i64 0, .string ⟨#[]⟩, .int .i64 0, .slice none 0 0] 26)) w2.heap.size #[.int .i64 (v1 : Int), .bool false, .bool false, .bool false, .int .i64 0, .string ⟨#[]⟩, .int .i64 0, .slice none 0 0]) := Lib.hid (heap_alloc_new w2 _)
  have HK := Lib.hid (HK.out.alloc (.cells #[.int .i64 (v1 : Int), .bool false, .bool false, .bool false, .int .i64 0, .string ⟨#[]⟩, .int .i64 0, .slice none 0 0] 26))
  have HR := Lib.hid (HR.out.alloc (.cells #[.int .i64 (v1 : Int), .bool false, .bool false, .bool false, .int .i64 0, .string ⟨#[]⟩, .int .i64 0, .slice none 0 0] 26))
  have HA2 := Lib.hid (HA2.out.alloc (.cells #[.int .i64 (v1 : Int), .bool false, .bool false, .bool false, .int .i64 0, .string ⟨#[]⟩, .int .i64 0, .slice none 0 0] 26))
  generalize (w2.alloc (.cells #[.int .i64 (v1 : Int), .bool false, .bool false, .bool false, .int .i64 0, .string ⟨#[]⟩, .int .i64 0, .slice none 0 0] 26)) = W3 at *
  obtain ⟨b3, hb3⟩ : ∃ b, w2.heap.size = b := ⟨_, rfl⟩
  rw [hb3] at HA3 hb3p hb23 ⊢
  go_upto_region 3 with (go_at_call 35; refine (HN2.out _ _ HR.out).mono ?_; rintro e w4 ⟨v2, s2, hn2, hv2, rfl, hr2, hk2⟩; have HR := Lib.hid hr2; have HA2 := Lib.hid (HA2.out.kp hk2 hbp); have HA3 := Lib.hid (HA3.out.kp hk2 hb3p); have HK := Lib.hid (HK.out.trans hk2); have HN2a := Lib.hid hn2; clear hr2 hk2 hn2)
  go_upto_region 4 with (go_at_call 36; refine (HC.out _ _ _ HR.out).mono ?_; rintro e w5 ⟨rfl, hr2, hk2⟩; have HR := Lib.hid hr2; have HA2 := Lib.hid (HA2.out.kp hk2 hbp); have HA3 := Lib.hid (HA3.out.kp hk2 hb3p); have HK := Lib.hid (HK.out.trans hk2); clear hr2 hk2)
  have HR : Hid (RDS w5 p a n c l (chk s2 (decide (v2 &&& 30720 = 0)))) := Lib.hid (by rw [← and_eq0 v2 30720 hv2 (by decide)]; exact HR.out)
  have k1 := HA3.out.cell (j := 1) rfl
  have k2 := HA3.out.cell (j := 2) rfl
  have k3 := HA3.out.cell (j := 3) rfl
  have k4 := HA3.out.cell (j := 4) rfl
  have f1 := HA3.out.free 1
  have f2 := HA3.out.free 2
  have f3 := HA3.out.free 3
  have f4 := HA3.out.free 4
  go_upto_region 8 with (fail)
  rw [show (bits .and .i64 (v2 : Int) 32768 != 0) = _ from and_ne0 v2 32768 hv2 (by decide), show (bits .and .i64 (v2 : Int) 512 != 0) = _ from and_ne0 v2 512 hv2 (by decide), show (bits .and .i64 (v2 : Int) 256 != 0) = _ from and_ne0 v2 256 hv2 (by decide), show bits .and .i64 (v2 : Int) 15 = _ from andI v2 15 hv2 (by decide)]
  have hab : ∀ x, a = some x → x.block ≠ b3 := fun x hx e => by have := hax x hx; omega
  have HA3 : Hid (At8 ((((w5.setCell ⟨b3, 1, none⟩ (.bool (decide (v2 &&& 32768 ≠ 0)))).setCell ⟨b3, 2, none⟩ (.bool (decide (v2 &&& 512 ≠ 0)))).setCell ⟨b3, 3, none⟩ (.bool (decide (v2 &&& 256 ≠ 0)))).setCell ⟨b3, 4, none⟩ (.int .i64 ((v2 &&& 15 : Nat) : Int))) b3 #[.int .i64 (v1 : Int), .bool (decide (v2 &&& 32768 ≠ 0)), .bool (decide (v2 &&& 512 ≠ 0)), .bool (decide (v2 &&& 256 ≠ 0)), .int .i64 ((v2 &&& 15 : Nat) : Int), .string ⟨#[]⟩, .int .i64 0, .slice none 0 0]) := Lib.hid ((((HA3.out.set 1 _).set 2 _).set 3 _).set 4 _)
  have HA2 := Lib.hid ((((HA2.out.late (b' := b3) (by omega) 1 (.bool (decide (v2 &&& 32768 ≠ 0)))).late (b' := b3) (by omega) 2 (.bool (decide (v2 &&& 512 ≠ 0)))).late (b' := b3) (by omega) 3 (.bool (decide (v2 &&& 256 ≠ 0)))).late (b' := b3) (by omega) 4 (.int .i64 ((v2 &&& 15 : Nat) : Int)))
  have HR := Lib.hid ((((HR.out.late hb3p hab 1 (.bool (decide (v2 &&& 32768 ≠ 0)))).late hb3p hab 2 (.bool (decide (v2 &&& 512 ≠ 0)))).late hb3p hab 3 (.bool (decide (v2 &&& 256 ≠ 0)))).late hb3p hab 4 (.int .i64 ((v2 &&& 15 : Nat) : Int)))
  have HK := Lib.hid ((((HK.out.late (Nat.le_of_lt hb23) 1 (.bool (decide (v2 &&& 32768 ≠ 0)))).late (Nat.le_of_lt hb23) 2 (.bool (decide (v2 &&& 512 ≠ 0)))).late (Nat.le_of_lt hb23) 3 (.bool (decide (v2 &&& 256 ≠ 0)))).late (Nat.le_of_lt hb23) 4 (.int .i64 ((v2 &&& 15 : Nat) : Int)))
  generalize ((((w5.setCell ⟨b3, 1, none⟩ (.bool (decide (v2 &&& 32768 ≠ 0)))).setCell ⟨b3, 2, none⟩ (.bool (decide (v2 &&& 512 ≠ 0)))).setCell ⟨b3, 3, none⟩ (.bool (decide (v2 &&& 256 ≠ 0)))).setCell ⟨b3, 4, none⟩ (.int .i64 ((v2 &&& 15 : Nat) : Int))) = W8 at *
  obtain ⟨q1, hq1⟩ : ∃ q, decide (v2 &&& 32768 ≠ 0) = q := ⟨_, rfl⟩
  obtain ⟨q2, hq2⟩ : ∃ q, decide (v2 &&& 512 ≠ 0) = q := ⟨_, rfl⟩
  obtain ⟨q3, hq3⟩ : ∃ q, decide (v2 &&& 256 ≠ 0) = q := ⟨_, rfl⟩
  obtain ⟨q4, hq4⟩ : ∃ q, v2 &&& 15 = q := ⟨_, rfl⟩
  rw [hq1, hq2, hq3, hq4] at HA3 ⊢
  have HQ1 := Lib.hid hq1
  have HQ2 := Lib.hid hq2
  have HQ3 := Lib.hid hq3
  have HQ4 := Lib.hid hq4
  clear k1 k2 k3 k4 f1 f2 f3 f4 hq1 hq2 hq3 hq4
  go_upto_region 9 with (first | (go_at_call 35; refine (HN2.out _ _ HR.out).mono ?_; rintro e w9 ⟨v4, s4, hn2, hv4, rfl, hr2, hk2⟩; have HR := Lib.hid hr2; have HA2 := Lib.hid (HA2.out.kp hk2 hbp); have HA3 := Lib.hid (HA3.out.kp hk2 hb3p); have HK := Lib.hid (HK.out.trans hk2); have HN4 := Lib.hid hn2; clear hr2 hk2 hn2) | (go_at_call 36; refine (HC.out _ _ _ HR.out).mono ?_; rintro e w10 ⟨rfl, hr2, hk2⟩; have HR := Lib.hid hr2; have HA2 := Lib.hid (HA2.out.kp hk2 hbp); have HA3 := Lib.hid (HA3.out.kp hk2 hb3p); have HK := Lib.hid (HK.out.trans hk2); clear hr2 hk2))
  go_upto_region 10 with (go_at_call 35; refine (HN2.out _ _ HR.out).mono ?_; rintro e w11 ⟨v6, s6, hn2, hv6, rfl, hr2, hk2⟩; have HR := Lib.hid hr2; have HA2 := Lib.hid (HA2.out.kp hk2 hbp); have HA3 := Lib.hid (HA3.out.kp hk2 hb3p); have HK := Lib.hid (HK.out.trans hk2); have HN6 := Lib.hid hn2; clear hr2 hk2 hn2)
  go_upto_region 11 with (go_at_call 36; refine (HC.out _ _ _ HR.out).mono ?_; rintro e w12 ⟨rfl, hr2, hk2⟩; have HR := Lib.hid hr2; have HA2 := Lib.hid (HA2.out.kp hk2 hbp); have HA3 := Lib.hid (HA3.out.kp hk2 hb3p); have HK := Lib.hid (HK.out.trans hk2); clear hr2 hk2)
  have HT4 : Hid (∀ W st, RDS W p a n c l st → Calls Tryd.prog 37 #[.pointer (some ⟨p, 0, none⟩), .int .i64 4] W fun e w' => (∃ q m c', e = .returned (.slice q m c')) ∧ RDS w' p a n c l (numSt l st 4).2 ∧ Kp p W w') := Lib.hid (fun W st hW => take_st W p a n c l st 4 hW (by decide))
  go_upto_region 12 with (go_at_call 37; refine (HT4.out _ _ HR.out).mono ?_; rintro e w13 ⟨⟨z1, z2, z3, rfl⟩, hr2, hk2⟩; have HR := Lib.hid hr2; have HA2 := Lib.hid (HA2.out.kp hk2 hbp); have HA3 := Lib.hid (HA3.out.kp hk2 hb3p); have HK := Lib.hid (HK.out.trans hk2); clear hr2 hk2)
  obtain ⟨s8, hs8⟩ : ∃ s, (numSt l (chk s6 (decide ((v6 : Int) ≤ 32))) 4).2 = s := ⟨_, rfl⟩
  rw [hs8] at HR
  have HS8 := Lib.hid hs8
  have hmx : ∀ W, Kp p w W → MaxAt W := fun W hk => by
    obtain ⟨m, hm2⟩ := hm
    have hlt : 0 < w.heap.size := MaxAt.lt ⟨m, hm2⟩
    exact ⟨m, by rw [hk.cell (x := ⟨0, 0, none⟩) hlt (fun e => hp0 e.symm)]; exact hm2⟩
  have HMx := Lib.hid hmx
  clear hs8 hmx
  go_upto_region 13 with (go_at_call 38; refine (subject_st _ p a n c l _ HR.out hn (HMx.out _ HK.out) hp0).mono ?_; rintro e w14 ⟨⟨m, t, rfl, hmt⟩, hr2, hk2⟩; have HR := Lib.hid hr2; have HA2 := Lib.hid (HA2.out.kp hk2 hbp); have HA3 := Lib.hid (HA3.out.kp hk2 hb3p); have HK := Lib.hid (HK.out.trans hk2); have HMt := Lib.hid hmt; have k5 := HA3.out.cell (j := 5) rfl; have k6 := HA3.out.cell (j := 6) rfl; have f5 := HA3.out.free 5; have f6 := HA3.out.free 6; clear hr2 hk2 hmt)
  have HA3 : Hid (At8 ((w14.setCell ⟨b3, 5, none⟩ (.string m)).setCell ⟨b3, 6, none⟩ (.int .i64 (t : Int))) b3 #[.int .i64 (v1 : Int), .bool q1, .bool q2, .bool q3, .int .i64 (q4 : Int), .string m, .int .i64 (t : Int), .slice none 0 0]) := Lib.hid ((HA3.out.set 5 _).set 6 _)
  have HA2 := Lib.hid ((HA2.out.late (b' := b3) (by omega) 5 (.string m)).late (b' := b3) (by omega) 6 (.int .i64 (t : Int)))
  have HR := Lib.hid ((HR.out.late hb3p hab 5 (.string m)).late hb3p hab 6 (.int .i64 (t : Int)))
  have HK := Lib.hid ((HK.out.late (Nat.le_of_lt hb23) 5 (.string m)).late (Nat.le_of_lt hb23) 6 (.int .i64 (t : Int)))
  generalize ((w14.setCell ⟨b3, 5, none⟩ (.string m)).setCell ⟨b3, 6, none⟩ (.int .i64 (t : Int))) = W15 at *
  obtain ⟨s9, hs9⟩ : ∃ s, (subjSt l s8).map (·.2.2) = s := ⟨_, rfl⟩
  rw [hs9] at HR
  have HS9 := Lib.hid hs9
  obtain ⟨i4, hi, hz0, hz1, hz2⟩ := info_parts infoRec
  clear k5 k6 f5 f6 hs9
  go_wp2
  go_loopw [6] (fun iv wr => ∃ (k : Nat) (v : Value) (rs : List Rec) (st : Option Nat), k ≤ v6 ∧ iv = .int .i64 k ∧ At8 wr b3 #[.int .i64 (v1 : Int), .bool q1, .bool q2, .bool q3, .int .i64 (q4 : Int), .string m, .int .i64 (t : Int), v] ∧ RecC (b3 + 1) wr v rs ∧ rs.length = k ∧ (recsW l s9 k).map (·.2) = st ∧ (∀ rs' j, recsW l s9 k = some (rs', j) → rs = rs') ∧ At8 wr w.heap.size #[.int .i64 0, .bool false, .bool false, .bool false, .int .i64 0, .string ⟨#[]⟩, .int .i64 0, .slice none 0 0] ∧ RDS wr p a n c l st ∧ Kp p w wr) (fun iv _ => v6 - (intOf iv).toNat)
  case atStart => exact ⟨0, _, [], s9, Nat.zero_le _, rfl, HA3.out, World.ownsRow_nil _ _ _ _, rfl, by show (s9.map fun j => (([] : List Rec), j)).map (·.2) = s9; cases s9 <;> rfl, fun rs' j hh => by
      cases s9 with
      | none => cases hh
      | some q => cases hh; rfl, HA2.out, HR.out, HK.out⟩
  case round =>
    obtain ⟨k, v, rs, st, hk, rfl, ha3, hrc, hrl, hst, hrs, ha2, hr, hkp⟩ := hrel
    obtain ⟨i0, hbad⟩ := hr.bad
    have hcb := hbad.c2
    have HA3 := Lib.hid ha3
    have HA2 := Lib.hid ha2
    have HR := Lib.hid hr
    have HK := Lib.hid hkp
    have HRc := Lib.hid hrc
    have HSt := Lib.hid hst
    have HRs := Lib.hid hrs
    clear ha3 ha2 hr hkp hrc hst hrs hbad
    by_cases hgo : k < v6 ∧ st ≠ none
    · obtain ⟨hlt, hstn⟩ := hgo
      obtain ⟨j0, rfl⟩ : ∃ j, st = some j := by cases st with | none => exact absurd rfl hstn | some j => exact ⟨j, rfl⟩
      obtain ⟨vp, vc, rfl⟩ : ∃ q c, v = .slice q rs.length c := by
        rcases HRc.out.2 with ⟨e1, e2⟩ | ⟨g, cap, cur, e1, _⟩
        · exact ⟨none, 0, by rw [e1, e2]⟩
        · exact ⟨_, _, e1⟩
      have HRd : Hid (RDS wr.drew p a n c l (some j0)) := Lib.hid (HR.out.map fun _ _ h => h.drawn 1)
      have HKd : Hid (Kp p w wr.drew) := Lib.hid (HK.out.trans (Kp.drawn p wr 1))
      have HA3d : Hid (At8 wr.drew b3 _) := Lib.hid HA3.out
      have HA2d : Hid (At8 wr.drew w.heap.size _) := Lib.hid HA2.out
      have HRcd : Hid (RecC (b3 + 1) wr.drew (.slice vp rs.length vc) rs) := Lib.hid (own_same HRc.out (fun _ _ => rfl))
      have HC7 : Hid (wr.drew.cell? ⟨b3, 7, none⟩ = some (.slice vp rs.length vc)) := Lib.hid (HA3d.out.cell (j := 7) rfl)
      have hk7 := HC7.out
      have hcv : cellOf wr.drew ⟨b3, 7, none⟩ = .slice vp rs.length vc := by unfold cellOf; rw [HC7.out]; rfl
      have hcv2 : cellOf wr ⟨b3, 7, none⟩ = .slice vp rs.length vc := hcv
      have hrl2 : rs.length ≤ 65536 := by omega
      have HRl := Lib.hid hrl
      clear hstn hrl
      go_wp2
      go_region_law (first | (refine step_append_lies _ (by rfl) _ _ _ (by rfl) (b3 + 1) 48 i4 (.agg #[.string ⟨#[]⟩, .int .i64 0, .int .i64 0, .string ⟨#[]⟩]) 4 48 Tryd.underlying24 hi hz0 hz1 hz2 rfl (by decide) (.slice vp rs.length vc) rs.length (rs.flatMap recCells) (by rfl) (World.ownsRow.alloc HRc16.out _) ⟨w16.heap.size, 0, none⟩ 1 1 [.string rm, .int .i64 (rt : Int), .int .i64 (rv : Int), .string rd] (by rfl) rfl (new_cells4 _ _ _ _ _ _) (by simp [Value.oneCell']) (by decide) (by unfold maxLen; omega) (by omega) (by have := HA316.out.lt; show b3 + 1 ≤ (w16.heap.push _).size; simp; omega) (w16.heap.size + 1) (by show (w16.heap.push _).size = _; simp) ?_; intro g17 cap17 w17 hown17 hg17 hat17 hlt17; have hb17 : w17.heap[b3]? = (w16.alloc (.cells #[.string rm, .int .i64 (rt : Int), .int .i64 (rv : Int), .string rd] 48)).heap[b3]? := hg17.block b3 (HA316.out.alloc _).lt (fun e => by have := (World.ownsRow.lt HRc16.out b3 e.symm).1; omega); have HA317 : Hid (At8 w17 b3 _) := Lib.hid (hb17.trans (HA316.out.alloc _)); have HC7 : Hid (w17.cell? ⟨b3, 7, none⟩ = some (.slice vp rs.length vc)) := Lib.hid (HA317.out.cell (j := 7) rfl); have hf17 := HA317.out.free 7; have hc17 := HC7.out) | (go_simp; refine (record_st _ p a n c l (some j0) HRd.out hn (HMx.out _ HKd.out) hp0).mono ?_; rintro e w16 ⟨⟨rm, rd, rt, rv, rfl, hrec⟩, hr2, hk2⟩; have HR16 := Lib.hid hr2; have HK16 := Lib.hid (HKd.out.trans hk2); have HA316 := Lib.hid (HA3d.out.kp hk2 hb3p); have HA216 := Lib.hid (HA2d.out.kp hk2 hbp); have HRc16 := Lib.hid (own_kp HRcd.out hk2 (by omega)); have HRec := Lib.hid hrec; have HC7 : Hid (w16.cell? ⟨b3, 7, none⟩ = some (.slice vp rs.length vc)) := Lib.hid (HA316.out.cell (j := 7) rfl); have hk716 := HC7.out; have HC7A := Lib.hid ((HA316.out.alloc (.cells #[.string rm, .int .i64 (rt : Int), .int .i64 (rv : Int), .string rd] 48)).cell (j := 7) rfl); have hk7A := HC7A.out; clear hr2 hk2 hrec))
      all_goals
        go_wp2
        go_roundw
        case rel =>
          have hszA : (w16.alloc (.cells #[.string rm, .int .i64 (rt : Int), .int .i64 (rv : Int), .string rd] 48)).heap.size = w16.heap.size + 1 := by show (w16.heap.push _).size = _; simp
          have hblk : ∀ j, j ≤ b3 → j < w16.heap.size → w17.heap[j]? = w16.heap[j]? := fun j hj hj2 => by
            rw [hg17.block j (by omega) (fun e => by have := (World.ownsRow.lt HRc16.out j e.symm).1; omega)]
            show (w16.heap.push _)[j]? = _
            rw [Array.getElem?_push, if_neg (by omega)]
          have hs17 : w16.heap.size ≤ w17.heap.size := by have := hg17.size; omega
          have hb16 := HA316.out.lt
          have hp16 : p < w16.heap.size := by omega
          have hw16 : w.heap.size < w16.heap.size := HA216.out.lt
          have hkp17 : Kp p w w17 := ⟨hg17.os.trans HK16.out.os, hg17.tape.trans HK16.out.tape, hg17.output.trans HK16.out.output, Nat.le_trans HK16.out.size hs17, fun j hj hjp => (hblk j (by omega) (by omega)).trans (HK16.out.block j hj hjp)⟩
          obtain ⟨rs0, hrs0⟩ : ∃ rs0, recsW l s9 k = some (rs0, j0) := by
            have := HSt.out
            cases hq : recsW l s9 k with
            | none => rw [hq] at this; cases this
            | some q => obtain ⟨q1, q2⟩ := q; rw [hq] at this; cases this; exact ⟨q1, rfl⟩
          obtain rfl : rs = rs0 := HRs.out rs0 j0 hrs0
          have hstep : recsW l s9 (k + 1) = (recW l j0).map fun x => (rs ++ [x.1], x.2) := by rw [recsW, hrs0]; rfl
          refine ⟨k + 1, _, rs ++ [⟨rm.data.toList, rt, rv, rd.data.toList⟩], (recSt l (some j0)).map (·.2), hlt, by go_num, HA317.out.set 7 _, ?_, by rw [List.length_append, HRl.out]; rfl, ?_, ?_, At8.late (b := w.heap.size) ((hblk w.heap.size (by omega) hw16).trans HA216.out) (by omega) 7 _, (HR16.out.map fun _ _ h => h.same (hblk p (by omega) (by omega)) (fun x hx => hblk x.block (by have := hax x hx; omega) (by have := hax x hx; omega)) hs17).late hb3p hab 7 _, hkp17.late (by omega) 7 _⟩
          · unfold RecC
            rw [List.flatMap_append, List.length_append]
            have e : ([⟨rm.data.toList, rt, rv, rd.data.toList⟩] : List Rec).flatMap recCells = [.string rm, .int .i64 (rt : Int), .int .i64 (rv : Int), .string rd] := by simp [recCells, bkW]
            rw [e]
            exact own_same hown17 (fun j hj => by
              show (w17.heap.modify b3 _)[j]? = _
              rw [Array.getElem?_modify, if_neg (by omega)])
          · rw [hstep, Option.map_map]; rfl
          · intro rs' j hh
            rw [hstep] at hh
            obtain ⟨x, hx, e⟩ := Option.map_eq_some_iff.1 hh
            obtain ⟨h1, h2, h3, h4⟩ := HRec.out x.1 x.2 hx
            cases e
            rw [h1, h2, h3, h4]
        case measure => simp [intOf]; omega
    · have g0 := HA3.out.cell (j := 0) rfl
      have g1 := HA3.out.cell (j := 1) rfl
      have g2 := HA3.out.cell (j := 2) rfl
      have g3 := HA3.out.cell (j := 3) rfl
      have g4 := HA3.out.cell (j := 4) rfl
      have g5 := HA3.out.cell (j := 5) rfl
      have g6 := HA3.out.cell (j := 6) rfl
      have g7 := HA3.out.cell (j := 7) rfl
      have d0 := HA2.out.cell (j := 0) rfl
      have d1 := HA2.out.cell (j := 1) rfl
      have d2 := HA2.out.cell (j := 2) rfl
      have d3 := HA2.out.cell (j := 3) rfl
      have d4 := HA2.out.cell (j := 4) rfl
      have d5 := HA2.out.cell (j := 5) rfl
      have d6 := HA2.out.cell (j := 6) rfl
      have d7 := HA2.out.cell (j := 7) rfl
      have e0 := HA2.out.free 0
      have e1 := HA2.out.free 1
      have e2 := HA2.out.free 2
      have e3 := HA2.out.free 3
      have e4 := HA2.out.free 4
      have e5 := HA2.out.free 5
      have e6 := HA2.out.free 6
      have e7 := HA2.out.free 7
      obtain ⟨vp, vc, rfl⟩ : ∃ q c, v = .slice q rs.length c := by
        rcases HRc.out.2 with ⟨e1, e2⟩ | ⟨g, cap, cur, e1, _⟩
        · exact ⟨none, 0, by rw [e1, e2]⟩
        · exact ⟨_, _, e1⟩
      have HRl := Lib.hid hrl
      clear hrl
      have hfin : ∀ W, W = ((((((((wr.setCell ⟨w.heap.size, 0, none⟩ (.int .i64 (v1 : Int))).setCell ⟨w.heap.size, 1, none⟩ (.bool q1)).setCell ⟨w.heap.size, 2, none⟩ (.bool q2)).setCell ⟨w.heap.size, 3, none⟩ (.bool q3)).setCell ⟨w.heap.size, 4, none⟩ (.int .i64 (q4 : Int))).setCell ⟨w.heap.size, 5, none⟩ (.string m)).setCell ⟨w.heap.size, 6, none⟩ (.int .i64 (t : Int))).setCell ⟨w.heap.size, 7, none⟩ (.slice vp rs.length vc)) →
          At8 W w.heap.size #[.int .i64 (v1 : Int), .bool q1, .bool q2, .bool q3, .int .i64 (q4 : Int), .string m, .int .i64 (t : Int), .slice vp rs.length vc] ∧ Kp p w W ∧ RDS W p a n c l st ∧ RecC (w.heap.size + 1) W (.slice vp rs.length vc) rs := fun W hW => by
        subst hW
        have hba : ∀ x, a = some x → x.block ≠ w.heap.size := fun x hx e => by have := hax x hx; omega
        refine ⟨(((((((HA2.out.set 0 _).set 1 _).set 2 _).set 3 _).set 4 _).set 5 _).set 6 _).set 7 _, (((((((HK.out.late (Nat.le_refl _) 0 _).late (Nat.le_refl _) 1 _).late (Nat.le_refl _) 2 _).late (Nat.le_refl _) 3 _).late (Nat.le_refl _) 4 _).late (Nat.le_refl _) 5 _).late (Nat.le_refl _) 6 _).late (Nat.le_refl _) 7 _, (((((((HR.out.late hbp hba 0 _).late hbp hba 1 _).late hbp hba 2 _).late hbp hba 3 _).late hbp hba 4 _).late hbp hba 5 _).late hbp hba 6 _).late hbp hba 7 _, ?_⟩
        have hb : ∀ (W : World) (k : Nat) (x : Value), RecC (w.heap.size + 1) W (.slice vp rs.length vc) rs → RecC (w.heap.size + 1) (W.setCell ⟨w.heap.size, k, none⟩ x) (.slice vp rs.length vc) rs := fun W k x h => own_same h (fun j hj => by
          show (W.heap.modify w.heap.size _)[j]? = _
          rw [Array.getElem?_modify, if_neg (by omega)])
        have h0 : RecC (w.heap.size + 1) wr (.slice vp rs.length vc) rs := own_lower HRc.out (by omega)
        exact hb _ _ _ (hb _ _ _ (hb _ _ _ (hb _ _ _ (hb _ _ _ (hb _ _ _ (hb _ _ _ (hb _ _ _ h0)))))))
      have HFin := Lib.hid hfin
      clear hfin
      have hmsg : (k = v6 ∨ st = none) → match msgW l with
          | some M => st ≠ none ∧ M = ⟨v1, q1, q2, q3, q4, m.data.toList, t, rs⟩
          | none => st = none := fun hex => by
        have hmW : msgW l = (subjSt l s8).bind fun q => (recsW l (some q.2.2) v6).map fun r => ⟨v1, q1, q2, q3, q4, q.1, q.2.1, r.1⟩ := by
          unfold msgW
          simp only [HN1.out, HN2a.out, HN4.out, HN6.out, HS8.out, HQ1.out, HQ2.out, HQ3.out, HQ4.out]
        have hSt := HSt.out
        have hRs := HRs.out
        rw [hmW]
        cases hsub : subjSt l s8 with
        | none =>
          have hs9 : s9 = none := by have := HS9.out; rw [hsub] at this; exact this.symm
          rw [hs9, recsW_none (Nat.zero_le k) rfl] at hSt
          exact hSt.symm
        | some q =>
          obtain ⟨m0, t0, j⟩ := q
          have hs9 : s9 = some j := by have := HS9.out; rw [hsub] at this; exact this.symm
          obtain ⟨hm0, ht0⟩ := HMt.out m0 t0 j hsub
          rw [hs9] at hSt hRs
          simp only [Option.bind_some]
          cases hr : recsW l (some j) v6 with
          | none =>
            simp only [Option.map_none]
            rcases hex with h | h
            · rw [h, hr] at hSt; exact hSt.symm
            · exact h
          | some r =>
            obtain ⟨rs', j2⟩ := r
            simp only [Option.map_some]
            have hne : st ≠ none := fun hn => by
              rw [hn] at hSt
              have h0 : recsW l (some j) k = none := by
                cases hq : recsW l (some j) k with
                | none => rfl
                | some q => rw [hq] at hSt; cases hSt
              rw [recsW_none hk h0] at hr
              cases hr
            refine ⟨hne, ?_⟩
            have hkv : k = v6 := by rcases hex with h | h; exact h; exact absurd h hne
            rw [hkv] at hRs
            rw [hRs rs' j2 hr, hm0, ht0]
      have HMsg := Lib.hid hmsg
      clear hmsg
      by_cases hlt : k < v6
      · obtain rfl : st = none := by cases st with | none => rfl | some j => exact absurd ⟨hlt, by simp⟩ hgo
        go_wp2
        obtain ⟨z1, z2, z3, z4⟩ := HFin.out _ rfl
        refine bodyPost_ret (results_cell_row rfl _ _ _ _ _ _ _ rfl z1 Tryd.underlying26 rfl (by kernel_rfl)) rfl ?_
        have hM := HMsg.out (.inr (by first | trivial | rfl))
        refine ⟨z2, ?_⟩
        cases hw : msgW l with
        | some M => rw [hw] at hM; exact absurd rfl hM.1
        | none => exact ⟨⟨v1, q1, q2, q3, q4, m, t, _, rs, rfl, z4⟩, z3⟩
      · have hki : ¬ (k : Int) < (v6 : Int) := by omega
        go_wp2
        obtain ⟨z1, z2, z3, z4⟩ := HFin.out _ rfl
        refine bodyPost_ret (results_cell_row rfl _ _ _ _ _ _ _ rfl z1 Tryd.underlying26 rfl (by kernel_rfl)) rfl ?_
        have hM := HMsg.out (.inl (by omega))
        refine ⟨z2, ?_⟩
        cases hw : msgW l with
        | some M =>
          rw [hw] at hM
          obtain ⟨hne, rfl⟩ := hM
          refine ⟨⟨_, ?_, z4⟩, ?_⟩
          · unfold Msg.val; rw [bkW]
          · cases st with
            | none => exact absurd rfl hne
            | some j => exact ⟨_, z3.1⟩
        | none =>
          rw [hw] at hM
          simp only at hM
          subst hM
          exact ⟨⟨v1, q1, q2, q3, q4, m, t, _, rs, rfl, z4⟩, z3⟩
end Go.Proofs.YtepfeekfglpjoaaDoor

namespace Go.Wi
open Go.RowKit
def decW (l : List UInt8) : Option Msg := if l.length ≤ 4096 then msgW l else none
theorem results_row2 {P : Program} {fn : Func} {p u : Tmp} {ty : TypeId} (h : fn.results = #[.cell p ty, .tmp u]) (tmps : Array Value) (w : World) (g : Nat) (t : TypeId) (cs : Array Value) (fr : Nat × Nat) (d : TypeDesc)
    (hp : tmps.getD p undef = .pointer (some ⟨g, 0, none⟩)) (hg : w.heap[g]? = some (.cells cs t fr))
    (hu : P.underlying ty = some d) (hd : (match d with | .struct _ | .array _ _ => true | _ => false) = true) (hi : (P.info? ty).map (·.size) = some cs.size) :
    (results fn tmps).run P w = .ok (.tuple #[.agg cs, tmps.getD u undef]) w := by
  rw [results_cell_tmp h, hp]
  simp [asAddr, run_loadVar_row w g t ty cs fr d hg hu hd hi, Result.andThen]
end Go.Wi
namespace Go.Proofs.YtepfeekfglpjoaaDoor
open Go.RowKit Go.Lib Go.Wi Go.Tx
def zMsg : Array Value := #[.int .i64 0, .bool false, .bool false, .bool false, .int .i64 0, .string ⟨#[]⟩, .int .i64 0, .slice none 0 0]
abbrev badV : Value := .iface 53 (.int .i64 8)
def DecR (w : World) (l : List UInt8) (e : Ending) (w' : World) : Prop :=
  Below w.heap.size w w' ∧ match decW l with
    | some M => ∃ v, e = .returned (.tuple #[M.val v, .nilIface]) ∧ RecC w.heap.size w' v M.recs
    | none => e = .returned (.tuple #[.agg zMsg, badV])
theorem cell_of {W : World} {b : Nat} {arr : Array Value} {e : TypeId} {fr : Nat × Nat} (h : W.heap[b]? = some (.cells arr e fr)) {j : Nat} {v : Value} (hj : arr[j]? = some v) : W.cell? ⟨b, j, none⟩ = some v := by simp [World.cell?, h, hj]
theorem free_of {W : World} {b : Nat} {arr : Array Value} {e : TypeId} (h : W.heap[b]? = some (.cells arr e (0, 0))) (j : Nat) : W.frozen? ⟨b, j, none⟩ = false := by simp [World.frozen?, h]
def set8 (w : World) (b : Nat) (x0 x1 x2 x3 x4 x5 x6 x7 : Value) : World :=
  (((((((w.setCell ⟨b, 0, none⟩ x0).setCell ⟨b, 1, none⟩ x1).setCell ⟨b, 2, none⟩ x2).setCell ⟨b, 3, none⟩ x3).setCell ⟨b, 4, none⟩ x4).setCell ⟨b, 5, none⟩ x5).setCell ⟨b, 6, none⟩ x6).setCell ⟨b, 7, none⟩ x7
section
variable {w : World} {b : Nat} {x0 x1 x2 x3 x4 x5 x6 x7 : Value}
theorem zset : (((((((zMsg.setIfInBounds 0 x0).setIfInBounds 1 x1).setIfInBounds 2 x2).setIfInBounds 3 x3).setIfInBounds 4 x4).setIfInBounds 5 x5).setIfInBounds 6 x6).setIfInBounds 7 x7 = #[x0, x1, x2, x3, x4, x5, x6, x7] := by
  unfold zMsg
  simp
theorem set8_at (h : At8 w b zMsg) : At8 (set8 w b x0 x1 x2 x3 x4 x5 x6 x7) b #[x0, x1, x2, x3, x4, x5, x6, x7] := by
  have h1 := h.set 0 x0
  have h2 := h1.set 1 x1
  have h3 := h2.set 2 x2
  have h4 := h3.set 3 x3
  have h5 := h4.set 4 x4
  have h6 := h5.set 5 x5
  have h7 := h6.set 6 x6
  have h8 := h7.set 7 x7
  rw [zset] at h8
  exact h8
theorem below_set1 {B : Nat} {a w : World} {b : Nat} (h : Below B a w) (hb : B ≤ b) (k : Nat) (x : Value) : Below B a (w.setCell ⟨b, k, none⟩ x) :=
  ⟨h.os, h.tape, h.output, by have := h.size; show a.heap.size ≤ (w.heap.modify _ _).size; simpa using this, fun j hj => by
    show (w.heap.modify b _)[j]? = _
    rw [Array.getElem?_modify, if_neg (by omega)]; exact h.block j hj⟩
theorem below_set8 {B : Nat} {a : World} (h : Below B a w) (hb : B ≤ b) : Below B a (set8 w b x0 x1 x2 x3 x4 x5 x6 x7) := by
  have h1 := below_set1 h hb 0 x0
  have h2 := below_set1 h1 hb 1 x1
  have h3 := below_set1 h2 hb 2 x2
  have h4 := below_set1 h3 hb 3 x3
  have h5 := below_set1 h4 hb 4 x4
  have h6 := below_set1 h5 hb 5 x5
  have h7 := below_set1 h6 hb 6 x6
  exact below_set1 h7 hb 7 x7
theorem own_set1 {B n : Nat} {e : TypeId} {size : Nat} {v : Value} {xs : List Value} {w : World} {b : Nat} (h : w.ownsRow B e size v n xs) (hb : b < B) (k : Nat) (x : Value) : (w.setCell ⟨b, k, none⟩ x).ownsRow B e size v n xs := own_same h fun j hj => by
  show (w.heap.modify b _)[j]? = _
  rw [Array.getElem?_modify, if_neg (by omega)]
theorem own_set8 {B n : Nat} {e : TypeId} {size : Nat} {v : Value} {xs : List Value} (h : w.ownsRow B e size v n xs) (hb : b < B) : (set8 w b x0 x1 x2 x3 x4 x5 x6 x7).ownsRow B e size v n xs := by
  have h1 := own_set1 h hb 0 x0
  have h2 := own_set1 h1 hb 1 x1
  have h3 := own_set1 h2 hb 2 x2
  have h4 := own_set1 h3 hb 3 x3
  have h5 := own_set1 h4 hb 4 x4
  have h6 := own_set1 h5 hb 5 x5
  have h7 := own_set1 h6 hb 6 x6
  exact own_set1 h7 hb 7 x7
end
theorem slice_of {B : Nat} {w : World} {v : Value} {rs : List Rec} (h : RecC B w v rs) : ∃ q c, v = .slice q rs.length c := by
  rcases h.2 with ⟨e1, e2⟩ | ⟨g, cap, cur, e1, _⟩
  · exact ⟨none, 0, by rw [e1, e2]⟩
  · exact ⟨_, _, e1⟩
set_option maxHeartbeats 2000000 in
set_option maxRecDepth 100000 in
theorem decode_any (a : Option Addr) (n c : Nat) (l : List UInt8) (w : World) (h : BA w a n c l) (hold : ∀ x, a = some x → x.block < w.heap.size) (hm : MaxAt w) :
    Calls Tryd.prog 13 #[.slice a n c] w (DecR w l) := by
  have hl := h.len
  by_cases hn : n ≤ 4096
  · have hni : ¬ (4096 : Int) < (n : Int) := by omega
    have hs1 : (w.alloc (.cells zMsg 26)).heap.size = w.heap.size + 1 := by show (w.heap.push _).size = _; simp
    have hb1 : Below w.heap.size w ((w.alloc (.cells zMsg 26)).alloc (.cells #[.slice a n c, .int .i64 0, .bool false] 59)) := ((Below.refl _ _).alloc (Nat.le_refl _) _).alloc (by rw [hs1]; omega) _
    have hA0 : At8 ((w.alloc (.cells zMsg 26)).alloc (.cells #[.slice a n c, .int .i64 0, .bool false] 59)) w.heap.size zMsg := At8.alloc (show At8 (w.alloc (.cells zMsg 26)) w.heap.size zMsg from heap_alloc_new w _) _
    have hp := heap_alloc_new (w.alloc (.cells zMsg 26)) (.cells #[.slice a n c, .int .i64 0, .bool false] 59)
    rw [hs1] at hp
    have hRD : RD ((w.alloc (.cells zMsg 26)).alloc (.cells #[.slice a n c, .int .i64 0, .bool false] 59)) (w.heap.size + 1) a n c l 0 false :=
      ⟨(Array.getElem?_eq_some_iff.1 hp).1, cell_of hp rfl, cell_of hp rfl, cell_of hp rfl, free_of hp 1, free_of hp 2,
        h.kp (p := w.heap.size + 1) (Kp.of hb1) (fun x hx => ⟨hold x hx, by have := hold x hx; omega⟩), fun x hx => ⟨Nat.lt_of_lt_of_le (hold x hx) hb1.size, by have := hold x hx; omega⟩⟩
    have HMs := Lib.hid (message_any _ (w.heap.size + 1) a n c l hRD hn (hm.below hb1) (by omega))
    have HD : Hid (decW l = msgW l) := Lib.hid (by unfold decW; rw [if_pos (by omega)])
    have HA0 := Lib.hid hA0
    have HB1 := Lib.hid hb1
    have hp1 : w.heap.size ≠ w.heap.size + 1 := by omega
    unfold zMsg at HMs HA0 HB1
    clear hRD hp hA0 hb1 h hold hs1
    unfold MsgR at HMs
    cases hw : msgW l with
    | some M =>
      rw [hw] at HMs HD
      clear hw
      go_enter Tryd.func13, Tryd.ntmps13
      go_upto_region 5 with (go_at_call 23; refine HMs.out.mono ?_; rintro e w2 ⟨hK, ⟨v, rfl, hrc⟩, i, hR⟩; obtain ⟨vq, vc, rfl⟩ := slice_of hrc; unfold Msg.val)
      have HA2 : Hid (At8 (w2.alloc (.cells #[.int .i64 (M.id : Int), .bool M.reply, .bool M.cut, .bool M.want, .int .i64 (M.code : Int), .string ⟨M.name.toArray⟩, .int .i64 (M.kind : Int), .slice vq M.recs.length vc] 26)) w.heap.size zMsg) := Lib.hid ((HA0.out.kp hK hp1).alloc _)
      have hbW := HB1.out.size
      have hp2 : w.heap.size + 1 < w2.heap.size := hR.lt
      have hcb : w2.cell? ⟨w.heap.size + 1, 2, none⟩ = some (.bool false) := hR.c2
      have hcb2 : (w2.alloc (.cells #[.int .i64 (M.id : Int), .bool M.reply, .bool M.cut, .bool M.want, .int .i64 (M.code : Int), .string ⟨M.name.toArray⟩, .int .i64 (M.kind : Int), .slice vq M.recs.length vc] 26)).cell? ⟨w.heap.size + 1, 2, none⟩ = some (.bool false) := by rw [((Below.refl w2.heap.size w2).alloc (Nat.le_refl _) _).cell (p := ⟨w.heap.size + 1, 2, none⟩) hp2]; exact hcb
      have hbel : Below w.heap.size w (w2.alloc (.cells #[.int .i64 (M.id : Int), .bool M.reply, .bool M.cut, .bool M.want, .int .i64 (M.code : Int), .string ⟨M.name.toArray⟩, .int .i64 (M.kind : Int), .slice vq M.recs.length vc] 26)) := by
        have h1 := HB1.out.trans (hK.below (B := w.heap.size) (by omega) hbW)
        exact h1.alloc h1.size _
      have HBel := Lib.hid hbel
      have HRc := Lib.hid (World.ownsRow.alloc hrc (.cells #[.int .i64 (M.id : Int), .bool M.reply, .bool M.cut, .bool M.want, .int .i64 (M.code : Int), .string ⟨M.name.toArray⟩, .int .i64 (M.kind : Int), .slice vq M.recs.length vc] 26))
      have d0 := HA2.out.cell (j := 0) rfl
      have d1 := HA2.out.cell (j := 1) rfl
      have d2 := HA2.out.cell (j := 2) rfl
      have d3 := HA2.out.cell (j := 3) rfl
      have d4 := HA2.out.cell (j := 4) rfl
      have d5 := HA2.out.cell (j := 5) rfl
      have d6 := HA2.out.cell (j := 6) rfl
      have d7 := HA2.out.cell (j := 7) rfl
      have e0 := HA2.out.free 0
      have e1 := HA2.out.free 1
      have e2 := HA2.out.free 2
      have e3 := HA2.out.free 3
      have e4 := HA2.out.free 4
      have e5 := HA2.out.free 5
      have e6 := HA2.out.free 6
      have e7 := HA2.out.free 7
      clear hK hR hrc hbel
      go_wp2
      refine bodyPost_ret (results_row2 rfl _ _ _ _ _ _ _ rfl (set8_at HA2.out) Tryd.underlying26 rfl (by kernel_rfl)) rfl ?_
      refine ⟨below_set8 HBel.out (Nat.le_refl _), ?_⟩
      rw [HD.out]
      exact ⟨_, rfl, own_lower (own_set8 HRc.out (by omega)) (by omega)⟩
    | none =>
      rw [hw] at HMs HD
      clear hw
      go_enter Tryd.func13, Tryd.ntmps13
      go_upto_region 5 with (go_at_call 23; refine HMs.out.mono ?_; rintro e w2 ⟨hK, ⟨i1, q1, q2, q3, k1, m1, t1, v, rs, rfl, hrc⟩, i, hR⟩; obtain ⟨vq, vc, rfl⟩ := slice_of hrc)
      have HA2 : Hid (At8 (w2.alloc (.cells #[.int .i64 (i1 : Int), .bool q1, .bool q2, .bool q3, .int .i64 (k1 : Int), .string m1, .int .i64 (t1 : Int), .slice vq rs.length vc] 26)) w.heap.size zMsg) := Lib.hid ((HA0.out.kp hK hp1).alloc _)
      have hbW := HB1.out.size
      have hp2 : w.heap.size + 1 < w2.heap.size := hR.lt
      have hcb : w2.cell? ⟨w.heap.size + 1, 2, none⟩ = some (.bool true) := hR.c2
      have hcb2 : (w2.alloc (.cells #[.int .i64 (i1 : Int), .bool q1, .bool q2, .bool q3, .int .i64 (k1 : Int), .string m1, .int .i64 (t1 : Int), .slice vq rs.length vc] 26)).cell? ⟨w.heap.size + 1, 2, none⟩ = some (.bool true) := by rw [((Below.refl w2.heap.size w2).alloc (Nat.le_refl _) _).cell (p := ⟨w.heap.size + 1, 2, none⟩) hp2]; exact hcb
      have hbel : Below w.heap.size w (w2.alloc (.cells #[.int .i64 (i1 : Int), .bool q1, .bool q2, .bool q3, .int .i64 (k1 : Int), .string m1, .int .i64 (t1 : Int), .slice vq rs.length vc] 26)) := by
        have h1 := HB1.out.trans (hK.below (B := w.heap.size) (by omega) hbW)
        exact h1.alloc h1.size _
      have HBel := Lib.hid hbel
      have HRc := Lib.hid (World.ownsRow.alloc hrc (.cells #[.int .i64 (i1 : Int), .bool q1, .bool q2, .bool q3, .int .i64 (k1 : Int), .string m1, .int .i64 (t1 : Int), .slice vq rs.length vc] 26))
      have d0 := HA2.out.cell (j := 0) rfl
      have d1 := HA2.out.cell (j := 1) rfl
      have d2 := HA2.out.cell (j := 2) rfl
      have d3 := HA2.out.cell (j := 3) rfl
      have d4 := HA2.out.cell (j := 4) rfl
      have d5 := HA2.out.cell (j := 5) rfl
      have d6 := HA2.out.cell (j := 6) rfl
      have d7 := HA2.out.cell (j := 7) rfl
      have e0 := HA2.out.free 0
      have e1 := HA2.out.free 1
      have e2 := HA2.out.free 2
      have e3 := HA2.out.free 3
      have e4 := HA2.out.free 4
      have e5 := HA2.out.free 5
      have e6 := HA2.out.free 6
      have e7 := HA2.out.free 7
      clear hK hR hrc hbel
      go_wp2
      refine bodyPost_ret (results_row2 rfl _ _ _ _ _ _ _ rfl (set8_at HA2.out) Tryd.underlying26 rfl (by kernel_rfl)) rfl ?_
      refine ⟨below_set8 HBel.out (Nat.le_refl _), ?_⟩
      rw [HD.out]
      rfl
  · have hni : (4096 : Int) < (n : Int) := by omega
    have HD : Hid (decW l = none) := Lib.hid (by unfold decW; rw [if_neg (by omega)])
    have hnew := heap_alloc_new w (.cells zMsg 26)
    unfold zMsg at hnew
    clear h hold
    go_enter Tryd.func13, Tryd.ntmps13
    go_wp2
    refine bodyPost_ret (results_row2 rfl _ _ _ _ _ _ _ rfl hnew Tryd.underlying26 rfl (by kernel_rfl)) rfl ?_
    refine ⟨(Below.refl _ _).alloc (Nat.le_refl _) _, ?_⟩
    rw [HD.out]
    rfl
end Go.Proofs.YtepfeekfglpjoaaDoor

