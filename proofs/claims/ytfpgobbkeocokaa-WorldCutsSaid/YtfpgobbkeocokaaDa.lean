/- Bytes appended to a row of the call's own: what else is left as it was. -/
import Derived.Test.YtfpgobbkeocokaaRb
import Derived.Maps.RangeWalk
import Derived.Deep.AppendLies
import Derived.Deep.RegionLaw
namespace Go.Rb
open Go.RowKit Go.Ev
/-- Of what was there nothing has turned but what lies behind the first n cells of row g. -/
structure KG (g n : Nat) (w w' : World) : Prop where
  os : w'.os = w.os
  tape : w'.tape = w.tape
  output : w'.output = w.output
  size : w.heap.size ≤ w'.heap.size
  block : ∀ k, k < w.heap.size → k ≠ g → w'.heap[k]? = w.heap[k]?
  row : ∀ arr e fr, w.heap[g]? = some (.cells arr e fr) → ∃ arr', w'.heap[g]? = some (.cells arr' e fr) ∧ arr'.size = arr.size ∧ ∀ j, j < n → arr'[j]? = arr[j]?
theorem KG.of {w w' : World} (g n : Nat) (h : Below w.heap.size w w') : KG g n w w' :=
  ⟨h.os, h.tape, h.output, h.size, fun k hk _ => h.block k hk, fun arr e fr hg => ⟨arr, (h.block g (Array.getElem?_eq_some_iff.1 hg).1).trans hg, rfl, fun _ _ => rfl⟩⟩
theorem KG.below {B g n : Nat} {w w' : World} (h : KG g n w w') (hB : B ≤ g) (hs : B ≤ w.heap.size) : Below B w w' := ⟨h.os, h.tape, h.output, h.size, fun k hk => h.block k (by omega) (by omega)⟩
theorem KG.after {g n : Nat} {a b c : World} (h : Below a.heap.size a b) (k : KG g n b c) : KG g n a c :=
  ⟨k.os.trans h.os, k.tape.trans h.tape, k.output.trans h.output, Nat.le_trans h.size k.size, fun i hi hg => (k.block i (Nat.lt_of_lt_of_le hi h.size) hg).trans (h.block i hi), fun arr e fr hg => k.row arr e fr ((h.block g (Array.getElem?_eq_some_iff.1 hg).1).trans hg)⟩
theorem KG.then {g n : Nat} {a b c : World} (h : KG g n a b) (k : Below a.heap.size b c) : KG g n a c :=
  ⟨k.os.trans h.os, k.tape.trans h.tape, k.output.trans h.output, Nat.le_trans h.size k.size, fun i hi hg => (k.block i hi).trans (h.block i hi hg), fun arr e fr hg => by
    obtain ⟨arr', h1, h2⟩ := h.row arr e fr hg
    exact ⟨arr', (k.block g (Array.getElem?_eq_some_iff.1 hg).1).trans h1, h2⟩⟩
theorem RowB.kg {e : TypeId} {w w' : World} {b cap g n : Nat} {l : List UInt8} (h : RowB e w b cap l) (hk : KG g n w w') (hn : b = g → l.length ≤ n) : RowB e w' b cap l := by
  obtain ⟨arr, lo, hi, h1, h2, h3, h4, h5⟩ := h
  by_cases hb : b = g
  · subst hb
    obtain ⟨arr', k1, k2, k3⟩ := hk.row arr e (lo, hi) h1
    refine ⟨arr', lo, hi, k1, h2, by omega, h4, fun j c hj => ?_⟩
    have := (List.getElem?_eq_some_iff.1 hj).1
    rw [k3 j (by have := hn rfl; omega)]
    exact h5 j c hj
  · exact ⟨arr, lo, hi, by rw [hk.block b (Array.getElem?_eq_some_iff.1 h1).1 hb]; exact h1, h2, h3, h4, h5⟩
/-- A shorter look at a row. -/
theorem RowB.pre {e : TypeId} {w : World} {b cap : Nat} {l m : List UInt8} (h : RowB e w b cap (l ++ m)) : RowB e w b cap l := by
  obtain ⟨arr, lo, hi, h1, h2, h3, h4, h5⟩ := h
  refine ⟨arr, lo, hi, h1, h2, h3, by rw [List.length_append] at h4; omega, fun j c hj => h5 j c ?_⟩
  rw [List.getElem?_append_left (List.getElem?_eq_some_iff.1 hj).1]
  exact hj
/-- The block that a slice lies in. -/
def blk (v : Value) : Nat := match v with
  | .slice (some a) _ _ => a.block
  | _ => 0
/-- append of bytes to bytes of the call's own: what is made, and that all else is left. -/
theorem run_append_kg {P : Program} {ts : Array TypeId} {ty t u : TypeId} {d : TypeDesc} {i : TypeInfo} {w : World} {B : Nat} {l m : List UInt8} {s v : Value}
    (h0 : ts[0]? = some t) (h1 : ts[1]? = some u) (ht : P.underlying t = some (.slice 5)) (hu : P.underlying u = some d) (hd : ∀ k, d ≠ .int k)
    (hi : P.info? 5 = some i) (hz0 : i.zero = some (.int .u8 0)) (hz1 : i.size = 1) (hz2 : i.bytes = 1)
    (hr : RB B w s l) (hs : Src P w v m) (hB : B ≤ w.heap.size) (hbd : l.length + m.length ≤ 1000000) :
    ∃ s' w', (Builtin.append_ ts ty #[s, v]).run P w = .ok s' w' ∧ RB B w' s' (l ++ m) ∧ ((∃ a n c, s = .slice (some a) n c ∧ KG a.block l.length w w' ∧ blk s' = a.block) ∨ (Below w.heap.size w w' ∧ (s' = .slice none 0 0 ∨ blk s' = w.heap.size))) := by
  rcases hr with ⟨rfl, rfl⟩ | ⟨b, cap, rfl, hb, hcap, hrow⟩
  · have hsrc := hs.read
    rw [← hz1] at hsrc
    by_cases hm : m = []
    · subst hm
      have hrun := append_fits (P := P) (w := w) (ty := ty) (base := none) (sLen := 0) (sCap := 0) h0 h1 ht hu hd hi hs.len (hsrc w rfl) (Nat.le_refl _)
      exact ⟨_, _, hrun, .inl ⟨rfl, rfl⟩, .inr ⟨Below.refl _ _, .inl rfl⟩⟩
    · have hml : 0 < m.length := List.length_pos_iff.2 hm
      simp only [List.length_nil, Nat.zero_add] at hbd
      have hold : (Builtin.firstCells i.size 0 (.slice none 0 0)).run P w.drew = .ok ([] : List Value).toArray w.drew := run_firstCells_none w.drew i.size 0 0 0
      have hrun := append_grows (P := P) (w := w) (ty := ty) (base := none) (sLen := 0) (sCap := 0) (us := []) h0 h1 ht hu hd hi hz0 hs.len (hsrc w.drew rfl) hold (by omega) (by rw [hz2]; omega) (by omega)
      have hge := grownCap_ge w (0 + m.length) 0 5
      have hmx := grownCap_le_maxLen w (0 + m.length) 0 5 (by unfold maxLen; omega)
      unfold maxLen at hmx
      simp only [Nat.zero_add] at hrun hge hmx
      refine ⟨_, _, hrun, .inr ⟨w.heap.size, grownCap w m.length 0 5, by simp, hB, by omega, ⟨_, 0, 0, heap_alloc_new w.drew _, .inr rfl, ?_, by simpa using hge, fun j c hj => ?_⟩⟩, .inr ⟨(Below.refl _ _).drew.alloc (Nat.le_refl _) _, .inr rfl⟩⟩
      · simp [vbytes, Builtin.zeroCells, Value.cells]
        omega
      · have hjl := (List.getElem?_eq_some_iff.1 hj).1
        simp at hjl hj
        rw [Array.getElem?_append_left (by simp [vbytes]; omega), Array.getElem?_append_right (by simp)]
        simp [vbytes, hj]
  · have hr0 := hrow
    obtain ⟨arr, lo, hi', hh, hmk, hsz, hle, hat⟩ := hrow
    have hbl : b < w.heap.size := (Array.getElem?_eq_some_iff.1 hh).1
    have hsrc := hs.read
    rw [← hz1] at hsrc
    by_cases hfit : l.length + m.length ≤ cap
    · have hrun := append_fits (P := P) (w := w) (ty := ty) (base := some ⟨b, 0, none⟩) (sLen := l.length) (sCap := cap) h0 h1 ht hu hd hi hs.len (hsrc w rfl) hfit
      have hadd : (⟨b, 0, none⟩ : Addr).add (l.length * i.size) = ⟨b, l.length, none⟩ := by
        rw [hz1]; unfold Addr.add; split <;> simp_all
      obtain ⟨w', arr', e1, e2, e3, e4, e5, e6, e7, e8, e9⟩ := run_stores' b 5 (lo, hi') (P := P) (vbytes m) l.length 0 w arr hh (by simp [vbytes]; omega) (fun j hj hc => by
          simp only at hc
          omega) (by simp [vbytes, Value.oneCell'])
      simp only [hadd, e1, Result.andThen_ok] at hrun
      refine ⟨_, w', hrun, .inr ⟨b, cap, by rw [List.length_append], hb, hcap, ⟨arr', lo, hi', e2, hmk, e3.trans hsz, by simpa using hfit, fun j c hj => ?_⟩⟩, .inl ⟨_, _, _, rfl, ⟨e7, e8, e9, by omega, fun k _ hk => e5 k hk, fun arr2 e fr hg => ?_⟩, rfl⟩⟩
      · rw [e4 j]
        have hjl := (List.getElem?_eq_some_iff.1 hj).1
        simp at hjl
        by_cases hlt : j < l.length
        · rw [if_neg (by omega)]
          rw [List.getElem?_append_left hlt] at hj
          exact hat j c hj
        · rw [if_pos (by simp [vbytes]; omega)]
          rw [List.getElem?_append_right (by omega)] at hj
          simp only [vbytes, List.getElem?_map, Nat.add_zero, hj, Option.map_some]
      · have hg2 : w.heap[b]? = some (.cells arr2 e fr) := hg
        rw [hh] at hg2
        cases hg2
        exact ⟨arr', e2, e3, fun j hj => by rw [e4 j, if_neg (by omega)]⟩
    · have hold := (Src.row (P := P) (c := cap) hr0).read
      rw [← hz1] at hold
      have hrun := append_grows (P := P) (w := w) (ty := ty) (base := some ⟨b, 0, none⟩) (sLen := l.length) (sCap := cap) (us := vbytes l) h0 h1 ht hu hd hi hz0 hs.len (hsrc w.drew rfl) (hold w.drew rfl) (by omega) (by rw [hz2]; omega) (by omega)
      have hge := grownCap_ge w (l.length + m.length) cap 5
      have hmx := grownCap_le_maxLen w (l.length + m.length) cap 5 (by unfold maxLen; omega)
      unfold maxLen at hmx
      refine ⟨_, _, hrun, .inr ⟨w.heap.size, grownCap w (l.length + m.length) cap 5, by rw [List.length_append], hB, by omega, ⟨_, 0, 0, heap_alloc_new w.drew _, .inr rfl, ?_, by simpa using hge, fun j c hj => ?_⟩⟩, .inr ⟨(Below.refl _ _).drew.alloc (Nat.le_refl _) _, .inr rfl⟩⟩
      · simp [vbytes, Builtin.zeroCells, Value.cells]
        omega
      · have hjl := (List.getElem?_eq_some_iff.1 hj).1
        simp at hjl
        have e : (vbytes l).toArray ++ (vbytes m).toArray = (vbytes (l ++ m)).toArray := by simp [vbytes]
        rw [e, Array.getElem?_append_left (by simp [vbytes]; omega), List.getElem?_toArray]
        simp only [vbytes, List.getElem?_map, hj, Option.map_some]
theorem wpList_append_kg {P : Program} {ops : Array Oper} {rest : List Oper} {o : Oper} {a : Act} {w : World} {Q : Exit → Act → World → Prop} (hgd : o.guard = none) (s x : Operand) (t u : TypeId)
    (ho : o.op = .call { callee := .builtin .append, args := #[s, x], argTypes := #[t, u] }) {d : TypeDesc} {i : TypeInfo}
    (ht : P.underlying t = some (.slice 5)) (hu : P.underlying u = some d) (hd : ∀ k, d ≠ .int k) (hi : P.info? 5 = some i) (hz0 : i.zero = some (.int .u8 0)) (hz1 : i.size = 1) (hz2 : i.bytes = 1)
    {B : Nat} {l m : List UInt8} {sv v : Value} (hs : a.eval s = sv) (hx : a.eval x = v) (hr : RB B w sv l) (hv : Src P w v m) (hB : B ≤ w.heap.size) (hbd : l.length + m.length ≤ 1000000)
    (h : ∀ p c w', RB B w' (.slice p (l.length + m.length) c) (l ++ m) → ((∃ a n c', sv = .slice (some a) n c' ∧ KG a.block l.length w w' ∧ blk (.slice p (l.length + m.length) c) = a.block) ∨ (Below w.heap.size w w' ∧ (p = none ∨ blk (.slice p (l.length + m.length) c) = w.heap.size))) → wpList P ops Q rest (a.put o.dst (.slice p (l.length + m.length) c)) w') : wpList P ops Q (o :: rest) a w :=
  wpList_plain hgd fun _ hK => by
    obtain ⟨s', w', e1, e2, e4⟩ := run_append_kg (P := P) (ts := #[t, u]) (ty := o.type) (t := t) (u := u) rfl rfl ht hu hd hi hz0 hz1 hz2 hr hv hB hbd
    obtain ⟨p, c, rfl, _, _⟩ := e2.shape
    rw [List.length_append] at e1 e2 e4
    unfold Oper.wp execOp
    simp only [ho, resolve, invoke, builtin, Sem.run_bind, Sem.run_pure, Result.andThen_ok, List.map_toArray, List.map_cons, List.map_nil, hs, hx, e1]
    exact hK _ _ (h p c w' e2 (e4.imp id (fun e => ⟨e.1, e.2.imp (fun e => by injection e) id⟩)))
end Go.Rb
