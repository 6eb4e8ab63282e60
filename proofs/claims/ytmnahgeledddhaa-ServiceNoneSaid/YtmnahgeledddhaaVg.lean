/- Contracts of a service table's add and Parse. -/
import Derived.Test.YtmnahgeledddhaaVf
import Derived.Test.YtmnahgeledddhaaLf
namespace Go.Tx
open Go.RowKit Go.Mk
theorem own_out {L : Nat} {w w' : World} {p m1 m2 : Nat} {e : TypeId} {size n : Nat} {v : Value} {xs : List Value} (h : w.ownsRow L e size v n xs) (ho : Out L w w' p m1 m2) (hp : p < L) (h1 : m1 < L) (h2 : m2 < L) : w'.ownsRow L e size v n xs := by
  refine ⟨h.1, ?_⟩
  rcases h.2 with h | ⟨g, cap, cur, q1, q2, q3, q4⟩
  · exact .inl h
  · exact .inr ⟨g, cap, cur, q1, q2, by rw [ho.same g (Array.getElem?_eq_some_iff.1 q3).1 (by omega) (by omega) (by omega)]; exact q3, q4⟩
theorem R2.out {L : Nat} {w w' : World} {p m1 m2 b : Nat} {x y : Value} (h : R2 w b x y) (ho : Out L w w' p m1 m2) (hb : L ≤ b) (hp : p < L) (h1 : m1 < L) (h2 : m2 < L) : R2 w' b x y := by
  have hl := h.lt
  obtain ⟨e, h⟩ := h.blk
  exact ⟨e, by rw [ho.same b hl (by omega) (by omega) (by omega)]; exact h⟩
end Go.Tx
namespace Go.Proofs.Ytmnahgeledddhaa
open Go.RowKit Go.Lib Go.Tx Go.Mk
def AddR (L : Nat) (w : World) (p m1 m2 n : Nat) (A : List UInt8 × List UInt8 → Option Int) (C : Int × List UInt8 → Option (List (List UInt8))) (port : Int) (pl : List UInt8) (f : List (List UInt8)) (e : Ending) (w' : World) : Prop :=
  e = .returned (.tuple #[]) ∧ (∃ G, SB L w' p m1 m2 (n + 1) (fillA (fillA A port pl f) port [] f) (fillC (fillC C (port, pl) f) (port, []) f) G) ∧ Out L w w' p m1 m2
set_option maxHeartbeats 1000000 in
set_option maxRecDepth 100000 in
theorem add_any (L p m1 m2 n : Nat) (A : List UInt8 × List UInt8 → Option Int) (C : Int × List UInt8 → Option (List (List UInt8))) (G : Int × List UInt8 → Option Value) (w : World) (port : Int) (pl : List UInt8) (v : Value) (f : List (List UInt8))
    (h : SB L w p m1 m2 n A C G) (hv : StrC L w v f) (hf : f.length ≤ 1000) (hn : n ≤ 1000000) :
    Calls Try.prog 20 #[.pointer (some ⟨p, 0, none⟩), .agg #[.int .i64 port, .string ⟨pl.toArray⟩], v] w (AddR L w p m1 m2 n A C port pl f) := by
  obtain ⟨pv, c, rfl⟩ := hv.shape
  have hp := h.pl
  have h1 := h.l1
  have h2 := h.l2
  have hLs : L ≤ w.heap.size := h.size
  have hbl : Below w.heap.size w (w.alloc (.cells #[.int .i64 port, .string ⟨pl.toArray⟩] 53)) := (Below.refl _ w).alloc (Nat.le_refl _) _
  have hb0 := h.below hbl
  have HV0 := Lib.hid (own_below hv hbl)
  have HR0 := Lib.hid (R2.new w (.int .i64 port) (.string ⟨pl.toArray⟩) 53)
  have HO0 := Lib.hid ((Out.refl L w p m1 m2).below hbl)
  clear h hv hbl
  go_enter Try.func20, Try.ntmps20
  go_upto_region 1 with (fail)
  generalize (w.alloc (.cells #[.int .i64 port, .string ⟨pl.toArray⟩] 53)) = w1 at *
  obtain ⟨c0, c1, c2, f0⟩ := hb0.cells
  have HB : Hid (SB L (w1.setCell ⟨p, 0, none⟩ (.int .i64 ((n : Int) + 1))) p m1 m2 (n + 1) A C G) := Lib.hid hb0.bump
  have HO := Lib.hid (HO0.out.bump (.int .i64 ((n : Int) + 1)) 0)
  have HV : Hid (StrC L (w1.setCell ⟨p, 0, none⟩ (.int .i64 ((n : Int) + 1))) (.slice pv f.length c) f) := Lib.hid (own_same HV0.out (fun j hj => heap_setCell_ne _ _ _ _ _ (by omega)))
  have HR : Hid (R2 (w1.setCell ⟨p, 0, none⟩ (.int .i64 ((n : Int) + 1))) w.heap.size (.int .i64 port) (.string ⟨pl.toArray⟩)) := Lib.hid (by
    obtain ⟨e, hb⟩ := HR0.out.blk
    exact ⟨e, by rw [heap_setCell_ne _ _ _ _ _ (by omega)]; exact hb⟩)
  clear hb0 HV0 HO0 HR0
  go_upto_region 2 with (fail)
  clear c0 c1 c2 f0
  generalize (w1.setCell ⟨p, 0, none⟩ (.int .i64 ((n : Int) + 1))) = w2 at *
  have r0 := HR.out.c0
  have r1 := HR.out.c1
  go_upto_region 3 with (go_at_call 36; refine (fill_any L p m1 m2 (n + 1) A C G _ port pl _ f HB.out HV.out hf).mono ?_; rintro e w3 ⟨rfl, ⟨G3, hb3⟩, ho3⟩)
  have HB3 := Lib.hid hb3
  have HV3 := Lib.hid (own_out HV.out ho3 hp h1 h2)
  have HR3 := Lib.hid (HR.out.out ho3 hLs hp h1 h2)
  have HO3 := Lib.hid (HO.out.trans ho3)
  have r0 := HR3.out.c0
  clear hb3 ho3
  have HF : Hid (Calls Try.prog 36 #[.pointer (some ⟨p, 0, none⟩), .agg #[.int .i64 port, .string ⟨#[]⟩], .slice pv f.length c] w3 (FillR L w3 p m1 m2 (n + 1) (fillA A port pl f) (fillC C (port, pl) f) port [] f)) := Lib.hid (fill_any L p m1 m2 (n + 1) _ _ G3 w3 port [] _ f HB3.out HV3.out hf)
  go_wp2_with (go_at_call 36; refine HF.out.mono ?_; rintro e w4 ⟨rfl, ⟨G4, hb4⟩, ho4⟩)
  go_end0
  exact ⟨rfl, ⟨G4, hb4⟩, HO3.out.trans ho4⟩
/-- A table that is read: where it lies, what it holds. -/
def Tab (B : Nat) (w : World) (p : Nat) (R : List Svc) : Prop :=
  ∃ L m1 m2 G, B ≤ p ∧ B ≤ L ∧ SB L w p m1 m2 R.length (portAt R) (namesOn R) G
theorem Tab.below {B p : Nat} {w w' : World} {R : List Svc} (h : Tab B w p R) (hb : Below w.heap.size w w') : Tab B w' p R := by
  obtain ⟨L, m1, m2, G, h1, h2, h3⟩ := h
  exact ⟨L, m1, m2, G, h1, h2, h3.below hb⟩
theorem SB.start {w : World} {p m1 m2 : Nat} (hp : p < w.heap.size) (h1 : m1 < w.heap.size) (h2 : m2 < w.heap.size) (n1 : p ≠ m1) (n2 : p ≠ m2) (n12 : m1 ≠ m2)
    (hb : w.heap[p]? = some (.cells #[.int .i64 0, .map (some m1), .map (some m2)] 47 (0, 0))) (hf : w.heap[m1]? = some (.map #[] 0)) (hg : w.heap[m2]? = some (.map #[] 0)) :
    SB w.heap.size w p m1 m2 0 (portAt []) (namesOn []) (fun _ => none) where
  pl := hp
  l1 := h1
  l2 := h2
  n1 := n1
  n2 := n2
  n12 := n12
  size := Nat.le_refl _
  blk := hb
  f := MapK.made w hf
  g := MapK.made w hg
  hG := fun k => rfl
theorem heap_push_lt (w : World) (o : Obj) (j : Nat) (h : j < w.heap.size) : (w.alloc o).heap[j]? = w.heap[j]? := by
  show (w.heap.push o)[j]? = _
  rw [Array.getElem?_push, if_neg (by omega)]
theorem start_at (w w2 : World) (hb : Below (((w.alloc (.map #[] 0)).alloc (.map #[] 0)).alloc (.cells #[.int .i64 0, .map (some w.heap.size), .map (some (w.heap.size + 1))] 47)).heap.size (((w.alloc (.map #[] 0)).alloc (.map #[] 0)).alloc (.cells #[.int .i64 0, .map (some w.heap.size), .map (some (w.heap.size + 1))] 47)) w2) :
    SB w2.heap.size w2 (w.heap.size + 1 + 1) w.heap.size (w.heap.size + 1) 0 (portAt []) (namesOn []) (fun _ => none) ∧ w.heap.size + 3 ≤ w2.heap.size ∧ Below w.heap.size w w2 := by
  have s1 : (w.alloc (.map #[] 0)).heap.size = w.heap.size + 1 := by show (w.heap.push _).size = _; simp
  have s2 : ((w.alloc (.map #[] 0)).alloc (.map #[] 0)).heap.size = w.heap.size + 1 + 1 := by show ((w.heap.push _).push _).size = _; simp
  generalize hw1 : (((w.alloc (.map #[] 0)).alloc (.map #[] 0)).alloc (.cells #[.int .i64 0, .map (some w.heap.size), .map (some (w.heap.size + 1))] 47)) = w1 at *
  have s3 : w1.heap.size = w.heap.size + 3 := by rw [← hw1]; show (((w.heap.push _).push _).push _).size = _; simp
  have e1 : w1.heap[w.heap.size]? = some (.map #[] 0) := by
    rw [← hw1, heap_push_lt _ _ _ (by omega), heap_push_lt _ _ _ (by omega)]; exact heap_alloc_new w _
  have e2 : w1.heap[w.heap.size + 1]? = some (.map #[] 0) := by
    rw [← hw1, heap_push_lt _ _ _ (by omega)]
    have := heap_alloc_new (w.alloc (.map #[] 0)) (.map #[] 0)
    rw [s1] at this; exact this
  have e3 : w1.heap[w.heap.size + 1 + 1]? = some (.cells #[.int .i64 0, .map (some w.heap.size), .map (some (w.heap.size + 1))] 47 (0, 0)) := by
    rw [← hw1]
    have := heap_alloc_new ((w.alloc (.map #[] 0)).alloc (.map #[] 0)) (.cells #[.int .i64 0, .map (some w.heap.size), .map (some (w.heap.size + 1))] 47)
    rw [s2] at this; exact this
  have hz := hb.size
  refine ⟨SB.start (by omega) (by omega) (by omega) (by omega) (by omega) (by omega) (by rw [hb.block _ (by omega)]; exact e3) (by rw [hb.block _ (by omega)]; exact e1) (by rw [hb.block _ (by omega)]; exact e2), by omega, ?_⟩
  have hb0 : Below w.heap.size w w1 := by
    rw [← hw1]
    exact (((Below.refl _ w).alloc (Nat.le_refl _) _).alloc (by omega) _).alloc (by omega) _
  exact hb0.trans (hb.mono (by omega))
theorem cell_same {w w' : World} {b k : Nat} (h : w'.heap[b]? = w.heap[b]?) : w'.cell? ⟨b, k, none⟩ = w.cell? ⟨b, k, none⟩ := World.cell?_of_block (a := ⟨b, k, none⟩) h
/-- The words of a line, read at a later world. -/
theorem words_at {B : Nat} {w w' : World} {pw : Option Addr} {m : Nat} {ws : List (List UInt8)} (h : Strs B w (.slice pw m m) ws) (hm : m = ws.length) (hsame : ∀ j, B ≤ j → j < w.heap.size → w'.heap[j]? = w.heap[j]?) (hs : w.heap.size ≤ w'.heap.size) (h0 : ws ≠ []) :
    ∃ A, pw = some ⟨A, 0, none⟩ ∧ A < w'.heap.size ∧ Words w' A ws := by
  rcases h with ⟨h, h2⟩ | ⟨A, h1, h2, h3⟩
  · exact absurd h2 h0
  · cases h1
    have hlt := (World.ownsRow.lt h3 A rfl).2
    refine ⟨A, rfl, by omega, fun j l hj => ?_⟩
    have hjl := (List.getElem?_eq_some_iff.1 hj).1
    rw [cell_same (hsame A h2 hlt), World.ownsRow.cellAt h3 j (by omega), List.getElem?_map, hj]
    rfl
theorem lower {B B' : Nat} {w : World} {v : Value} {f : List (List UInt8)} (h : StrC B w v f) (hB : B' ≤ B) : StrC B' w v f := own_base h hB
theorem Out.toBelow {L B : Nat} {w w' : World} {p m1 m2 : Nat} (h : Out L w w' p m1 m2) (hB : B ≤ w.heap.size) (h1 : B ≤ p) (h2 : B ≤ m1) (h3 : B ≤ m2) : Below B w w' :=
  ⟨h.os, h.tape, h.output, h.size, fun j hj => h.same j (by omega) (by omega) (by omega) (by omega)⟩
end Go.Proofs.Ytmnahgeledddhaa
