/- Contracts and plain facts that the law leans on. -/
import Derived.Test.YtepfeekfglpjoaaDoorWsCb
import Derived.Test.YtepfeekfglpjoaaDoorXdM
import Derived.Laws.AppendOwn
import Derived.Deep.AppendLies
import Derived.Deep.RegionLaw
import Derived.Deep.RegionHeld3
import Derived.Test.YtepfeekfglpjoaaDoorXbM
import Derived.Test.YtepfeekfglpjoaaDoorWsCa
import Derived.Test.YtepfeekfglpjoaaDoorWjM
namespace Go.Proofs.YtepfeekfglpjoaaDoor
open Go.RowKit Go.Lib Go.Wi Go.Tx
/-- A text cut to 300 bytes. -/
def cutB (s : ByteArray) : ByteArray := if s.size ≤ 300 then s else s.extract 0 300
theorem cutB_size (s : ByteArray) : (cutB s).size ≤ 300 := by
  unfold cutB
  split
  · assumption
  · rw [ByteArray.size_extract]; omega
theorem cutB_any (s : ByteArray) (w : World) (hs : s.size ≤ maxLen) : Calls Tryd.prog 17 #[.string s, .int .i64 300] w fun e w' => e = .returned (.string (cutB s)) ∧ w = w' := by
  unfold maxLen at hs
  unfold cutB
  by_cases h : s.size ≤ 300
  · rw [if_pos h]
    have h1 : ¬ (300 : Int) < (s.size : Int) := by omega
    go_enter Tryd.func17, Tryd.ntmps17
    go_wp2
    all_goals (go_ret; exact ⟨rfl, rfl⟩)
  · rw [if_neg h]
    have h1 : (300 : Int) < (s.size : Int) := by omega
    go_enter Tryd.func17, Tryd.ntmps17
    go_wp2
    all_goals (go_ret; exact ⟨rfl, rfl⟩)
def cutRec (r : WRec) : WRec := ⟨cutB r.name, r.kind, r.ttl, cutB r.data⟩
def wCells (r : WRec) : List Value := [.string r.name, .int .i64 r.kind, .int .i64 r.ttl, .string r.data]
/-- Records of the call's own. -/
def WRecC (B : Nat) (w : World) (v : Value) (rs : List WRec) : Prop := w.ownsRow B 48 4 v rs.length (rs.flatMap wCells)
/-- Records that came in. -/
def InRecs (w : World) (a : Option Addr) (n c : Nat) (rs : List WRec) : Prop := rs.length = n ∧ n ≤ c ∧ c ≤ maxLen ∧ ∀ j r, rs[j]? = some r → ∃ x, a = some x ∧ x.block < w.heap.size ∧ r.name.size ≤ maxLen ∧ r.data.size ≤ maxLen ∧
  w.cell? (x.add (j * 4)) = some (.string r.name) ∧ w.cell? ⟨(x.add (j * 4)).block, (x.add (j * 4)).off + 1, none⟩ = some (.int .i64 r.kind) ∧ w.cell? ⟨(x.add (j * 4)).block, (x.add (j * 4)).off + 2, none⟩ = some (.int .i64 r.ttl) ∧ w.cell? ⟨(x.add (j * 4)).block, (x.add (j * 4)).off + 3, none⟩ = some (.string r.data)
theorem InRecs.below {w w' : World} {a : Option Addr} {n c : Nat} {rs : List WRec} (h : InRecs w a n c rs) (hb : Below w.heap.size w w') : InRecs w' a n c rs := by
  obtain ⟨h1, h2, h3, h4⟩ := h
  refine ⟨h1, h2, h3, fun j r hj => ?_⟩
  obtain ⟨x, e, hx, s1, s2, q0, q1, q2, q3⟩ := h4 j r hj
  have hk : (x.add (j * 4)).block = x.block := by unfold Addr.add; split <;> rfl
  have hc : ∀ p : Addr, p.block = x.block → w'.cell? p = w.cell? p := fun p hp => hb.cell (p := p) (by rw [hp]; exact hx)
  exact ⟨x, e, Nat.lt_of_lt_of_le hx hb.size, s1, s2, (hc _ hk).trans q0, (hc ⟨_, _, none⟩ hk).trans q1, (hc ⟨_, _, none⟩ hk).trans q2, (hc ⟨_, _, none⟩ hk).trans q3⟩
theorem wCells_get : ∀ (rs : List WRec) (i : Nat) (r : WRec) (j : Nat), rs[i]? = some r → j < 4 → (rs.flatMap wCells)[i * 4 + j]? = (wCells r)[j]?
  | [], i, r, j, h, _ => by simp at h
  | x :: rs, 0, r, j, h, hj => by
    simp at h
    subst h
    rw [List.flatMap_cons, Nat.zero_mul, Nat.zero_add, List.getElem?_append_left (by simp [wCells]; exact hj)]
  | x :: rs, i + 1, r, j, h, hj => by
    rw [List.getElem?_cons_succ] at h
    have ih := wCells_get rs i r j h hj
    rw [List.flatMap_cons, List.getElem?_append_right (by simp [wCells]; omega), ← ih]
    congr 1
    simp [wCells]; omega
theorem WRecC.rows {B : Nat} {w : World} {v : Value} {rs : List WRec} (h : WRecC B w v rs) : RowsAt w v rs := by
  rcases h.2 with ⟨a, b⟩ | ⟨g, cap, cur, a, hb, hg, hn, hc, hs, ht⟩
  · have : rs = [] := List.length_eq_zero_iff.1 b
    exact .inl ⟨a, this⟩
  · refine .inr ⟨g, cap, a, (Array.getElem?_eq_some_iff.1 hg).1, fun j r hj => ?_⟩
    have cl : ∀ i y, i < 4 → (wCells r)[i]? = some y → w.cell? ⟨g, j * 4 + i, none⟩ = some y := fun i y hi hy => by
      have ha : ({ block := g, off := 0 } : Addr).add (j * 4 + i) = ⟨g, j * 4 + i, none⟩ := by unfold Addr.add; split <;> simp_all
      rw [← ha]
      exact World.ownsRow.cells h (g := g) (by rw [a]; rfl) (j * 4 + i) y (by rw [wCells_get rs j r i hj hi]; exact hy)
    exact ⟨cl 0 _ (by omega) rfl, cl 1 _ (by omega) rfl, cl 2 _ (by omega) rfl, cl 3 _ (by omega) rfl⟩
end Go.Proofs.YtepfeekfglpjoaaDoor

namespace Go.Proofs.YtepfeekfglpjoaaDoor
open Go.RowKit Go.Lib Go.Wi Go.Tx
theorem cells_len (rs : List WRec) : (rs.flatMap wCells).length = 4 * rs.length := by
  induction rs with
  | nil => rfl
  | cons r rs ih => rw [List.flatMap_cons, List.length_append, ih, List.length_cons]; simp [wCells]; omega
/-- A record in the making: block b holds these cells. -/
def R4 (w : World) (b : Nat) (arr : Array Value) : Prop := w.heap[b]? = some (.cells arr 48 (0, 0))
theorem R4.cell {w : World} {b : Nat} {arr : Array Value} (h : R4 w b arr) {j : Nat} {v : Value} (hj : arr[j]? = some v) : w.cell? ⟨b, j, none⟩ = some v := by unfold R4 at h; simp [World.cell?, h, hj]
theorem R4.free {w : World} {b : Nat} {arr : Array Value} (h : R4 w b arr) (j : Nat) : w.frozen? ⟨b, j, none⟩ = false := by unfold R4 at h; simp [World.frozen?, h]
theorem R4.set {w : World} {b : Nat} {arr : Array Value} (h : R4 w b arr) (k : Nat) (v : Value) : R4 (w.setCell ⟨b, k, none⟩ v) b (arr.setIfInBounds k v) := block_set h v
theorem R4.lt {w : World} {b : Nat} {arr : Array Value} (h : R4 w b arr) : b < w.heap.size := (Array.getElem?_eq_some_iff.1 h).1
theorem own_base {B B' : Nat} {e : TypeId} {size n : Nat} {v : Value} {xs : List Value} {w : World} (h : w.ownsRow B e size v n xs) (hb : B' ≤ B) : w.ownsRow B' e size v n xs := by
  rcases h with ⟨h1, h2 | ⟨g, cap, cur, a, hg, h3⟩⟩
  · exact ⟨h1, .inl h2⟩
  · exact ⟨h1, .inr ⟨g, cap, cur, a, by omega, h3⟩⟩
theorem set8_out (w : World) (b : Nat) (x0 x1 x2 x3 x4 x5 x6 x7 : Value) {j : Nat} (hj : j ≠ b) : (set8 w b x0 x1 x2 x3 x4 x5 x6 x7).heap[j]? = w.heap[j]? := by
  have h : ∀ (W : World) (k : Nat) (v : Value), (W.setCell ⟨b, k, none⟩ v).heap[j]? = W.heap[j]? := fun W k v => by
    show (W.heap.modify b _)[j]? = _
    rw [Array.getElem?_modify, if_neg (fun e => hj e.symm)]
  unfold set8
  rw [h, h, h, h, h, h, h, h]
set_option maxHeartbeats 4000000 in
set_option maxRecDepth 100000 in
theorem mcut_any (i c k : Int) (r q x : Bool) (nm : ByteArray) (a : Option Addr) (n cap : Nat) (rs : List WRec) (w : World) (hn : nm.size ≤ maxLen) (hrs : InRecs w a n cap rs) :
    Calls Tryd.prog 9 #[.agg #[.int .i64 i, .bool r, .bool q, .bool x, .int .i64 c, .string nm, .int .i64 k, .slice a n cap]] w fun e w' =>
      ∃ p cc, e = .returned (.agg #[.int .i64 i, .bool r, .bool q, .bool x, .int .i64 c, .string (cutB nm), .int .i64 k, .slice p ((rs.take 35).map cutRec).length cc]) ∧ WRecC w.heap.size w' (.slice p ((rs.take 35).map cutRec).length cc) ((rs.take 35).map cutRec) ∧ Below w.heap.size w w' := by
  have HCn := Lib.hid (fun W => cutB_any nm W hn)
  have HCs := Lib.hid (fun (s : ByteArray) W (h : s.size ≤ maxLen) => cutB_any s W h)
  obtain ⟨rn, hrn⟩ : ∃ z, cutB nm = z := ⟨_, rfl⟩
  obtain ⟨R, hR⟩ : ∃ R, (rs.take 35).map cutRec = R := ⟨_, rfl⟩
  rw [hrn] at HCn ⊢
  rw [hR]
  have HRR := Lib.hid hR
  have HIn := Lib.hid hrs
  have hs1 : (w.alloc (.cells #[.int .i64 i, .bool r, .bool q, .bool x, .int .i64 c, .string nm, .int .i64 k, .slice a n cap] 26)).heap.size = w.heap.size + 1 := by show (w.heap.push _).size = _; simp
  have hnc := hrs.2.1
  have hcm : cap ≤ 9223372036854775807 := by have := hrs.2.2.1; unfold maxLen at this; omega
  clear hrs hrn hR
  go_enter Tryd.func9, Tryd.ntmps9
  go_upto_region 1 with (fail)
  have HA : Hid (At8 ((w.alloc (.cells #[.int .i64 i, .bool r, .bool q, .bool x, .int .i64 c, .string nm, .int .i64 k, .slice a n cap] 26)).alloc (.cells zMsg 26)) w.heap.size #[.int .i64 i, .bool r, .bool q, .bool x, .int .i64 c, .string nm, .int .i64 k, .slice a n cap]) := Lib.hid (At8.alloc (show At8 _ _ _ from heap_alloc_new w _) _)
  have HZ : Hid (At8 ((w.alloc (.cells #[.int .i64 i, .bool r, .bool q, .bool x, .int .i64 c, .string nm, .int .i64 k, .slice a n cap] 26)).alloc (.cells zMsg 26)) (w.heap.size + 1) zMsg) := Lib.hid (by rw [← hs1]; exact heap_alloc_new _ _)
  have hB1 := (Below.refl w.heap.size w).alloc (Nat.le_refl _) (.cells #[.int .i64 i, .bool r, .bool q, .bool x, .int .i64 c, .string nm, .int .i64 k, .slice a n cap] 26)
  have HB := Lib.hid (hB1.alloc hB1.size (.cells zMsg 26))
  clear hB1 hs1
  unfold zMsg at HA HZ HB
  generalize (w.alloc (.cells #[.int .i64 i, .bool r, .bool q, .bool x, .int .i64 c, .string nm, .int .i64 k, .slice a n cap] 26)).alloc (.cells #[.int .i64 0, .bool false, .bool false, .bool false, .int .i64 0, .string ⟨#[]⟩, .int .i64 0, .slice none 0 0] 26) = W1 at *
  have a5 := HA.out.cell (j := 5) rfl
  have f5 := HA.out.free 5
  go_upto_region 4 with (go_at_call 17; refine (HCn.out _).mono ?_; rintro e w2 ⟨rfl, rfl⟩)
  have HA : Hid (At8 (W1.setCell ⟨w.heap.size, 5, none⟩ (.string rn)) w.heap.size #[.int .i64 i, .bool r, .bool q, .bool x, .int .i64 c, .string rn, .int .i64 k, .slice a n cap]) := Lib.hid (HA.out.set 5 _)
  have HZ := Lib.hid (HZ.out.late (b' := w.heap.size) (by omega) 5 (.string rn))
  have HB := Lib.hid (below_set1 HB.out (Nat.le_refl _) 5 (.string rn))
  clear a5 f5
  generalize W1.setCell ⟨w.heap.size, 5, none⟩ (.string rn) = W2 at *
  have hgW : w.heap.size + 1 < W2.heap.size := HZ.out.lt
  go_loopw [3, 4] (fun lv iv wr => ∃ (j : Nat) (p : Option Addr) (cc : Nat), j ≤ n ∧ j ≤ 35 ∧ iv = .int .i64 j ∧ lv = .slice p j cc ∧ WRecC (w.heap.size + 2) wr (.slice p j cc) ((rs.take j).map cutRec) ∧ At8 wr w.heap.size #[.int .i64 i, .bool r, .bool q, .bool x, .int .i64 c, .string rn, .int .i64 k, .slice a n cap] ∧ At8 wr (w.heap.size + 1) #[.int .i64 0, .bool false, .bool false, .bool false, .int .i64 0, .string ⟨#[]⟩, .int .i64 0, .slice none 0 0] ∧ Below w.heap.size w wr) (fun _ iv _ => n - (intOf iv).toNat)
  case atStart => exact ⟨0, none, 0, Nat.zero_le _, Nat.zero_le _, rfl, rfl, World.ownsRow_nil _ _ _ _, HA.out, HZ.out, HB.out⟩
  case round =>
    obtain ⟨j, p, cc, hjn, hj35, rfl, rfl, how, ha, hz, hb⟩ := hrel
    have HA := Lib.hid ha
    have HZ := Lib.hid hz
    have HB := Lib.hid hb
    have HO := Lib.hid how
    have a6 := HA.out.cell (j := 7) rfl
    clear ha hz hb how
    by_cases hgo : j < n ∧ j < 35
    · obtain ⟨hlt, hlt2⟩ := hgo
      obtain ⟨z, hz⟩ : ∃ z, rs[j]? = some z := ⟨_, List.getElem?_eq_getElem (by rw [HIn.out.1]; exact hlt)⟩
      obtain ⟨y, rfl, hy, s1, s2, q0, q1, q2, q3⟩ := (HIn.out.below HB.out).2.2.2 j z hz
      obtain ⟨zn, zk, zt, zd⟩ := z
      simp only at s1 s2 q0 q1 q2 q3
      go_upto_region 7 with (fail)
      have HR : Hid (R4 (wr.alloc (.cells #[.string zn, .int .i64 zk, .int .i64 zt, .string zd] 48)) wr.heap.size #[.string zn, .int .i64 zk, .int .i64 zt, .string zd]) := Lib.hid (heap_alloc_new wr _)
      have HBr : Hid (Below wr.heap.size wr (wr.alloc (.cells #[.string zn, .int .i64 zk, .int .i64 zt, .string zd] 48))) := Lib.hid ((Below.refl _ wr).alloc (Nat.le_refl _) _)
      obtain ⟨bz, hbz⟩ : ∃ q, wr.heap.size = q := ⟨_, rfl⟩
      have HBz := Lib.hid hbz
      have hwz : w.heap.size + 1 < bz := by rw [← hbz]; exact HZ.out.lt
      clear q0 q1 q2 q3 a6 hy
      rw [hbz] at HR ⊢
      clear hbz
      generalize wr.alloc (.cells #[.string zn, .int .i64 zk, .int .i64 zt, .string zd] 48) = W7 at *
      have r0 := HR.out.cell (j := 0) rfl
      have f0 := HR.out.free 0
      go_upto_region 8 with (go_at_call 17; refine (HCs.out zn _ s1).mono ?_; rintro e w8 ⟨rfl, rfl⟩)
      have HR : Hid (R4 (W7.setCell ⟨bz, 0, none⟩ (.string (cutB zn))) bz #[.string (cutB zn), .int .i64 zk, .int .i64 zt, .string zd]) := Lib.hid (HR.out.set 0 _)
      have HBr : Hid (Below wr.heap.size wr (W7.setCell ⟨bz, 0, none⟩ (.string (cutB zn)))) := Lib.hid (below_set1 HBr.out (by rw [HBz.out]; exact Nat.le_refl _) 0 _)
      clear r0 f0
      generalize W7.setCell ⟨bz, 0, none⟩ (.string (cutB zn)) = W8 at *
      have r3 := HR.out.cell (j := 3) rfl
      have f3 := HR.out.free 3
      go_upto_region 9 with (go_at_call 17; refine (HCs.out zd _ s2).mono ?_; rintro e w8 ⟨rfl, rfl⟩)
      have HR : Hid (R4 (W8.setCell ⟨bz, 3, none⟩ (.string (cutB zd))) bz #[.string (cutB zn), .int .i64 zk, .int .i64 zt, .string (cutB zd)]) := Lib.hid (HR.out.set 3 _)
      have HBr : Hid (Below wr.heap.size wr (W8.setCell ⟨bz, 3, none⟩ (.string (cutB zd)))) := Lib.hid (below_set1 HBr.out (by rw [HBz.out]; exact Nat.le_refl _) 3 _)
      clear r3 f3
      generalize W8.setCell ⟨bz, 3, none⟩ (.string (cutB zd)) = W9 at *
      obtain ⟨tn, htn⟩ : ∃ q, cutB zn = q := ⟨_, rfl⟩
      obtain ⟨td, htd⟩ : ∃ q, cutB zd = q := ⟨_, rfl⟩
      have HTn := Lib.hid htn
      have HTd := Lib.hid htd
      rw [htn, htd] at HR
      clear htn htd
      have HA := Lib.hid (HA.out.bel HBr.out)
      have HZ := Lib.hid (HZ.out.bel HBr.out)
      have HB := Lib.hid (HB.out.trans (HBr.out.mono HB.out.size))
      have hln : ((rs.take j).map cutRec).length = j := by rw [List.length_map, List.length_take, HIn.out.1]; omega
      have HLn := Lib.hid hln
      have hO9 : WRecC (w.heap.size + 2) W9 (.slice p j cc) ((rs.take j).map cutRec) := own_bel HO.out HBr.out
      have HO9 : Hid (W9.ownsRow (w.heap.size + 2) 48 4 (.slice p j cc) j (((rs.take j).map cutRec).flatMap wCells)) := Lib.hid (by unfold WRecC at hO9; rw [hln] at hO9; exact hO9)
      have r0 := HR.out.cell (j := 0) rfl
      have r1 := HR.out.cell (j := 1) rfl
      have r2 := HR.out.cell (j := 2) rfl
      have r3 := HR.out.cell (j := 3) rfl
      have hlt9 : w.heap.size + 2 ≤ W9.heap.size := HZ.out.lt
      have hcc : j ≤ 9223372036854775807 := by omega
      obtain ⟨i4, hi, hz0, hz1, hz2⟩ := info_parts infoRec
      have HZr := Lib.hid hz
      clear hln hO9 hz
      go_wp2_with (at_builtin; go_loud (refine wpList_append_own _ rfl _ _ 24 rfl (w.heap.size + 2) 48 i4 (.agg #[.string ⟨#[]⟩, .int .i64 0, .int .i64 0, .string ⟨#[]⟩]) 4 48 Tryd.underlying24 hi hz0 hz1 hz2 rfl (by decide) (.slice p j cc) j (((rs.take j).map cutRec).flatMap wCells) (by rfl) (World.ownsRow.alloc HO9.out _) ⟨W9.heap.size, 0, none⟩ 1 1 [.string tn, .int .i64 zk, .int .i64 zt, .string td] (by rfl) rfl (new_cells4 _ _ _ _ _ _) (by simp [Value.oneCell']) (by unfold maxLen; omega) (by omega) (by show w.heap.size + 2 ≤ (W9.heap.push _).size; simp; omega) ?_; intro v5 w5 hown5 hg5 _; obtain ⟨x5, y5, rfl⟩ : ∃ x y, v5 = .slice x (j + 1) y := (hown5.2.elim (fun h => absurd h.2 (by omega)) (fun ⟨_, _, _, e1, _⟩ => ⟨_, _, e1⟩))))
      have hsA : (W9.alloc (.cells #[.string tn, .int .i64 zk, .int .i64 zt, .string td] 48)).heap.size = W9.heap.size + 1 := by show (W9.heap.push _).size = _; simp
      have hblk : ∀ m, m ≤ w.heap.size + 1 → w5.heap[m]? = W9.heap[m]? := fun m hm => (hg5.block m (by omega) (fun e => by have := (World.ownsRow.lt HO9.out m e.symm).1; omega)).trans (by show (W9.heap.push _)[m]? = _; rw [Array.getElem?_push, if_neg (by omega)])
      have hs5 := hg5.size
      have hz : rs[j]? = some ⟨zn, zk, zt, zd⟩ := HZr.out
      go_roundw
      case rel =>
        have htk : (rs.take (j + 1)).map cutRec = (rs.take j).map cutRec ++ [⟨tn, zk, zt, td⟩] := by
          rw [List.take_add_one, hz, List.map_append]
          simp only [Option.toList_some, List.map_cons, List.map_nil, cutRec, HTn.out, HTd.out]
        refine ⟨j + 1, x5, y5, hlt, by omega, by go_num, rfl, ?_, (hblk _ (by omega)).trans HA.out, (hblk _ (by omega)).trans HZ.out, HB.out.trans ⟨hg5.os, hg5.tape, hg5.output, by omega, fun m hm => hblk m (by have := HB.out.size; omega)⟩⟩
        unfold WRecC
        rw [htk, List.length_append, HLn.out, List.flatMap_append]
        exact hown5
      case measure => simp [intOf]; omega
    · have hj : j = min n 35 := by omega
      have htk : rs.take j = rs.take 35 := by
        have := HIn.out.1
        rcases Nat.le_total n 35 with h | h
        · rw [List.take_of_length_le (by omega), List.take_of_length_le (by omega)]
        · congr 1; omega
      have hln : R.length = j := by rw [← HRR.out, ← htk, List.length_map, List.length_take, HIn.out.1]; omega
      have HO : Hid (WRecC (w.heap.size + 2) wr (.slice p j cc) R) := Lib.hid (HRR.out ▸ htk ▸ HO.out)
      have HLn := Lib.hid hln
      have a7 := HA.out.free 7
      have a0 := HA.out.cell (j := 0) rfl
      have a1 := HA.out.cell (j := 1) rfl
      have a2 := HA.out.cell (j := 2) rfl
      have a3 := HA.out.cell (j := 3) rfl
      have a4 := HA.out.cell (j := 4) rfl
      have a5 := HA.out.cell (j := 5) rfl
      have a6b := HA.out.cell (j := 6) rfl
      have d0 := HZ.out.cell (j := 0) rfl
      have d1 := HZ.out.cell (j := 1) rfl
      have d2 := HZ.out.cell (j := 2) rfl
      have d3 := HZ.out.cell (j := 3) rfl
      have d4 := HZ.out.cell (j := 4) rfl
      have d5 := HZ.out.cell (j := 5) rfl
      have d6 := HZ.out.cell (j := 6) rfl
      have d7 := HZ.out.cell (j := 7) rfl
      have e0 := HZ.out.free 0
      have e1 := HZ.out.free 1
      have e2 := HZ.out.free 2
      have e3 := HZ.out.free 3
      have e4 := HZ.out.free 4
      have e5 := HZ.out.free 5
      have e6 := HZ.out.free 6
      have e7 := HZ.out.free 7
      clear htk hln hj
      have hcase : ¬ (j : Int) < n ∨ ((j : Int) < n ∧ ¬ (j : Int) < 35) := by omega
      rcases hcase with h1 | ⟨h1, h2⟩
      all_goals
        go_wp2
        have hz' := HZ.out.late (b' := w.heap.size) (by omega) 7 (.slice p j cc)
        refine bodyPost_ret (results_cell_row rfl _ _ _ _ _ _ _ rfl (set8_at hz') Tryd.underlying26 rfl (by kernel_rfl)) rfl ?_
        refine ⟨p, cc, by rw [HLn.out], ?_, ?_⟩
        · rw [HLn.out]
          refine own_base (B := w.heap.size + 2) (own_same HO.out (fun m hm => ?_)) (by omega)
          refine (set8_out _ (w.heap.size + 1) _ _ _ _ _ _ _ _ (by omega)).trans ?_
          show (wr.heap.modify w.heap.size _)[m]? = _
          rw [Array.getElem?_modify, if_neg (by omega)]
        · exact below_set8 (below_set1 HB.out (Nat.le_refl _) 7 _) (by omega)
end Go.Proofs.YtepfeekfglpjoaaDoor

namespace Go.Wi
open Go.Tx Go.Lib
/-- Labels, each with a point behind it. -/
def wjoin (T : List (List UInt8)) : List UInt8 := T.flatMap (· ++ [46])
theorem wjoin_snoc (T : List (List UInt8)) (m : List UInt8) : wjoin (T ++ [m]) = wjoin T ++ m ++ [46] := by
  unfold wjoin; rw [List.flatMap_append]; simp
theorem bare_wjoin (T : List (List UInt8)) (m : List UInt8) : bare (wjoin (T ++ [m])) = wjoin T ++ m := by rw [wjoin_snoc, bare_snoc]
theorem splitG_in {x : List UInt8} (hx : 46 ∉ x) : ∀ (cur : List UInt8), splitG 46 cur x = [cur ++ x] := by
  induction x with
  | nil => intro cur; simp [splitG]
  | cons d x ih =>
    intro cur
    have h1 : ¬ d = 46 := fun e => hx (by simp [e])
    have h2 : 46 ∉ x := fun e => hx (by simp [e])
    unfold splitG
    rw [if_neg h1, ih h2]
    simp
theorem splitG_app {x : List UInt8} (hx : 46 ∉ x) (r : List UInt8) : ∀ (cur : List UInt8), splitG 46 cur (x ++ 46 :: r) = (cur ++ x) :: splitG 46 [] r := by
  induction x with
  | nil => intro cur; simp [splitG]
  | cons d x ih =>
    intro cur
    have h1 : ¬ d = 46 := fun e => hx (by simp [e])
    have h2 : 46 ∉ x := fun e => hx (by simp [e])
    have e : splitG 46 cur (d :: (x ++ 46 :: r)) = splitG 46 (cur ++ [d]) (x ++ 46 :: r) := by
      show (if d = 46 then _ else _) = _
      rw [if_neg h1]
    show splitG 46 cur (d :: (x ++ 46 :: r)) = _
    rw [e, ih h2]
    simp
theorem split_join : ∀ (T : List (List UInt8)) (m : List UInt8), (∀ x ∈ T, 46 ∉ x) → 46 ∉ m → splitL 46 (wjoin T ++ m) = T ++ [m]
  | [], m, _, hm => by
    show splitG 46 [] m = [m]
    rw [splitG_in hm]; rfl
  | x :: T, m, hT, hm => by
    have e : wjoin (x :: T) ++ m = x ++ 46 :: (wjoin T ++ m) := by unfold wjoin; rw [List.flatMap_cons]; simp
    unfold splitL
    rw [e, splitG_app (hT x (by simp))]
    have ih := split_join T m (fun y hy => hT y (by simp [hy])) hm
    unfold splitL at ih
    rw [ih]
    simp
theorem name_join (T : List (List UInt8)) (m : List UInt8) (hT : ∀ x ∈ T, 46 ∉ x) (hm : 46 ∉ m) : nameB (wjoin T ++ m) = (decide ((wjoin T ++ m).length ≤ 253) && (T ++ [m]).all labelB) := by
  unfold nameB
  rw [split_join T m hT hm]
theorem suf_no {a m : List UInt8} (hm : m ≠ []) (h46 : 46 ∉ m) : hasSuffix (a ++ m) [46] = false := by
  cases h : hasSuffix (a ++ m) [46] with
  | false => rfl
  | true =>
    unfold hasSuffix at h
    obtain ⟨t, ht⟩ := List.isSuffixOf_iff_suffix.1 h
    have h1 : (t ++ [46]).getLast? = (a ++ m).getLast? := by rw [ht]
    rw [List.getLast?_append, List.getLast?_append] at h1
    have h2 : m.getLast? = some (m.getLast hm) := List.getLast?_eq_some_getLast hm
    rw [h2] at h1
    simp at h1
    exact absurd (h1 ▸ List.getLast_mem hm) h46
theorem bare_no {a m : List UInt8} (hm : m ≠ []) (h46 : 46 ∉ m) : bare (a ++ m) = a ++ m := by
  unfold bare trimSuffix
  rw [suf_no hm h46]
  rfl
theorem low46 {m : List UInt8} : 46 ∈ m.map low ↔ 46 ∈ m := by
  constructor
  · intro h
    obtain ⟨c, hc, e⟩ := List.mem_map.1 h
    rwa [← (low_facts c).2.1.1 e]
  · intro h
    exact List.mem_map.2 ⟨46, h, (low_facts 46).2.1.2 rfl⟩
theorem label_ne {m : List UInt8} (h : labelB m = true) : m ≠ [] ∧ m.length ≤ 63 := by
  unfold labelB at h
  simp only [Bool.and_eq_true, decide_eq_true_eq] at h
  exact h.1
/-- A label, as the document reads it. -/
theorem labH_some {m : List UInt8} (h : labelB m = true) (h46 : 46 ∉ m) : labH m = some (m.map low) := by
  have hn := (label_ne h).1
  have hb : bare m = m := by have := bare_no (a := []) hn h46; simpa using this
  have hr : Tx.isRoot m = false := by have := suf_no (a := []) hn h46; simpa [Tx.isRoot] using this
  have hc : Lib.countByte ((bare m).map low) 46 = 0 := by
    rw [hb]; unfold Lib.countByte; exact List.count_eq_zero.2 (fun e => h46 (low46.1 e))
  have hnb : nameB m = true := by
    have e := name_join [] m (fun x hx => by cases hx) h46
    simp only [wjoin, List.flatMap_nil, List.nil_append] at e
    rw [e]
    have h2 := (label_ne h).2
    simp [h]; omega
  unfold labH
  rw [if_pos ⟨by rw [hb]; exact hnb, hr, hc⟩, hb]
theorem labH_none {m : List UInt8} (h : labelB m = false ∨ 46 ∈ m) : labH m = none := by
  unfold labH
  split
  · rename_i hh
    exfalso
    obtain ⟨h1, h2, h3⟩ := hh
    have hb : bare m = m := by
      unfold bare trimSuffix
      have : hasSuffix m [46] = false := h2
      rw [this]; rfl
    rw [hb] at h1 h3
    have h46 : 46 ∉ m := fun e => by
      unfold Lib.countByte at h3
      exact absurd (low46.2 e) (List.count_eq_zero.1 h3)
    rcases h with h | h
    · have e := name_join [] m (fun x hx => by cases hx) h46
      simp only [wjoin, List.flatMap_nil, List.nil_append] at e
      rw [e] at h1
      simp [h] at h1
    · exact h46 h
  · rfl
theorem take_len {l : List UInt8} {i z : Nat} (h : i + 1 + z ≤ l.length) : (tk l (i + 1) z).length = z := by
  unfold tk; rw [List.length_take, List.length_drop]; omega
/-- With a label that is none the program's reading comes to nothing. -/
theorem name_bad (l : List UInt8) : ∀ (f lo i : Nat) (T : List (List UInt8)) (be : Nat), (∀ x ∈ T, 46 ∉ x) → (∃ x ∈ T, labelB x = false) → nameF l f lo i (wjoin T) be = none
  | 0, _, _, _, _, _, _ => rfl
  | f + 1, lo, i, T, be, hT, hb => by
    unfold nameF
    split
    · rfl
    · rename_i z hz
      split
      · split
        · rfl
        · split
          · exact name_bad l f _ _ T _ hT hb
          · rfl
      · split
        · split
          · rename_i hc
            have e : wjoin T ++ tk l (i + 1) z.toNat ++ [46] = wjoin (T ++ [tk l (i + 1) z.toNat]) := (wjoin_snoc _ _).symm
            rw [e]
            obtain ⟨x, hx, hxb⟩ := hb
            exact name_bad l f _ _ _ _ (fun y hy => by
              rcases List.mem_append.1 hy with hy | hy
              · exact hT y hy
              · rw [List.mem_singleton.1 hy]; exact hc.2.1) ⟨x, by simp [hx], hxb⟩
          · rfl
        · split
          · rename_i hn
            exfalso
            obtain ⟨x, hx, hxb⟩ := hb
            rcases List.eq_nil_or_concat T with rfl | ⟨T', m, rfl⟩
            · cases hx
            · rw [List.concat_eq_append] at hx hT hn
              rw [bare_wjoin, name_join T' m (fun y hy => hT y (by simp [hy])) (hT m (by simp))] at hn
              rw [Bool.and_eq_true] at hn
              have := List.all_eq_true.1 hn.2 x hx
              rw [hxb] at this; cases this
          · rfl
end Go.Wi

namespace Go.Wi
open Go.Tx Go.Lib
/-- The name so far, as the document keeps it. -/
def soFar (T : List (List UInt8)) : List UInt8 := (bare (wjoin T)).map low
theorem soFar_nil : soFar [] = [] := rfl
theorem soFar_snoc (T : List (List UInt8)) (m : List UInt8) : soFar (T ++ [m]) = (wjoin T ++ m).map low := by unfold soFar; rw [bare_wjoin]
theorem wjoin_ne {T : List (List UInt8)} (h : T ≠ []) : wjoin T ≠ [] := by
  cases T with
  | nil => exact absurd rfl h
  | cons x T => unfold wjoin; simp
/-- One more label. -/
theorem join_soFar (T : List (List UInt8)) (m : List UInt8) (hT : ∀ x ∈ T, labelB x = true) : joinH (soFar T) (m.map low) = soFar (T ++ [m]) := by
  rw [soFar_snoc]
  rcases List.eq_nil_or_concat T with rfl | ⟨T', x, rfl⟩
  · rw [soFar_nil]; rfl
  · rw [List.concat_eq_append] at hT ⊢
    have hx := (label_ne (hT x (by simp))).1
    have hne : soFar (T' ++ [x]) ≠ [] := by rw [soFar_snoc]; simp [hx]
    unfold joinH
    rw [if_neg hne, soFar_snoc, wjoin_snoc]
    have h46 : low 46 = 46 := (low_facts 46).2.1.2 rfl
    simp [h46]
theorem soFar_bare (T : List (List UInt8)) (hT : ∀ x ∈ T, labelB x = true ∧ 46 ∉ x) : bare (soFar T) = soFar T := by
  rcases List.eq_nil_or_concat T with rfl | ⟨T', x, rfl⟩
  · rfl
  · rw [List.concat_eq_append] at hT ⊢
    have hx := hT x (by simp)
    rw [soFar_snoc, List.map_append]
    exact bare_no (by simp [(label_ne hx.1).1]) (fun e => hx.2 (low46.1 e))
theorem soFar_low (T : List (List UInt8)) : (soFar T).map low = soFar T := by unfold soFar; rw [low_low]
theorem soFar_name (T : List (List UInt8)) : nameB (soFar T) = nameB (bare (wjoin T)) := by unfold soFar; rw [name_low]
theorem name_eq (l : List UInt8) : ∀ (f lo i : Nat) (T : List (List UInt8)) (en : Option Nat), (∀ x ∈ T, labelB x = true ∧ 46 ∉ x) → (en = none → l.length ≤ lo) → (∀ e, en = some e → 0 < e) →
    nameF l f lo i (wjoin T) (en.getD 0) = nameH l f lo i (soFar T) en
  | 0, _, _, _, _, _, _, _ => rfl
  | f + 1, lo, i, T, en, hT, hlo, hen => by
    cases hz : l[i]? with
    | none => rw [nameF_end hz, nameH_end hz]
    | some z =>
      have hi : i < l.length := (List.getElem?_eq_some_iff.1 hz).1
      by_cases h0 : z.toNat = 0
      · cases hn : nameB (bare (wjoin T)) with
        | false => rw [nameF_bad hz h0 hn, nameH_bad hz h0 (by rw [soFar_bare T hT, soFar_name]; exact hn)]
        | true =>
          rw [nameF_fin hz h0 hn, nameH_fin hz h0 (by rw [soFar_bare T hT, soFar_name]; exact hn), soFar_bare T hT, soFar_low]
          cases en with
          | none => rfl
          | some e => have := hen e rfl; simp [soFar, this]
      · by_cases h192 : 192 ≤ z.toNat
        · cases hy : l[i + 1]? with
          | none => rw [nameF_short hz h192 hy, nameH_short hz h192 hy]
          | some y =>
            have hiff : ((z.toNat - 192) * 256 + y.toNat < min i lo) ↔ ((z.toNat - 192) * 256 + y.toNat < i ∧ (z.toNat - 192) * 256 + y.toNat < (if en = none then i else lo)) := by
              cases en with
              | none => have := hlo rfl; simp; omega
              | some e => simp; omega
            by_cases ht : (z.toNat - 192) * 256 + y.toNat < min i lo
            · rw [nameF_ptr hz h192 hy ht, nameH_ptr hz h192 hy (hiff.1 ht)]
              have e : (if en.getD 0 = 0 then i + 2 else en.getD 0) = (some (en.getD (i + 2))).getD 0 := by
                cases en with
                | none => rfl
                | some e => have := hen e rfl; simp; omega
              rw [e]
              exact name_eq l f _ _ T _ hT (fun h => by cases h) (fun e h => by
                cases h
                cases en with
                | none => show 0 < i + 2; omega
                | some k => exact hen k rfl)
            · rw [nameF_wild hz h192 hy ht, nameH_wild hz h192 hy (fun h => ht (hiff.2 h))]
        · by_cases hin : i + 1 + z.toNat ≤ l.length
          · have hml : (tk l (i + 1) z.toNat).length = z.toNat := take_len hin
            by_cases hg : labelB (tk l (i + 1) z.toNat) = true ∧ 46 ∉ tk l (i + 1) z.toNat
            · have h63 : ¬ 63 < z.toNat := by have := (label_ne hg.1).2; omega
              have hl := labH_some hg.1 hg.2
              have hj : (joinH (soFar T) ((tk l (i + 1) z.toNat).map low)).length ≤ 253 ↔ (wjoin T ++ tk l (i + 1) z.toNat ++ [46]).length ≤ 254 := by
                rw [join_soFar T _ (fun x hx => (hT x hx).1), soFar_snoc, List.length_map, List.length_append (bs := [46])]
                simp
              by_cases hc : (wjoin T ++ tk l (i + 1) z.toNat ++ [46]).length ≤ 254
              · rw [nameF_lab hz h192 (by omega) ⟨hin, hg.2, hc⟩, nameH_lab hz h0 h63 hin hl (hj.2 hc), join_soFar T _ (fun x hx => (hT x hx).1), ← wjoin_snoc]
                exact name_eq l f _ _ _ en (fun x hx => by
                  rcases List.mem_append.1 hx with hx | hx
                  · exact hT x hx
                  · rw [List.mem_singleton.1 hx]; exact hg) hlo hen
              · rw [nameF_no hz h192 (by omega) (fun h => hc h.2.2), nameH_many hz h0 h63 hl (fun h => hc (hj.1 h))]
            · have hF : nameF l (f + 1) lo i (wjoin T) (en.getD 0) = none := by
                by_cases hc : i + 1 + z.toNat ≤ l.length ∧ ¬ 46 ∈ tk l (i + 1) z.toNat ∧ (wjoin T ++ tk l (i + 1) z.toNat ++ [46]).length ≤ 254
                · rw [nameF_lab hz h192 (by omega) hc, ← wjoin_snoc]
                  refine name_bad l f _ _ _ _ (fun x hx => ?_) ⟨tk l (i + 1) z.toNat, by simp, ?_⟩
                  · rcases List.mem_append.1 hx with hx | hx
                    · exact (hT x hx).2
                    · rw [List.mem_singleton.1 hx]; exact hc.2.1
                  · cases hh : labelB (tk l (i + 1) z.toNat) with
                    | false => rfl
                    | true => exact absurd ⟨hh, hc.2.1⟩ hg
                · exact nameF_no hz h192 (by omega) hc
              rw [hF]
              by_cases h63 : 63 < z.toNat
              · rw [nameH_big hz h192 h63]
              · rw [nameH_nolab hz h0 h63 (labH_none (by
                  cases hh : labelB (tk l (i + 1) z.toNat) with
                  | false => exact .inl rfl
                  | true => exact .inr (Classical.byContradiction fun h => hg ⟨hh, h⟩)))]
          · rw [nameF_no hz h192 (by omega) (fun h => hin h.1)]
            by_cases h63 : 63 < z.toNat
            · rw [nameH_big hz h192 h63]
            · rw [nameH_long hz h0 h63 hin]
theorem nameW_eq (l : List UInt8) (i : Nat) : nameW l i = nameX l i := by
  unfold nameW nameX
  exact name_eq l _ _ i [] none (fun x hx => by cases hx) (fun _ => Nat.le_refl _) (fun e h => by cases h)
end Go.Wi

namespace Go.Proofs.YtepfeekfglpjoaaDoor
open Go.RowKit Go.Lib Go.Wi Go.Tx
theorem nmV_at {l : List UInt8} {i : Int} (j : Nat) (e : i = j) (h : j + 2 ≤ l.length) : nmV l i = (numV (tk l j 2) : Int) := by
  subst e
  unfold nmV
  rw [if_pos ⟨by omega, by omega⟩, Int.toNat_natCast]
theorem nmV_no {l : List UInt8} {i : Int} (h : (l.length : Int) < i + 2) : nmV l i = -1 := by
  unfold nmV
  rw [if_neg (fun hh => by omega)]
theorem numV_go (a : List UInt8) : ∀ n : Nat, a.foldl (fun n c => n * 256 + c.toNat) n = n * 256 ^ a.length + numV a := by
  induction a with
  | nil => intro n; simp [numV]
  | cons x a ih =>
    intro n
    unfold numV
    rw [List.foldl_cons, List.foldl_cons, ih, ih, List.length_cons, Nat.pow_succ, Nat.add_mul]
    have : n * 256 * 256 ^ a.length = n * (256 ^ a.length * 256) := by rw [Nat.mul_assoc, Nat.mul_comm 256]
    simp only [Nat.zero_mul, Nat.zero_add]
    omega
theorem numV_app (a b : List UInt8) : numV (a ++ b) = numV a * 256 ^ b.length + numV b := by
  unfold numV
  rw [List.foldl_append, numV_go]
  rfl
theorem tk_add (l : List UInt8) (i a b : Nat) : tk l i (a + b) = tk l i a ++ tk l (i + a) b := by
  unfold tk
  rw [List.take_add, List.drop_drop]
theorem tk_len {l : List UInt8} {i z : Nat} (h : i + z ≤ l.length) : (tk l i z).length = z := by
  unfold tk; rw [List.length_take, List.length_drop]; omega
theorem numV_four {l : List UInt8} {i : Nat} (h : i + 4 ≤ l.length) : numV (tk l i 4) = numV (tk l i 2) * 65536 + numV (tk l (i + 2) 2) := by
  rw [show (4 : Nat) = 2 + 2 from rfl, tk_add, numV_app, tk_len (by omega)]
/-- What is read as a name is clean. -/
theorem nameF_form (l : List UInt8) : ∀ (f lo i : Nat) (wh : List UInt8) (be : Nat) (m : List UInt8) (j : Nat), nameF l f lo i wh be = some (m, j) → ∃ s, nameB s = true ∧ m = s.map low
  | 0, _, _, _, _, _, _, h => by cases h
  | f + 1, lo, i, wh, be, m, j, h => by
    unfold nameF at h
    split at h
    · cases h
    · split at h
      · split at h
        · cases h
        · split at h
          · exact nameF_form l f _ _ _ _ _ _ h
          · cases h
      · split at h
        · split at h
          · exact nameF_form l f _ _ _ _ _ _ h
          · cases h
        · split at h
          · rename_i hb
            cases h
            exact ⟨_, hb, rfl⟩
          · cases h
theorem split_last : ∀ (t cur : List UInt8), [] ∈ splitG 46 cur (t ++ [46])
  | [], cur => by simp [splitG]
  | c :: t, cur => by
    rw [List.cons_append]
    unfold splitG
    split
    · exact List.mem_cons_of_mem _ (split_last t [])
    · exact split_last t _
theorem name_noroot {m : List UInt8} (h : nameB m = true) : Tx.isRoot m = false := by
  cases hr : Tx.isRoot m with
  | false => rfl
  | true =>
    exfalso
    unfold Tx.isRoot hasSuffix at hr
    obtain ⟨t, ht⟩ := List.isSuffixOf_iff_suffix.1 hr
    unfold nameB at h
    rw [Bool.and_eq_true] at h
    have h1 := List.all_eq_true.1 h.2 [] (by rw [← ht]; exact split_last t [])
    simp [labelB] at h1
theorem name_bare {m : List UInt8} (h : nameB m = true) : bare m = m := by
  unfold bare trimSuffix
  have : hasSuffix m [46] = false := name_noroot h
  rw [this]
  rfl
theorem clean_low {s : List UInt8} (h : nameB s = true) : cleanB (s.map low) = true := by
  have h1 : nameB (s.map low) = true := by rw [name_low]; exact h
  unfold cleanB
  rw [name_bare h1, h1, name_noroot h1, low_low]
  simp
theorem nameW_clean {l : List UInt8} {i : Nat} {m : List UInt8} {j : Nat} (h : nameW l i = some (m, j)) : cleanB m = true := by
  obtain ⟨s, hs, rfl⟩ := nameF_form l _ _ _ _ _ _ _ h
  exact clean_low hs
theorem nameW_le {l : List UInt8} {i : Nat} {m : List UInt8} {j : Nat} (h : nameW l i = some (m, j)) : j ≤ l.length := nameF_le l _ _ _ _ _ _ _ h (Nat.zero_le _)
theorem fits_fine {k : Nat} {d : List UInt8} (h : k ≠ 12) : fineB (k : Int) d = fitsB (k : Int) d := by
  unfold fineB fitsB
  rw [if_neg (c := (k : Int) = 12) (by omega)]
theorem rec_eq (l : List UInt8) (i : Nat) : recW l i = recX l i := by
  unfold recW subjW recX
  rw [nameW_eq]
  cases hq : nameX l i with
  | none => rfl
  | some q =>
    obtain ⟨m, k⟩ := q
    simp only [Option.bind_some]
    by_cases h10 : k + 10 ≤ l.length
    · have h0 := nmV_at (l := l) (i := (k : Int)) k rfl (by omega)
      have h2 := nmV_at (l := l) (i := (k : Int) + 2) (k + 2) (by omega) (by omega)
      have h4 := nmV_at (l := l) (i := (k : Int) + 4) (k + 4) (by omega) (by omega)
      have h6 := nmV_at (l := l) (i := (k : Int) + 6) (k + 6) (by omega) (by omega)
      have h8 := nmV_at (l := l) (i := (k : Int) + 8) (k + 8) (by omega) (by omega)
      have hf := numV_four (l := l) (i := k + 4) (by omega)
      rw [h0, h2, h4, h6, h8]
      obtain ⟨T, hT⟩ : ∃ T, numV (tk l k 2) = T := ⟨_, rfl⟩
      obtain ⟨C, hC⟩ : ∃ T, numV (tk l (k + 2) 2) = T := ⟨_, rfl⟩
      obtain ⟨A, hA⟩ : ∃ T, numV (tk l (k + 4) 2) = T := ⟨_, rfl⟩
      obtain ⟨B, hB⟩ : ∃ T, numV (tk l (k + 6) 2) = T := ⟨_, rfl⟩
      obtain ⟨S, hS⟩ : ∃ T, numV (tk l (k + 8) 2) = T := ⟨_, rfl⟩
      rw [hA, show k + 4 + 2 = k + 6 from rfl, hB] at hf
      rw [hT, hC, hA, hB, hS]
      by_cases hTC : T ≠ 0 ∧ C = 1
      · rw [if_pos ⟨by omega, hTC⟩, if_neg (c := (T : Int) < 1 ∨ _) (by omega)]
        simp only
        rw [hf]
        by_cases hL : A * 65536 + B ≤ 2147483647
        · rw [if_pos ⟨by omega, hL⟩]
          unfold dataW
          rw [if_pos (by omega), show k + 4 + 4 = k + 8 from rfl, hS, show k + 8 + 2 = k + 10 from rfl]
          by_cases h12 : T = 12
          · subst h12
            rw [if_pos (show ((12 : Nat) : Int) = 12 from rfl), if_pos (show ((12 : Nat) : Int) = 12 from rfl), nameW_eq]
            cases hn : nameX l (k + 10) with
            | none => simp
            | some r =>
              obtain ⟨d, e⟩ := r
              rw [← nameW_eq] at hn
              have hle := nameW_le hn
              have hcl := nameW_clean hn
              simp only [Int.toNat_natCast]
              by_cases he : e = k + 10 + S
              · rw [if_pos he, if_neg (by omega), if_pos he]
                have hfn : fineB (12 : Int) d = true := by unfold fineB; simp [hcl]
                simp only [Option.bind_some]
                rw [if_pos (show fineB ((12 : Nat) : Int) d = true from hfn), he]
                congr 3 <;> omega
              · rw [if_neg he, if_neg he]
                simp
          · rw [if_neg (c := (T : Int) = 12) (by omega), if_neg (c := (T : Int) = 12) (by omega)]
            simp only [Int.toNat_natCast]
            by_cases hlen : k + 10 + S ≤ l.length
            · rw [if_neg (c := (l.length : Int) < _ ∨ _) (by omega)]
              simp only [Option.bind_some]
              rw [fits_fine h12]
              by_cases hfit : fitsB (T : Int) (tk l (k + 10) S) = true
              · rw [if_pos ⟨hlen, hfit⟩, if_pos hfit]
                simp only
                congr 3 <;> omega
              · rw [if_neg (fun h => hfit h.2), if_neg hfit]
            · rw [if_neg (fun h => hlen h.1), if_pos (by omega)]
        · rw [if_neg (fun h => hL h.2), if_pos (by omega)]
      · rw [if_neg (fun h => hTC h.2), if_pos (by omega)]
    · have h8 := nmV_no (l := l) (i := (k : Int) + 8) (by omega)
      rw [if_pos (show nmV l (k : Int) < 1 ∨ _ from .inr (.inr (.inr (.inr (by rw [h8]; omega)))))]
      split
      · rfl
      · rename_i hh
        split at hh
        · cases hh
          split
          · unfold dataW
            rw [if_neg (by omega)]
          · rfl
        · cases hh
theorem recs_eq (l : List UInt8) (i : Nat) : ∀ k, recsW l (some i) k = recsX l i k
  | 0 => rfl
  | k + 1 => by
    unfold recsW recsX
    rw [recs_eq l i k]
    congr 1
    funext q
    rw [rec_eq]
theorem and_mid (v : Nat) : v &&& 30720 = (v / 2048 % 16) * 2048 := by
  have e : v / 2048 % 16 * 2048 = ((v >>> 11) &&& 15) <<< 11 := by
    rw [Nat.shiftLeft_eq, Nat.shiftRight_eq_div_pow, show (15 : Nat) = 2 ^ 4 - 1 from rfl, Nat.and_two_pow_sub_one_eq_mod]
  rw [e]
  apply Nat.eq_of_testBit_eq
  intro i
  rw [show (30720 : Nat) = 15 <<< 11 from rfl, Nat.testBit_and, Nat.testBit_shiftLeft, Nat.testBit_shiftLeft, Nat.testBit_and, Nat.testBit_shiftRight]
  by_cases h : 11 ≤ i
  · have : 11 + (i - 11) = i := by omega
    simp [h, this]
  · simp [h]
theorem and_bit (v k : Nat) : decide (v &&& 2 ^ k ≠ 0) = decide (v / 2 ^ k % 2 = 1) := by
  rw [← Nat.testBit_eq_decide_div_mod_eq]
  have e : v &&& 2 ^ k = (v.testBit k).toNat * 2 ^ k := by
    apply Nat.eq_of_testBit_eq
    intro i
    rw [Nat.testBit_and, Nat.testBit_two_pow]
    cases hb : v.testBit k with
    | false =>
      by_cases hi : k = i
      · subst hi; simp [hb]
      · simp [hi]
    | true =>
      simp only [Bool.toNat_true, Nat.one_mul, Nat.testBit_two_pow]
      by_cases hi : k = i
      · subst hi; simp [hb]
      · simp [hi]
  rw [e]
  cases v.testBit k with
  | false => simp
  | true => simp
theorem and_top {v : Nat} (h : v < 65536) : decide (v &&& 32768 ≠ 0) = decide (32768 ≤ v) := by
  rw [show (32768 : Nat) = 2 ^ 15 from rfl, and_bit]
  apply decide_eq_decide.2
  omega
end Go.Proofs.YtepfeekfglpjoaaDoor

namespace Go.Proofs.YtepfeekfglpjoaaDoor
open Go.RowKit Go.Lib Go.Wi Go.Tx
theorem tk_ext {l : List UInt8} (r : List UInt8) {i s : Nat} (h : i + s ≤ l.length) : tk (l ++ r) i s = tk l i s := by
  unfold tk
  rw [List.drop_append_of_le_length (by omega), List.take_append_of_le_length (by rw [List.length_drop]; omega)]
theorem get_ext {l : List UInt8} (r : List UInt8) {i : Nat} {z : UInt8} (h : l[i]? = some z) : (l ++ r)[i]? = some z := by
  have := (List.getElem?_eq_some_iff.1 h).1
  rw [List.getElem?_append_left this]; exact h
theorem nameF_ext (l r : List UInt8) : ∀ (f lo i : Nat) (wh : List UInt8) (be : Nat) (q : List UInt8 × Nat) (f' lo' : Nat), nameF l f lo i wh be = some q → f ≤ f' → (lo' = lo ∨ (l.length ≤ lo ∧ l.length ≤ lo')) → nameF (l ++ r) f' lo' i wh be = some q
  | 0, _, _, _, _, _, _, _, h, _, _ => by cases h
  | f + 1, lo, i, wh, be, q, 0, lo', _, hf, _ => by omega
  | f + 1, lo, i, wh, be, q, f' + 1, lo', h, hf, hlo => by
    cases hz : l[i]? with
    | none => rw [nameF_end hz] at h; cases h
    | some z =>
      have hi := (List.getElem?_eq_some_iff.1 hz).1
      have hz' := get_ext r hz
      by_cases h192 : 192 ≤ z.toNat
      · cases hy : l[i + 1]? with
        | none => rw [nameF_short hz h192 hy] at h; cases h
        | some y =>
          have hy' := get_ext r hy
          by_cases ht : (z.toNat - 192) * 256 + y.toNat < min i lo
          · rw [nameF_ptr hz h192 hy ht] at h
            rw [nameF_ptr hz' h192 hy' (by omega)]
            exact nameF_ext l r f _ _ _ _ _ _ _ h (by omega) (.inl rfl)
          · rw [nameF_wild hz h192 hy ht] at h; cases h
      · by_cases h0 : 0 < z.toNat
        · by_cases hc : i + 1 + z.toNat ≤ l.length ∧ ¬ 46 ∈ tk l (i + 1) z.toNat ∧ (wh ++ tk l (i + 1) z.toNat ++ [46]).length ≤ 254
          · rw [nameF_lab hz h192 h0 hc] at h
            have ht := tk_ext r (l := l) hc.1
            rw [nameF_lab hz' h192 h0 (by rw [ht, @List.length_append _ l]; exact ⟨by omega, hc.2⟩), ht]
            exact nameF_ext l r f _ _ _ _ _ _ _ h (by omega) hlo
          · rw [nameF_no hz h192 h0 hc] at h; cases h
        · cases hn : nameB (bare wh) with
          | false => rw [nameF_bad hz (by omega) hn] at h; cases h
          | true =>
            rw [nameF_fin hz (by omega) hn] at h
            rw [nameF_fin hz' (by omega) hn]
            exact h
theorem nameW_ext {l : List UInt8} (r : List UInt8) {i : Nat} {q : List UInt8 × Nat} (h : nameW l i = some q) : nameW (l ++ r) i = some q := by
  unfold nameW at h ⊢
  refine nameF_ext l r _ _ _ _ _ _ _ _ h ?_ (.inr ⟨Nat.le_refl _, by rw [List.length_append]; omega⟩)
  have h1 : l.length ≤ (l ++ r).length := by rw [List.length_append]; omega
  have := Nat.mul_le_mul (show l.length + 1 ≤ (l ++ r).length + 1 by omega) (show l.length + 2 ≤ (l ++ r).length + 2 by omega)
  omega
theorem subjW_ext {l : List UInt8} (r : List UInt8) {i : Nat} {q : List UInt8 × Nat × Nat} (h : subjW l i = some q) : subjW (l ++ r) i = some q := by
  unfold subjW at h ⊢
  split at h
  · cases h
  · rename_i m j hn
    rw [nameW_ext r hn]
    split at h
    · rename_i hc
      simp only
      rw [tk_ext r (by omega), tk_ext r (by omega), if_pos ⟨by rw [List.length_append]; omega, hc.2⟩]
      exact h
    · cases h
theorem dataW_ext {l : List UInt8} (r : List UInt8) {k : Int} {i : Nat} {q : List UInt8 × Nat} (h : dataW l k i = some q) : dataW (l ++ r) k i = some q := by
  unfold dataW at h ⊢
  split at h
  · rename_i h2
    rw [if_pos (by rw [List.length_append]; omega), tk_ext r h2]
    split at h
    · rename_i hk
      rw [if_pos hk]
      split at h
      · cases h
      · rename_i m j hn
        rw [nameW_ext r hn]
        exact h
    · rename_i hk
      rw [if_neg hk]
      split at h
      · rename_i hc
        rw [tk_ext r hc.1, if_pos ⟨by rw [List.length_append]; omega, hc.2⟩]
        exact h
      · cases h
  · cases h
theorem recW_ext {l : List UInt8} (r : List UInt8) {i : Nat} {q : Rec × Nat} (h : recW l i = some q) : recW (l ++ r) i = some q := by
  unfold recW at h ⊢
  split at h
  · cases h
  · rename_i m t j hs
    rw [subjW_ext r hs]
    split at h
    · rename_i hc
      simp only
      rw [tk_ext r hc.1, if_pos ⟨by rw [List.length_append]; omega, hc.2⟩]
      split at h
      · cases h
      · rename_i d j2 hd
        rw [dataW_ext r hd]
        exact h
    · cases h
theorem recsW_ext {l : List UInt8} (r : List UInt8) {i : Nat} : ∀ {k : Nat} {q : List Rec × Nat}, recsW l (some i) k = some q → recsW (l ++ r) (some i) k = some q
  | 0, _, h => h
  | k + 1, q, h => by
    unfold recsW at h ⊢
    rw [Option.bind_eq_some_iff] at h
    obtain ⟨a, ha, hb⟩ := h
    rw [recsW_ext r ha]
    rw [Option.map_eq_some_iff] at hb
    obtain ⟨x, hx, hq⟩ := hb
    rw [Option.bind_some, recW_ext r hx]
    exact congrArg some hq
/-- A whole message, and where it ends. -/
def decE (l : List UInt8) : Option (Msg × Nat) :=
  if l.length < 12 then none
  else if numV (tk l 4 2) ≠ 1 ∨ 32 < numV (tk l 6 2) ∨ numV (tk l 2 2) / 2048 % 16 ≠ 0 then none
  else (subjW l 12).bind fun q => (recsW l (some q.2.2) (numV (tk l 6 2))).map fun r =>
    (⟨numV (tk l 0 2), decide (32768 ≤ numV (tk l 2 2)), decide (numV (tk l 2 2) / 512 % 2 = 1), decide (numV (tk l 2 2) / 256 % 2 = 1), numV (tk l 2 2) % 16, q.1, q.2.1, r.1⟩, r.2)
theorem decE_ext {l : List UInt8} (r : List UInt8) {q : Msg × Nat} (h : decE l = some q) : decE (l ++ r) = some q := by
  unfold decE at h ⊢
  split at h
  · cases h
  · rename_i h12
    rw [if_neg (by rw [List.length_append]; omega), tk_ext r (by omega), tk_ext r (by omega), tk_ext r (by omega), tk_ext r (by omega)]
    split at h
    · cases h
    · rename_i hc
      rw [if_neg hc]
      rw [Option.bind_eq_some_iff] at h
      obtain ⟨a, ha, hb⟩ := h
      rw [subjW_ext r ha]
      rw [Option.map_eq_some_iff] at hb
      obtain ⟨x, hx, hq⟩ := hb
      rw [Option.bind_some, recsW_ext r hx]
      exact congrArg some hq
theorem decX_E (l : List UInt8) : decX l = if l.length ≤ 4096 then (decE l).map (·.1) else none := by
  unfold decX decE
  by_cases h12 : l.length < 12
  · rw [if_pos (.inl h12), if_pos h12]
    split <;> rfl
  · rw [if_neg h12]
    by_cases h4 : l.length ≤ 4096
    · rw [if_neg (c := l.length < 12 ∨ _) (by omega), if_pos h4]
      have e0 := nmV_at (l := l) (i := 0) 0 rfl (by omega)
      have e2 := nmV_at (l := l) (i := 2) 2 rfl (by omega)
      have e4 := nmV_at (l := l) (i := 4) 4 rfl (by omega)
      have e6 := nmV_at (l := l) (i := 6) 6 rfl (by omega)
      rw [e0, e2, e4, e6]
      obtain ⟨I, hI⟩ : ∃ T, numV (tk l 0 2) = T := ⟨_, rfl⟩
      obtain ⟨F, hF⟩ : ∃ T, numV (tk l 2 2) = T := ⟨_, rfl⟩
      obtain ⟨Q, hQ⟩ : ∃ T, numV (tk l 4 2) = T := ⟨_, rfl⟩
      obtain ⟨N, hN⟩ : ∃ T, numV (tk l 6 2) = T := ⟨_, rfl⟩
      rw [hI, hF, hQ, hN]
      by_cases hc : Q ≠ 1 ∨ 32 < N ∨ F / 2048 % 16 ≠ 0
      · rw [if_pos hc, if_pos (by omega)]
        rfl
      · rw [if_neg hc, if_neg (by omega)]
        unfold subjW
        rw [nameW_eq]
        cases hn : nameX l 12 with
        | none => rfl
        | some q =>
          obtain ⟨m, k⟩ := q
          simp only [Option.bind_some]
          by_cases hk : k + 4 ≤ l.length
          · have f0 := nmV_at (l := l) (i := (k : Int)) k rfl (by omega)
            have f2 := nmV_at (l := l) (i := (k : Int) + 2) (k + 2) (by omega) (by omega)
            rw [f0, f2]
            by_cases ht : numV (tk l k 2) ≠ 0 ∧ numV (tk l (k + 2) 2) = 1
            · rw [if_neg (c := _ < 1 ∨ _) (by omega), if_pos ⟨hk, ht⟩]
              simp only [Option.bind_some, Int.toNat_natCast]
              rw [recs_eq, Option.map_map]
              congr 1
              funext r
              have a1 : decide ((32768 : Int) ≤ (F : Int)) = decide (32768 ≤ F) := decide_eq_decide.2 (by omega)
              have a2 : decide ((F : Int) / 512 % 2 = 1) = decide (F / 512 % 2 = 1) := decide_eq_decide.2 (by omega)
              have a3 : decide ((F : Int) / 256 % 2 = 1) = decide (F / 256 % 2 = 1) := decide_eq_decide.2 (by omega)
              have a4 : ((F : Int) % 16).toNat = F % 16 := by omega
              rw [a1, a2, a3, a4]
              rfl
            · rw [if_pos (c := _ < 1 ∨ _) (by omega), if_neg (fun h => ht h.2)]
              rfl
          · have f2 := nmV_no (l := l) (i := (k : Int) + 2) (by omega)
            rw [f2, if_pos (.inr (by omega)), if_neg (fun h => hk h.1)]
            rfl
    · rw [if_pos (.inr (by omega)), if_neg h4]
theorem numSt_some {l : List UInt8} {i s : Nat} (h : i + s ≤ l.length) : numSt l (some i) s = (numV (tk l i s), some (i + s)) := by unfold numSt; simp only; rw [if_pos h]
theorem numSt_none (l : List UInt8) (s : Nat) : numSt l none s = (0, none) := rfl
theorem numSt_or {l : List UInt8} {i s : Nat} {st : Option Nat} (h : st = none ∨ st = some i) : (numSt l st s).2 = none ∨ ((numSt l st s).2 = some (i + s) ∧ i + s ≤ l.length) := by
  rcases h with rfl | rfl
  · exact .inl rfl
  · unfold numSt
    simp only
    split
    · rename_i hh; exact .inr ⟨rfl, hh⟩
    · exact .inl rfl
theorem chk_or {i : Nat} {st : Option Nat} (b : Bool) (h : st = none ∨ st = some i) : chk st b = none ∨ chk st b = some i := by
  unfold chk
  split
  · exact h
  · exact .inl rfl
theorem or_of {l : List UInt8} {st : Option Nat} {i : Nat} (h : st = none ∨ (st = some i ∧ i ≤ l.length)) : st = none ∨ st = some i := h.imp id And.left
theorem msgW_E (l : List UInt8) (h4 : l.length ≤ 4096) : msgW l = (decE l).map (·.1) := by
  unfold msgW decE
  by_cases h12 : l.length < 12
  · rw [if_pos h12]
    have s1 := or_of (numSt_or (l := l) (s := 2) (.inr rfl : (some 0) = none ∨ some 0 = some 0))
    have s2 := or_of (numSt_or (l := l) (s := 2) s1)
    have s4 := or_of (numSt_or (l := l) (s := 2) (chk_or (decide ((numSt l (numSt l (some 0) 2).2 2).1 &&& 30720 = 0)) s2))
    have s6 := or_of (numSt_or (l := l) (s := 2) (chk_or (((numSt l (chk (numSt l (numSt l (some 0) 2).2 2).2 (decide ((numSt l (numSt l (some 0) 2).2 2).1 &&& 30720 = 0))) 2).1 : Int) == 1) s4))
    have s8 := numSt_or (l := l) (s := 4) (chk_or (decide (((numSt l (chk (numSt l (chk (numSt l (numSt l (some 0) 2).2 2).2 (decide ((numSt l (numSt l (some 0) 2).2 2).1 &&& 30720 = 0))) 2).2 (((numSt l (chk (numSt l (numSt l (some 0) 2).2 2).2 (decide ((numSt l (numSt l (some 0) 2).2 2).1 &&& 30720 = 0))) 2).1 : Int) == 1)) 2).1 : Int) ≤ 32)) s6)
    rcases s8 with s8 | ⟨_, hh⟩
    · simp only
      rw [s8]
      rfl
    · omega
  · rw [if_neg h12, numSt_some (by omega)]
    simp only
    rw [numSt_some (by omega)]
    simp only [Nat.zero_add, Nat.reduceAdd]
    have hF : numV (tk l 2 2) < 65536 := numV_two l 2
    obtain ⟨I, hI⟩ : ∃ T, numV (tk l 0 2) = T := ⟨_, rfl⟩
    obtain ⟨F, hF2⟩ : ∃ T, numV (tk l 2 2) = T := ⟨_, rfl⟩
    rw [hF2] at hF
    rw [hI, hF2]
    have b1 := and_mid F
    by_cases c1 : F / 2048 % 16 = 0
    · have d1 : decide (F &&& 30720 = 0) = true := decide_eq_true (by rw [b1, c1])
      rw [d1]
      rw [show chk (some 4) true = some 4 from rfl, numSt_some (by omega)]
      simp only [Nat.reduceAdd]
      by_cases c2 : numV (tk l 4 2) = 1
      · have d2 : (((numV (tk l 4 2) : Nat) : Int) == 1) = true := by rw [c2]; rfl
        rw [d2, show chk (some 6) true = some 6 from rfl, numSt_some (by omega)]
        simp only [Nat.reduceAdd]
        by_cases c3 : numV (tk l 6 2) ≤ 32
        · have d3 : decide (((numV (tk l 6 2) : Nat) : Int) ≤ 32) = true := decide_eq_true (by omega)
          rw [d3, show chk (some 8) true = some 8 from rfl, numSt_some (by omega)]
          simp only [Nat.reduceAdd]
          rw [if_neg (by omega)]
          unfold subjSt
          rw [Option.bind_some, Option.map_bind]
          congr 1
          funext q
          simp only [Function.comp_def]
          rw [Option.map_map]
          congr 1
          funext r
          have a1 := and_top hF
          have a2 := and_bit F 9
          have a3 := and_bit F 8
          have a4 : F &&& 15 = F % 16 := by rw [show (15 : Nat) = 2 ^ 4 - 1 from rfl, Nat.and_two_pow_sub_one_eq_mod]
          rw [show (2 : Nat) ^ 9 = 512 from rfl] at a2
          rw [show (2 : Nat) ^ 8 = 256 from rfl] at a3
          rw [a1, a2, a3, a4]
          rfl
        · have d3 : decide (((numV (tk l 6 2) : Nat) : Int) ≤ 32) = false := decide_eq_false (by omega)
          rw [d3, show chk (some 8) false = none from rfl, numSt_none, if_pos (.inr (.inl (by omega)))]
          rfl
      · have d2 : (((numV (tk l 4 2) : Nat) : Int) == 1) = false := by
          rw [beq_eq_false_iff_ne]; omega
        rw [d2, show chk (some 6) false = none from rfl, numSt_none]
        simp only
        rw [if_pos (.inl c2)]
        simp [chk, numSt_none, subjSt]
    · have d1 : decide (F &&& 30720 = 0) = false := decide_eq_false (by rw [b1]; omega)
      rw [d1, show chk (some 4) false = none from rfl, numSt_none]
      simp only
      rw [if_pos (.inr (.inr c1))]
      simp [chk, numSt_none, subjSt]
theorem decW_E (l : List UInt8) : decW l = if l.length ≤ 4096 then (decE l).map (·.1) else none := by
  unfold decW
  split
  · rename_i h; exact msgW_E l h
  · rfl
theorem decW_eq (l : List UInt8) : decW l = decX l := by rw [decW_E, decX_E]
end Go.Proofs.YtepfeekfglpjoaaDoor

namespace Go.Proofs.YtepfeekfglpjoaaDoor
open Go.RowKit Go.Lib Go.Wi Go.Tx
def encOK (i c : Int) (r q x : Bool) (n : List UInt8) (k : Int) (rs : List WRec) : Bool := decide (rs.length ≤ 32) && (msgOK i c r q x n k rs && decide ((msgB i c r q x n k rs).length ≤ 4096))
/-- What Encode answers: the message's bytes, or BadMessage. -/
def EncR (w : World) (i c : Int) (r q x : Bool) (n : List UInt8) (k : Int) (rs : List WRec) (e : Ending) (w' : World) : Prop :=
  Below w.heap.size w w' ∧ ((encOK i c r q x n k rs = true ∧ ∃ v, e = .returned (.tuple #[v, .nilIface]) ∧ OwnB (w.heap.size + 2) w' v (msgB i c r q x n k rs)) ∨ (encOK i c r q x n k rs = false ∧ e = .returned (.tuple #[.slice none 0 0, badV])))
theorem RowsAt.below {w w' : World} {rv : Value} {rs : List WRec} (h : RowsAt w rv rs) (hb : Below w.heap.size w w') : RowsAt w' rv rs := by
  rcases h with h | ⟨g, c, e, hg, hr⟩
  · exact .inl h
  · refine .inr ⟨g, c, e, Nat.lt_of_lt_of_le hg hb.size, fun j r hj => ?_⟩
    have hcl : ∀ j, w'.cell? ⟨g, j, none⟩ = w.cell? ⟨g, j, none⟩ := fun j => by unfold World.cell?; rw [hb.block g hg]
    obtain ⟨a1, a2, a3, a4⟩ := hr j r hj
    exact ⟨by rw [hcl]; exact a1, by rw [hcl]; exact a2, by rw [hcl]; exact a3, by rw [hcl]; exact a4⟩
set_option maxHeartbeats 4000000 in
set_option maxRecDepth 100000 in
theorem wencode_any (i c k : Int) (r q x : Bool) (n : ByteArray) (rv : Value) (rs : List WRec) (w : World) (hrs : RowsAt w rv rs) (hn : n.size ≤ maxLen) (hnd : ∀ r ∈ rs, r.name.size ≤ maxLen ∧ r.data.size ≤ maxLen) (hm : MaxAt w) :
    Calls Tryd.prog 11 #[.agg #[.int .i64 i, .bool r, .bool q, .bool x, .int .i64 c, .string n, .int .i64 k, rv]] w (EncR w i c r q x n.data.toList k rs) := by
  have hrv : ∃ a cc, rv = .slice a rs.length cc := by
    rcases hrs with ⟨e1, e2⟩ | ⟨g1, c1, e1, _⟩
    · exact ⟨none, 0, by rw [e1, e2]; rfl⟩
    · exact ⟨_, _, e1⟩
  obtain ⟨ra, rc, hrv⟩ := hrv
  subst hrv
  have HB1 : Hid (∀ o, Below w.heap.size w (w.alloc o)) := Lib.hid (fun o => (Below.refl _ _).alloc (Nat.le_refl _) o)
  by_cases h32 : rs.length ≤ 32
  · have HOK : Hid (encOK i c r q x n.data.toList k rs = (msgOK i c r q x n.data.toList k rs && decide ((msgB i c r q x n.data.toList k rs).length ≤ 4096))) := Lib.hid (by unfold encOK; rw [decide_eq_true h32, Bool.true_and])
    obtain ⟨bo, hbo⟩ : ∃ bo, w.alloc (.cells #[.int .i64 i, .bool r, .bool q, .bool x, .int .i64 c, .string n, .int .i64 k, .slice ra rs.length rc] 26) = bo := ⟨_, rfl⟩
    have hB2 : Below w.heap.size w (bo.alloc (.cells #[.slice none 0 0, .bool false] 55)) := by
      rw [← hbo]
      exact (HB1.out _).trans (((Below.refl _ _).alloc (Nat.le_refl _) _).mono (HB1.out _).size)
    have hbs : bo.heap.size = w.heap.size + 1 := by rw [← hbo]; show (w.heap.push _).size = _; simp
    have hws : (bo.alloc (.cells #[.slice none 0 0, .bool false] 55)).heap.size = w.heap.size + 2 := by
      rw [show (bo.alloc (.cells #[.slice none 0 0, .bool false] 55)).heap.size = bo.heap.size + 1 from by show (bo.heap.push _).size = _; simp, hbs]
    have hW0 : WR (w.heap.size + 2) (bo.alloc (.cells #[.slice none 0 0, .bool false] 55)) (w.heap.size + 1) (.slice none 0 0) [] false := by
      refine ⟨⟨55, ?_⟩, World.ownsRow_nil _ _ _ _, by simp [Value.ownBlock]⟩
      show (bo.heap.push _)[w.heap.size + 1]? = _
      rw [← hbs]
      simp
    have hC := wmessage_any i c k r q x n (.slice ra rs.length rc) rs _ (hrs.below hB2) h32 hn hnd (hm.below hB2) hW0 (by omega) (by omega) (by rw [hws]; exact Nat.le_refl _) (by simp) (fun g cc e => ⟨fun e2 => by
      rcases hrs with ⟨e1, _⟩ | ⟨g1, c1, e1, hg, _⟩
      · rw [e] at e1; cases e1
      · rw [e] at e1
        have e3 : g = g1 := by injection e1 with a; injection a with a; injection a
        omega, by simp [Value.ownBlock]⟩)
    rw [Bool.false_or] at hC
    rw [← hbo] at hC hB2 hws
    have HC := Lib.hid hC
    have HBel : Hid (∀ W v', WStep (w.heap.size + 1) ((w.alloc (.cells #[.int .i64 i, .bool r, .bool q, .bool x, .int .i64 c, .string n, .int .i64 k, .slice ra rs.length rc] 26)).alloc (.cells #[.slice none 0 0, .bool false] 55)) W (.slice none 0 0) v' → Below w.heap.size w W) := Lib.hid (fun W v' h => ⟨h.os.trans hB2.os, h.tape.trans hB2.tape, h.output.trans hB2.output, Nat.le_trans hB2.size h.size, fun b hb => (h.same b (Nat.lt_of_lt_of_le hb hB2.size) (by omega) (by simp [Value.ownBlock])).trans (hB2.block b hb)⟩)
    have HBx : Hid (∀ W v', WStep (w.heap.size + 1) ((w.alloc (.cells #[.int .i64 i, .bool r, .bool q, .bool x, .int .i64 c, .string n, .int .i64 k, .slice ra rs.length rc] 26)).alloc (.cells #[.slice none 0 0, .bool false] 55)) W (.slice none 0 0) v' → ∀ j y, (#[.int .i64 i, .bool r, .bool q, .bool x, .int .i64 c, .string n, .int .i64 k, .slice ra rs.length rc] : Array Value)[j]? = some y → W.cell? ⟨w.heap.size, j, none⟩ = some y) := Lib.hid (fun W v' h j y hy => by
      have e := h.same w.heap.size (by rw [hws]; omega) (by omega) (by simp [Value.ownBlock])
      have e2 := World.cell?_alloc_new w #[.int .i64 i, .bool r, .bool q, .bool x, .int .i64 c, .string n, .int .i64 k, .slice ra rs.length rc] 26 j
      have e3 := (Below.refl (w.alloc (.cells #[.int .i64 i, .bool r, .bool q, .bool x, .int .i64 c, .string n, .int .i64 k, .slice ra rs.length rc] 26)).heap.size (w.alloc (.cells #[.int .i64 i, .bool r, .bool q, .bool x, .int .i64 c, .string n, .int .i64 k, .slice ra rs.length rc] 26))).alloc (Nat.le_refl _) (.cells #[.slice none 0 0, .bool false] 55)
      have e4 := e3.block w.heap.size (by show w.heap.size < (w.heap.push _).size; simp)
      rw [hy] at e2
      rw [← e2]
      unfold World.cell?
      rw [e, e4])
    obtain ⟨mb, hmb⟩ : ∃ M, msgB i c r q x n.data.toList k rs = M := ⟨_, rfl⟩
    unfold EncR
    rw [hmb] at HC HOK ⊢
    clear hbo hB2 hbs hws hW0 hC hrs hn hnd hm hmb
    have hl32 : (rs.length : Int) ≤ 32 := by omega
    cases hok : msgOK i c r q x n.data.toList k rs with
    | false =>
      rw [hok, Bool.not_false] at HC
      rw [hok, Bool.false_and] at HOK
      clear hok
      go_enter Tryd.func11, Tryd.ntmps11
      go_upto_region 5 with (go_at_call 21; refine HC.out.mono ?_; rintro e w2 ⟨rfl, v2, hw2, hs2⟩; have HW2 := Lib.hid (show WR (w.heap.size + 2) w2 (w.heap.size + 1) v2 mb _ from hw2); have HS2 := Lib.hid hs2; clear hw2 hs2)
      have k1 := HW2.out.c1
      go_wp2
      go_ret2
      exact ⟨HBel.out _ _ HS2.out, .inr ⟨HOK.out, rfl⟩⟩
    | true =>
      rw [hok, Bool.not_true] at HC
      rw [hok, Bool.true_and] at HOK
      clear hok
      by_cases hlen : mb.length ≤ 4096
      · rw [decide_eq_true hlen] at HOK
        have hli : ¬ (mb.length : Int) > 4096 := by omega
        go_enter Tryd.func11, Tryd.ntmps11
        go_upto_region 5 with (go_at_call 21; refine HC.out.mono ?_; rintro e w2 ⟨rfl, v2, hw2, hs2⟩; have HW2 := Lib.hid (show WR (w.heap.size + 2) w2 (w.heap.size + 1) v2 mb _ from hw2); have HS2 := Lib.hid hs2; clear hw2 hs2)
        obtain ⟨va, vc, hv⟩ := HW2.out.shape
        subst hv
        have k0 := HW2.out.c0
        have k1 := HW2.out.c1
        go_wp2
        go_ret2
        exact ⟨HBel.out _ _ HS2.out, .inl ⟨HOK.out, _, rfl, HW2.out.own⟩⟩
      · rw [decide_eq_false hlen] at HOK
        have hli : (4096 : Int) < (mb.length : Int) := by omega
        go_enter Tryd.func11, Tryd.ntmps11
        go_upto_region 5 with (go_at_call 21; refine HC.out.mono ?_; rintro e w2 ⟨rfl, v2, hw2, hs2⟩; have HW2 := Lib.hid (show WR (w.heap.size + 2) w2 (w.heap.size + 1) v2 mb _ from hw2); have HS2 := Lib.hid hs2; clear hw2 hs2)
        obtain ⟨va, vc, hv⟩ := HW2.out.shape
        subst hv
        have k0 := HW2.out.c0
        have k1 := HW2.out.c1
        go_wp2
        go_ret2
        exact ⟨HBel.out _ _ HS2.out, .inr ⟨HOK.out, rfl⟩⟩
  · have HOK : Hid (encOK i c r q x n.data.toList k rs = false) := Lib.hid (by unfold encOK; rw [decide_eq_false h32, Bool.false_and])
    clear hrs hn hnd hm
    go_enter Tryd.func11, Tryd.ntmps11
    go_wp2
    go_ret2
    exact ⟨HB1.out _, .inr ⟨HOK.out, rfl⟩⟩
end Go.Proofs.YtepfeekfglpjoaaDoor

namespace Go.Proofs.YtepfeekfglpjoaaDoor
open Go.RowKit Go.Lib Go.Wi Go.Tx
def bB0 : List UInt8 := [0, 7, 128, 0, 0, 1, 0, 1, 0, 0, 0, 0, 1, 97, 1, 98, 0, 0, 1, 0, 1, 1, 97, 1, 98, 0, 0, 1, 0, 1, 0, 0, 0, 9, 0, 4, 97, 98, 99, 100]
def bM0 : Msg := ⟨7, true, false, false, 0, [97, 46, 98], 1, [⟨[97, 46, 98], 1, 9, [97, 98, 99, 100]⟩]⟩
def bR0 : List WRec := [⟨⟨#[97, 46, 98]⟩, 1, 9, ⟨#[97, 98, 99, 100]⟩⟩]
theorem bEncOK : encOK 7 0 true false false [97, 46, 98] 1 bR0 = true := by decide +kernel
theorem bEnc : msgB 7 0 true false false [97, 46, 98] 1 bR0 = bB0 := by decide +kernel
theorem bDec : decW bB0 = some bM0 := by kernel_rfl
/-- Bytes of the call's own, as a slice of bytes. -/
theorem own_ba {B : Nat} {w : World} {v : Value} {l : List UInt8} (h : OwnB B w v l) (hl : 0 < l.length) : ∃ g c, v = .slice (some ⟨g, 0, none⟩) l.length c ∧ g < w.heap.size ∧ BA w (some ⟨g, 0, none⟩) l.length c l := by
  rcases h.2 with ⟨_, b⟩ | ⟨g, cap, cur, a, hb, hg, hn, hc, hs, ht⟩
  · omega
  · refine ⟨g, cap, a, (Array.getElem?_eq_some_iff.1 hg).1, rfl, hn, by unfold maxLen at hc; omega, (fun e => by cases e), fun x hx j b hj => ?_⟩
    cases hx
    have := World.ownsRow.cells h (g := g) (by rw [a]; rfl) j (u8V b) (by rw [List.getElem?_map, hj]; rfl)
    exact this
def bCell (g : Nat) : Array Value := #[.int .i64 7, .bool true, .bool false, .bool false, .int .i64 0, .string ⟨#[97, 46, 98]⟩, .int .i64 1, .slice (some ⟨g, 0, none⟩) 1 1]
set_option maxHeartbeats 4000000 in
set_option maxRecDepth 100000 in
theorem begun5_any (w : World) (hm : MaxAt w) : Calls Tryd.prog 8 #[] w fun e w' => e = .returned (.bool true) ∧ Below w.heap.size w w' := by
  obtain ⟨o1, ho1⟩ : ∃ o, Obj.cells #[.string ⟨#[97, 46, 98]⟩, .int .i64 1, .int .i64 9, .string ⟨#[97, 98, 99, 100]⟩] 48 = o := ⟨_, rfl⟩
  obtain ⟨W0, hW0⟩ : ∃ W, (w.alloc (.cells #[.string ⟨#[97, 46, 98]⟩, .int .i64 1, .int .i64 9, .string ⟨#[97, 98, 99, 100]⟩] 48)).alloc (.cells #[.int .i64 7, .bool true, .bool false, .bool false, .int .i64 0, .string ⟨#[97, 46, 98]⟩, .int .i64 1, .slice (some ⟨w.heap.size, 0, none⟩) 1 1] 26) = W := ⟨_, rfl⟩
  have hs1 : (w.alloc (.cells #[.string ⟨#[97, 46, 98]⟩, .int .i64 1, .int .i64 9, .string ⟨#[97, 98, 99, 100]⟩] 48)).heap.size = w.heap.size + 1 := by show (w.heap.push _).size = _; simp
  have hB0 : Below w.heap.size w W0 := by rw [← hW0]; exact ((Below.refl _ _).alloc (Nat.le_refl _) _).alloc (by rw [hs1]; omega) _
  have hg0 : W0.heap[w.heap.size]? = some (.cells #[.string ⟨#[97, 46, 98]⟩, .int .i64 1, .int .i64 9, .string ⟨#[97, 98, 99, 100]⟩] 48 (0, 0)) := by
    rw [← hW0]
    exact (((Below.refl _ _).alloc (Nat.le_refl _) _).block w.heap.size (by rw [hs1]; omega)).trans (heap_alloc_new w _)
  have hg1 : W0.heap[w.heap.size + 1]? = some (.cells #[.int .i64 7, .bool true, .bool false, .bool false, .int .i64 0, .string ⟨#[97, 46, 98]⟩, .int .i64 1, .slice (some ⟨w.heap.size, 0, none⟩) 1 1] 26 (0, 0)) := by
    rw [← hW0, ← hs1]
    exact heap_alloc_new _ _
  have hrec : RecC w.heap.size W0 (.slice (some ⟨w.heap.size, 0, none⟩) 1 1) bM0.recs := by
    refine ⟨rfl, .inr ⟨w.heap.size, 1, _, rfl, Nat.le_refl _, hg0, Nat.le_refl _, by decide, rfl, rfl⟩⟩
  have hrow : RowsAt W0 (.slice (some ⟨w.heap.size, 0, none⟩) 1 1) bR0 := by
    refine .inr ⟨w.heap.size, 1, rfl, (Array.getElem?_eq_some_iff.1 hg0).1, fun j r hj => ?_⟩
    match j, hj with
    | 0, hj =>
      cases hj
      simp [World.cell?, hg0]
    | j + 1, hj => cases hj
  have hE := wencode_any 7 0 1 true false false ⟨#[97, 46, 98]⟩ _ bR0 W0 hrow (by decide) (by decide) (hm.below hB0)
  have HE : Hid (Calls Tryd.prog 11 #[.agg #[.int .i64 7, .bool true, .bool false, .bool false, .int .i64 0, .string ⟨#[97, 46, 98]⟩, .int .i64 1, .slice (some ⟨w.heap.size, 0, none⟩) 1 1]] W0 (fun e w' => ∃ g c, e = .returned (.tuple #[.slice (some ⟨g, 0, none⟩) 40 c, .nilIface]) ∧ g < w'.heap.size ∧ BA w' (some ⟨g, 0, none⟩) 40 c bB0 ∧ Below W0.heap.size W0 w')) := Lib.hid (hE.mono (by
    rintro e w' ⟨hb, hx⟩
    rcases hx with ⟨_, v, he, ho⟩ | ⟨hf, _⟩
    · rw [show msgB 7 0 true false false (ByteArray.data ⟨#[97, 46, 98]⟩).toList 1 bR0 = bB0 from bEnc] at ho
      obtain ⟨g, c, rfl, hg, hba⟩ := own_ba ho (by decide)
      exact ⟨g, c, he, hg, hba, hb⟩
    · rw [show encOK 7 0 true false false (ByteArray.data ⟨#[97, 46, 98]⟩).toList 1 bR0 = true from bEncOK] at hf
      cases hf))
  have HM0 := Lib.hid (hm.below hB0)
  have HD : Hid (∀ W g c, BA W (some ⟨g, 0, none⟩) 40 c bB0 → g < W.heap.size → MaxAt W → Calls Tryd.prog 13 #[.slice (some ⟨g, 0, none⟩) 40 c] W (fun e w' => ∃ a cc, e = .returned (.tuple #[.agg #[.int .i64 7, .bool true, .bool false, .bool false, .int .i64 0, .string ⟨#[97, 46, 98]⟩, .int .i64 1, .slice a 1 cc], .nilIface]) ∧ RecC W.heap.size w' (.slice a 1 cc) bM0.recs ∧ Below W.heap.size W w')) := Lib.hid (fun W g c h1 h2 h3 => (decode_any _ _ _ _ W h1 (fun x hx => by cases hx; exact h2) h3).mono (by
    rintro e w' ⟨hb, hx⟩
    rw [bDec] at hx
    obtain ⟨v, he, hr⟩ := hx
    obtain ⟨a, cc, hv⟩ := own_shape hr
    rw [show bM0.recs.length = 1 from rfl] at hv
    subst hv
    exact ⟨a, cc, he, hr, hb⟩))
  have HQ : Hid (∀ W v, RecC w.heap.size W (.slice (some ⟨w.heap.size, 0, none⟩) 1 1) bM0.recs → ∀ B, RecC B W v bM0.recs → Calls Tryd.prog 14 #[.agg #[.int .i64 7, .bool true, .bool false, .bool false, .int .i64 0, .string ⟨#[97, 46, 98]⟩, .int .i64 1, .slice (some ⟨w.heap.size, 0, none⟩) 1 1], .agg #[.int .i64 7, .bool true, .bool false, .bool false, .int .i64 0, .string ⟨#[97, 46, 98]⟩, .int .i64 1, v]] W fun e w' => e = .returned (.bool true) ∧ Below W.heap.size W w') := Lib.hid (fun W v h1 B h2 => eq_any bM0 (.slice (some ⟨w.heap.size, 0, none⟩) 1 1) v w.heap.size B W h1 h2 (by decide))
  have HRec := Lib.hid hrec
  have HB0 := Lib.hid hB0
  have HG1 := Lib.hid hg1
  have HCl : Hid (∀ W, Below W0.heap.size W0 W → ∀ j y, (#[.int .i64 7, .bool true, .bool false, .bool false, .int .i64 0, .string ⟨#[97, 46, 98]⟩, .int .i64 1, .slice (some ⟨w.heap.size, 0, none⟩) 1 1] : Array Value)[j]? = some y → W.cell? ⟨w.heap.size + 1, j, none⟩ = some y) := Lib.hid (fun W h j y hy => by
    unfold World.cell?
    rw [h.block _ (Array.getElem?_eq_some_iff.1 hg1).1, hg1]
    simpa using hy)
  clear ho1 hs1 hB0 hg0 hg1 hrec hrow hE hm
  go_enter Tryd.func8, Tryd.ntmps8
  go_upto_region 2 with (fail)
  have e0 := HCl.out _ (Below.refl _ _) 0 _ rfl
  have e1 := HCl.out _ (Below.refl _ _) 1 _ rfl
  have e2 := HCl.out _ (Below.refl _ _) 2 _ rfl
  have e3 := HCl.out _ (Below.refl _ _) 3 _ rfl
  have e4 := HCl.out _ (Below.refl _ _) 4 _ rfl
  have e5 := HCl.out _ (Below.refl _ _) 5 _ rfl
  have e6 := HCl.out _ (Below.refl _ _) 6 _ rfl
  have e7 := HCl.out _ (Below.refl _ _) 7 _ rfl
  go_upto_region 3 with (go_at_call 11; refine HE.out.mono ?_; rintro e w2 ⟨g, c, rfl, hg2, hba2, hb2⟩; have HG2 := Lib.hid hg2; have HBA2 := Lib.hid hba2; have HB2 := Lib.hid hb2; clear hg2 hba2 hb2)
  clear e0 e1 e2 e3 e4 e5 e6 e7
  go_upto_region 4 with (go_at_call 13; refine (HD.out w2 g c HBA2.out HG2.out (HM0.out.below HB2.out)).mono ?_; rintro e w3 ⟨a3, c3, rfl, hr3, hb3⟩; have HR3 := Lib.hid hr3; have HB3 := Lib.hid (HB2.out.trans (hb3.mono HB2.out.size)); clear hr3 hb3)
  have HB4 : Hid (∀ o, Below W0.heap.size W0 (w3.alloc o)) := Lib.hid (fun o => HB3.out.alloc HB3.out.size o)
  have e0 := fun o => HCl.out _ (HB4.out o) 0 _ rfl
  have e1 := fun o => HCl.out _ (HB4.out o) 1 _ rfl
  have e2 := fun o => HCl.out _ (HB4.out o) 2 _ rfl
  have e3 := fun o => HCl.out _ (HB4.out o) 3 _ rfl
  have e4 := fun o => HCl.out _ (HB4.out o) 4 _ rfl
  have e5 := fun o => HCl.out _ (HB4.out o) 5 _ rfl
  have e6 := fun o => HCl.out _ (HB4.out o) 6 _ rfl
  have e7 := fun o => HCl.out _ (HB4.out o) 7 _ rfl
  go_wp2_with (go_at_call 14; refine (HQ.out _ _ (own_below HRec.out (HB4.out _)) _ (own_below HR3.out ((Below.refl w3.heap.size w3).alloc (Nat.le_refl _) _))).mono ?_; rintro e w5 ⟨rfl, hb5⟩; have HB5 := Lib.hid hb5; clear hb5)
  go_ret
  exact ⟨rfl, HB0.out.trans (((HB4.out _).trans (HB5.out.mono (HB4.out _).size)).mono HB0.out.size)⟩
end Go.Proofs.YtepfeekfglpjoaaDoor

namespace Go.Proofs.YtepfeekfglpjoaaDoor
open Go.RowKit Go.Lib Go.Wi Go.Tx
theorem as_code (v : Value) (xT : TypeId) (w : World) : (Instr.typeAssert (.iface 53 v) xT 53 true).run Tryd.prog w = .ok (.tuple #[v, .bool true]) w := by kernel_rfl
set_option maxRecDepth 100000 in
theorem is_yes (w : World) : Calls Tryd.prog 22 #[badV, .int .i64 8] w fun e w' => e = .returned (.bool true) ∧ w' = w := by
  go_enter Tryd.func22, Tryd.ntmps22
  go_wp2
  go_loopw [0, 5] (fun ev iv wr => ev = badV ∧ iv = .int .i64 0 ∧ wr = w) (fun _ iv _ => 0)
  case atStart => exact ⟨rfl, rfl, rfl⟩
  case round =>
    obtain ⟨rfl, rfl, rfl⟩ := hrel
    have has := fun v xT => as_code v xT wr
    go_wp2
    go_ret
    exact ⟨rfl, rfl⟩
theorem is_no (w : World) : Calls Tryd.prog 22 #[.nilIface, .int .i64 8] w fun e w' => e = .returned (.bool false) ∧ w' = w := by
  go_enter Tryd.func22, Tryd.ntmps22
  go_wp2
  go_loopw [0, 5] (fun ev iv wr => ev = .nilIface ∧ iv = .int .i64 0 ∧ wr = w) (fun _ iv _ => 0)
  case atStart => exact ⟨rfl, rfl, rfl⟩
  case round =>
    obtain ⟨rfl, rfl, rfl⟩ := hrel
    go_wp2
    go_ret
    exact ⟨rfl, rfl⟩
theorem bad_yes (w : World) : Calls Tryd.prog 12 #[badV] w fun e w' => e = .returned (.bool true) ∧ w' = w := by
  have H := Lib.hid (is_yes w)
  go_enter Tryd.func12, Tryd.ntmps12
  go_wp2_with (go_at_call 22; refine H.out.mono ?_; rintro e w2 ⟨rfl, rfl⟩)
  go_ret
  exact ⟨rfl, rfl⟩
theorem bad_no (w : World) : Calls Tryd.prog 12 #[.nilIface] w fun e w' => e = .returned (.bool false) ∧ w' = w := by
  have H := Lib.hid (is_no w)
  go_enter Tryd.func12, Tryd.ntmps12
  go_wp2_with (go_at_call 22; refine H.out.mono ?_; rintro e w2 ⟨rfl, rfl⟩)
  go_ret
  exact ⟨rfl, rfl⟩
end Go.Proofs.YtepfeekfglpjoaaDoor

namespace Go.Wi
open Go.Tx Go.Lib
theorem root_not (l : List UInt8) (h : isRoot l = true) : cleS l ≠ l := by
  intro e
  have h1 := congrArg List.length e
  have hl : 0 < l.length := by
    cases l with
    | nil => cases h
    | cons a t => simp
  unfold cleS at h1
  split at h1
  · rw [List.length_map] at h1
    unfold bare trimSuffix at h1
    unfold isRoot at h
    rw [if_pos h] at h1
    simp at h1
    omega
  · simp at h1
    omega
end Go.Wi
namespace Go.Proofs.YtepfeekfglpjoaaDoor
open Go.RowKit Go.Lib Go.Wi Go.Tx
set_option maxHeartbeats 2000000 in
set_option maxRecDepth 100000 in
theorem rclean7_any (s : ByteArray) (w : World) (hs : s.size ≤ 1000000) : Calls Tryd.prog 27 #[.string s] w fun e w' => e = .returned (.bool (okS s.data.toList)) ∧ Below w.heap.size w w' := by
  have HC := Lib.hid (rclean_any s w hs)
  rcases cleanV_cases s.data.toList with ⟨hnb, hcv⟩ | ⟨hnb, hcv⟩
  · rw [hcv] at HC
    have hcl : cleS s.data.toList = (bare s.data.toList).map low := if_pos hnb
    have hok : okS s.data.toList = decide (cleS s.data.toList = s.data.toList) := by unfold okS; rw [hnb, Bool.true_and]
    obtain ⟨D, hD⟩ : ∃ D : ByteArray, (⟨((bare s.data.toList).map low).toArray⟩ : ByteArray) = D := ⟨_, rfl⟩
    have hDl : D.data.toList = cleS s.data.toList := by rw [hcl, ← hD]
    cases hr : isRoot s.data.toList with
    | true =>
      have HX : Hid (okS s.data.toList = false) := Lib.hid (by rw [hok]; exact decide_eq_false (root_not _ hr))
      rw [hr, hD] at HC
      clear hok hcl hcv hnb hs hD hDl hr
      go_enter Tryd.func27, Tryd.ntmps27
      go_wp2_with (go_at_call 28; refine HC.out.mono ?_; rintro e w1 ⟨rfl, hb1⟩; have HB1 := Lib.hid hb1; clear hb1)
      go_ret
      exact ⟨by rw [HX.out]; rfl, HB1.out⟩
    | false =>
      rw [hr, hD] at HC
      by_cases heq : D = s
      · have HX : Hid (okS s.data.toList = true) := Lib.hid (by rw [hok, ← hDl, heq]; simp)
        subst heq
        clear hok hcl hcv hnb hs hD hDl hr
        go_enter Tryd.func27, Tryd.ntmps27
        go_wp2_with (go_at_call 28; refine HC.out.mono ?_; rintro e w1 ⟨rfl, hb1⟩; have HB1 := Lib.hid hb1; clear hb1)
        go_ret
        exact ⟨by rw [HX.out]; rfl, HB1.out⟩
      · have hne2 : (D.toList == s.toList) = false := beq_eq_false_iff_ne.2 (by rw [Go.Lib.toList_data, Go.Lib.toList_data]; exact fun e => heq (ByteArray.ext (Array.ext' e)))
        have HX : Hid (okS s.data.toList = false) := Lib.hid (by rw [hok, ← hDl]; exact decide_eq_false (fun e => heq (ByteArray.ext (Array.ext' e))))
        clear hok hcl hcv hnb hs hD hDl hr
        go_enter Tryd.func27, Tryd.ntmps27
        go_wp2_with (go_at_call 28; refine HC.out.mono ?_; rintro e w1 ⟨rfl, hb1⟩; have HB1 := Lib.hid hb1; clear hb1)
        go_ret
        exact ⟨by rw [HX.out]; rfl, HB1.out⟩
  · have HX : Hid (okS s.data.toList = false) := Lib.hid (by unfold okS; rw [hnb, Bool.false_and])
    rw [hcv] at HC
    clear hcv hnb hs
    go_enter Tryd.func27, Tryd.ntmps27
    go_wp2_with (go_at_call 28; refine HC.out.mono ?_; rintro e w1 ⟨rfl, hb1⟩; have HB1 := Lib.hid hb1; clear hb1)
    go_ret
    exact ⟨by rw [HX.out]; rfl, HB1.out⟩
set_option maxHeartbeats 2000000 in
set_option maxRecDepth 100000 in
theorem rtwo_any (n : Int) (w : World) (h0 : 0 ≤ n) (h1 : n ≤ 65535) : Calls Tryd.prog 19 #[.int .i64 n] w fun e w' => e = .returned (.slice (some ⟨w.heap.size, 0, none⟩) 2 2) ∧ w' = w.alloc (.cells #[.int .u8 (n / 256), .int .u8 (n % 256)] 5) := by
  have hq : Int.tdiv n 256 = n / 256 := by rw [Int.tdiv_eq_ediv_of_nonneg h0]
  have hr : Int.tmod n 256 = n % 256 := by rw [Int.tmod_eq_emod_of_nonneg h0]
  go_enter Tryd.func19, Tryd.ntmps19
  go_wp2
  go_ret
  exact ⟨rfl, rfl⟩
set_option maxHeartbeats 2000000 in
set_option maxRecDepth 100000 in
theorem rfine_any (n : ByteArray) (k t : Int) (d : ByteArray) (w : World) (hd : d.size ≤ 1000000) : Calls Tryd.prog 26 #[.agg #[.string n, .int .i64 k, .int .i64 t, .string d]] w fun e w' => e = .returned (.bool (datOK k d.data.toList)) ∧ Below w.heap.size w w' := by
  have HB1 : Hid (∀ o, Below w.heap.size w (w.alloc o)) := Lib.hid (fun o => (Below.refl _ _).alloc (Nat.le_refl _) o)
  have hl : d.data.toList.length = d.size := rfl
  by_cases h1 : k = 1
  · have HV : Hid (datOK k d.data.toList = decide (d.size = 4)) := Lib.hid (by subst h1; unfold datOK fitsB; rw [if_neg (by decide), if_pos rfl, hl])
    subst h1
    clear hl hd
    go_enter Tryd.func26, Tryd.ntmps26
    go_wp2
    go_ret
    exact ⟨by rw [HV.out]; by_cases h : d.size = 4 <;> simp [h] <;> omega, HB1.out _⟩
  by_cases h2 : k = 28
  · have HV : Hid (datOK k d.data.toList = decide (d.size = 16)) := Lib.hid (by subst h2; unfold datOK fitsB; rw [if_neg (by decide), if_neg (by decide), if_pos rfl, hl])
    subst h2
    clear hl h1 hd
    go_enter Tryd.func26, Tryd.ntmps26
    go_wp2
    go_ret
    exact ⟨by rw [HV.out]; by_cases h : d.size = 16 <;> simp [h] <;> omega, HB1.out _⟩
  by_cases h3 : k = 12
  · have HV : Hid (datOK k d.data.toList = okS d.data.toList) := Lib.hid (if_pos h3)
    have HC : Hid (∀ W, Calls Tryd.prog 27 #[.string d] W fun e w' => e = .returned (.bool (okS d.data.toList)) ∧ Below W.heap.size W w') := Lib.hid (fun W => rclean7_any d W hd)
    subst h3
    clear hl h1 h2 hd
    go_enter Tryd.func26, Tryd.ntmps26
    go_wp2_with (go_at_call 27; refine (HC.out _).mono ?_; rintro e w1 ⟨rfl, hb1⟩; have HB2 := Lib.hid hb1; clear hb1)
    go_ret
    exact ⟨by rw [HV.out]; rfl, (HB1.out _).trans (HB2.out.mono (HB1.out _).size)⟩
  · have HV : Hid (datOK k d.data.toList = decide (d.size ≤ 256)) := Lib.hid (by unfold datOK fitsB; rw [if_neg h3, if_neg h1, if_neg h2, hl])
    have e1 : (k == 1) = false := by rw [beq_eq_false_iff_ne]; exact h1
    have e2 : (k == 28) = false := by rw [beq_eq_false_iff_ne]; exact h2
    have e3 : (k == 12) = false := by rw [beq_eq_false_iff_ne]; exact h3
    clear hl h1 h2 h3 hd
    go_enter Tryd.func26, Tryd.ntmps26
    go_wp2
    go_ret
    exact ⟨by rw [HV.out]; by_cases h : d.size ≤ 256 <;> simp [h] <;> omega, HB1.out _⟩
end Go.Proofs.YtepfeekfglpjoaaDoor

namespace Go.Proofs.YtepfeekfglpjoaaDoor
open Go.RowKit Go.Lib Go.Wi Go.Tx
set_option maxHeartbeats 2000000 in
set_option maxRecDepth 100000 in
theorem rnencode_any (s : ByteArray) (w : World) (hs : s.size ≤ 1000000) :
    Calls Tryd.prog 20 #[.string s] w fun e w' => e = .returned (encV s.data.toList) ∧ Below w.heap.size w w' := by
  have HC := Lib.hid (rclean_any s w hs)
  rcases cleanV_cases s.data.toList with ⟨hnb, hcv⟩ | ⟨hnb, hcv⟩
  · have HX1 : Hid (encV s.data.toList = .tuple #[.string ⟨(encP ((bare s.data.toList).map low)).toArray⟩, .bool true]) := Lib.hid (if_pos hnb)
    rw [hcv] at HC
    have hlen : ((bare s.data.toList).map low).length ≤ 253 := by
      rw [List.length_map]
      unfold nameB at hnb
      simp only [Bool.and_eq_true, decide_eq_true_eq] at hnb
      exact hnb.1
    clear hcv hnb hs
    generalize (bare s.data.toList).map low = kk at *
    have HSp := Lib.hid (fun W => split_any ⟨kk.toArray⟩ 46 W (by show kk.toArray.size ≤ 1000000; simp; omega))
    have e1 : (ByteArray.data ⟨kk.toArray⟩).toList = kk := rfl
    rw [e1] at HSp
    have hpn := (splitG_len 46 kk []).2
    have hps := pieces_small kk
    obtain ⟨T, hT⟩ : ∃ T, splitL 46 kk = T := ⟨_, rfl⟩
    have hTl : T.length ≤ 254 := by rw [← hT]; unfold splitL; omega
    rw [hT] at HSp hps
    have HT := Lib.hid hT
    have HPs : Hid (∀ x ∈ T, x.length ≤ 253) := Lib.hid (fun x hx => Nat.le_trans (hps x hx) hlen)
    clear hT hps hpn e1
    obtain ⟨m, hmT⟩ : ∃ m, T.length = m := ⟨_, rfl⟩
    rw [hmT] at hTl
    have HmT := Lib.hid hmT
    unfold SplitR at HSp
    go_enter Tryd.func20, Tryd.ntmps20
    go_upto_region 5 with (first | (go_at_call 28; refine HC.out.mono ?_; rintro e w2 ⟨rfl, hb2⟩; have HB2 := Lib.hid hb2; clear hb2) | (go_at_call 29; refine (HSp.out _).mono ?_; rintro e w3 ⟨v3, rfl, ht3, hb3⟩; have HT3 := Lib.hid ht3; have HB3 := Lib.hid (HB2.out.trans (hb3.mono HB2.out.size)); clear ht3 hb3))
    obtain ⟨a3, c3, hv3⟩ := own_shape HT3.out
    rw [hmT] at hv3
    subst hv3
    clear hmT
    go_wp2
    go_loopw [8, 9] (fun ov iv wr => ∃ (k : Nat), k ≤ m ∧ iv = .int .i64 k ∧ ov = .string ⟨((T.take k).flatMap pieceB).toArray⟩ ∧ Below w3.heap.size w3 wr) (fun _ iv _ => m - (intOf iv).toNat)
    case atStart => exact ⟨0, Nat.zero_le _, rfl, rfl, Below.refl _ _⟩
    case round =>
      obtain ⟨k, hk, rfl, rfl, hbr⟩ := hrel
      have hfl : ((T.take k).flatMap pieceB).length ≤ 70000 := by
        have h1 := flat_len (T.take k) 253 (fun x hx => HPs.out x (List.mem_of_mem_take hx))
        have h2 := List.length_take_le k T
        have h3 := HmT.out
        have h4 : (T.take k).length * 254 ≤ 254 * 254 := Nat.mul_le_mul_right _ (by omega)
        omega
      obtain ⟨pb, hpb⟩ : ∃ q : ByteArray, (⟨((T.take k).flatMap pieceB).toArray⟩ : ByteArray) = q := ⟨_, rfl⟩
      have HPb : Hid (pb.data.toList = (T.take k).flatMap pieceB) := Lib.hid (by rw [← hpb])
      have hps : pb.size ≤ 70000 := by rw [← hpb]; show ((T.take k).flatMap pieceB).toArray.size ≤ _; simpa using hfl
      rw [hpb]
      clear hpb hfl
      by_cases hlt : k < m
      · obtain ⟨x, hx⟩ : ∃ x, T[k]? = some x := ⟨_, List.getElem?_eq_getElem (by rw [HmT.out]; exact hlt)⟩
        have hxl := HPs.out x (List.mem_of_getElem? hx)
        have HTk := Lib.hid (flat_take hx)
        obtain ⟨g, cap, hv, hg1, hg2⟩ := World.ownsRow.form HT3.out (by rw [HmT.out]; omega)
        have ha : a3 = some ⟨g, 0, none⟩ := by injection hv
        subst ha
        have hcell : wr.cell? ⟨g, k, none⟩ = some (.string ⟨x.toArray⟩) := by
          have hk1 := World.ownsRow.cells HT3.out (g := g) rfl k (.string ⟨x.toArray⟩) (by rw [List.getElem?_map, hx]; rfl)
          have := hbr.cell (p := ⟨g, k, none⟩) hg2
          rw [this]
          have ha2 : (⟨g, 0, none⟩ : Addr).add k = ⟨g, k, none⟩ := by unfold Addr.add; split <;> simp_all
          rw [← ha2]
          exact hk1
        have hcd : wr.drew.cell? ⟨g, k, none⟩ = some (.string ⟨x.toArray⟩) := hcell
        have hki : (0 : Int) ≤ (k : Int) := by omega
        have hkn : (k : Int) < (m : Int) := by omega
        have hcv : cellOf wr.drew ⟨g, k, none⟩ = .string ⟨x.toArray⟩ := by unfold cellOf; rw [hcd]; rfl
        have hW : ∀ o, (wr.alloc o).drew.cell? ⟨g, k, none⟩ = some (.string ⟨x.toArray⟩) := fun o => by
          have := ((Below.refl wr.heap.size wr).alloc (Nat.le_refl _) o).cell (p := ⟨g, k, none⟩) (by have := hbr.size; show g < wr.heap.size; omega)
          exact this.trans hcell
        obtain ⟨W, hWe⟩ : ∃ W, (wr.alloc (.cells #[.int .u8 (x.length : Int)] 5)).drew = W := ⟨_, rfl⟩
        have hconv : (convert 29 9 (.slice (some ⟨wr.heap.size, 0, none⟩) 1 1)).run Tryd.prog (wr.alloc (.cells #[.int .u8 (x.length : Int)] 5)).drew = .ok (.string ⟨#[UInt8.ofNat x.length]⟩) (wr.alloc (.cells #[.int .u8 (x.length : Int)] 5)).drew := by
          refine run_convert_bytes_back _ 29 9 5 ⟨wr.heap.size, 0, none⟩ 1 [UInt8.ofNat x.length] Tryd.underlying29 Tryd.underlying5 Tryd.underlying9 fun j hj => ?_
          have h0 : j = 0 := by simpa using hj
          subst h0
          have e := World.cell?_alloc_new wr #[.int .u8 (x.length : Int)] 5 0
          show (wr.alloc _).cell? ⟨wr.heap.size, 0, none⟩ = _
          rw [e]
          show some (Value.int .u8 (x.length : Int)) = some (.int .u8 ((UInt8.ofNat x.length).toNat : Int))
          rw [UInt8.toNat_ofNat_of_lt' (by show x.length < 256; omega)]
        have hB : Below w3.heap.size w3 (wr.alloc (.cells #[.int .u8 (x.length : Int)] 5)).drew := (hbr.alloc hbr.size _).drew
        have HBn := Lib.hid hB
        clear hWe W hB hbr hx hcell
        go_wp2
        go_region
        go_wp2
        go_roundw
        case rel =>
          refine ⟨k + 1, hlt, by go_num, ?_, HBn.out⟩
          rw [HTk.out, ← HPb.out]
          congr 1
          apply ByteArray.ext
          apply Array.ext'
          simp
        case measure => simp [intOf]; omega
      · obtain rfl : k = m := by omega
        have HPe : Hid ((T.take k).flatMap pieceB = (splitL 46 kk).flatMap pieceB) := Lib.hid (by rw [HT.out, List.take_of_length_le (by rw [HmT.out]; exact Nat.le_refl _)])
        have HBr := Lib.hid hbr
        clear hbr
        go_wp2
        go_ret2
        have hfin : (pb ++ ⟨#[0]⟩ : ByteArray) = ⟨(encP kk).toArray⟩ := by
          apply ByteArray.ext
          apply Array.ext'
          unfold encP
          rw [← HPe.out, ← HPb.out]
          simp
        refine ⟨by rw [HX1.out, ← hfin]; rfl, HB3.out.trans (HBr.out.mono HB3.out.size)⟩
  · have HX : Hid (encV s.data.toList = .tuple #[.string ⟨#[]⟩, .bool false]) := Lib.hid (if_neg (by rw [hnb]; decide))
    rw [hcv] at HC
    clear hcv hnb hs
    go_enter Tryd.func20, Tryd.ntmps20
    go_wp2_with (go_at_call 28; refine HC.out.mono ?_; rintro e w2 ⟨rfl, hb⟩)
    go_ret2
    exact ⟨by rw [HX.out]; rfl, hb⟩
end Go.Proofs.YtepfeekfglpjoaaDoor

