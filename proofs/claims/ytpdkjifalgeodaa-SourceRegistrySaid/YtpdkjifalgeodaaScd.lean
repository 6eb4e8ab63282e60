/- A source's description that came in as an argument. -/
import Derived.Test.YtpdkjifalgeodaaScb
import Derived.Test.YtpdkjifalgeodaaSl
import Derived.WideShapes
import Derived.ChangeArms
import Derived.Deep.Slices
import Derived.Deep.SlicePairs
import Derived.OpenShut
import Derived.Carry
namespace Go.Proofs.Ytpdkjifalgeodaa
open Go.RowKit Go.Extern.Stop Go.Stop Go.Extern Go.Lib Go.Tx Go.WideShapes
theorem list_ofD {α : Type} {p : Nat → α → Prop} : ∀ n : Nat, (∀ j, j < n → ∃ r, p j r) → ∃ l : List α, l.length = n ∧ ∀ j r, l[j]? = some r → p j r
  | 0, _ => ⟨[], rfl, fun j r h => by simp at h⟩
  | n + 1, h => by
    obtain ⟨l, hl, hp⟩ := list_ofD n (fun j hj => h j (by omega))
    obtain ⟨r, hr⟩ := h n (by omega)
    refine ⟨l ++ [r], by simp [hl], fun j q hq => ?_⟩
    by_cases hj : j < n
    · rw [List.getElem?_append_left (by omega)] at hq
      exact hp j q hq
    · by_cases hj2 : j = n
      · subst hj2
        rw [List.getElem?_append_right (by omega), hl] at hq
        simp at hq
        rw [← hq]
        exact hr
      · rw [List.getElem?_eq_none (by simp; omega)] at hq
        cases hq
theorem some_ofD {α : Type} {xs : List α} {i n : Nat} (h : xs.length = n) (hi : i < n) : ∃ y, xs[i]? = some y := ⟨_, List.getElem?_eq_getElem (by omega)⟩
theorem fldD {H : Type} {enc : TypeId × Value → H} {P : Program} {w : World} {b : Nat} {sp : Nat → Bool} {hd : Bool} {m : Nat} {t : TypeId} {l seg : List Value} {o k : Nat} {z : Option (DataW H × List MemPlace)} {y : DataW H × List MemPlace}
    (h : DataW.trod enc P w b sp hd m t (List.take (P.cellsOf t) (List.drop o l)) = z) (hc : P.cellsOf t = k) (hs : (l.drop o).take k = seg) (hz : z = some y) : DataW.trod enc P w b sp hd m t seg = some y := by
  rw [hc, hs] at h
  exact h.trans hz
theorem list18 {α : Type} : ∀ l : List α, l.length = 18 → ∃ c0 c1 c2 c3 c4 c5 c6 c7 c8 c9 c10 c11 c12 c13 c14 c15 c16 c17, l = [c0, c1, c2, c3, c4, c5, c6, c7, c8, c9, c10, c11, c12, c13, c14, c15, c16, c17]
  | [c0, c1, c2, c3, c4, c5, c6, c7, c8, c9, c10, c11, c12, c13, c14, c15, c16, c17], _ => ⟨c0, c1, c2, c3, c4, c5, c6, c7, c8, c9, c10, c11, c12, c13, c14, c15, c16, c17, rfl⟩
theorem cell_lt {w : World} {x : Addr} {v : Value} (h : w.cell? x = some v) : x.block < w.heap.size := by
  unfold World.cell? at h
  exact Classical.byContradiction fun hno => by
    rw [Array.getElem?_eq_none (by omega)] at h
    cases h
theorem cell_spot {w : World} {x : Addr} {v : Value} (h : w.cell? x = some v) : x.spot = none := by
  unfold World.cell? at h
  split at h
  · split at h
    · cases h
    · rename_i hs
      simpa using hs
  · cases h
theorem txs_of {H : Type} {enc : TypeId × Value → H} {w : World} {m : Nat} {seg : List Value} {y : DataW H × List MemPlace} (h : DataW.trod enc Try.prog w 0 (fun _ => true) true m 23 seg = some y) :
    ∃ a n c ws, seg = [.slice a n c] ∧ TxAt w a ws ∧ ws.length = n ∧ n ≤ maxLen ∧ ∀ x ∈ ws, x.length ≤ maxLen := by
  have cS : Try.prog.cellsOf 9 = 1 := by kernel_rfl
  rcases Go.Deep.open_slice Try.underlying23 h with ⟨rfl, _⟩ | ⟨x, len, cap, z, m', D, Pl, rfl, _, hlc, hcm, hz, _, hel⟩
  · exact ⟨none, 0, 0, [], rfl, fun j l h => by simp at h, rfl, Nat.zero_le _, fun x h => by cases h⟩
  · simp only [if_true] at hz
    obtain ⟨ws, hl, hw⟩ := list_ofD (p := fun j (l : List UInt8) => x.block < w.heap.size ∧ l.length ≤ maxLen ∧ w.cell? (x.add j) = some (.string ⟨l.toArray⟩)) len (fun j hj => by
      obtain ⟨cs', h1, h2⟩ := hel j (by omega)
      rw [cS, Nat.mul_one] at h1
      obtain ⟨_, _, hcell⟩ := World.cells?_some h1
      obtain ⟨s, rfl, _, hsz⟩ := DataW.trod_string Try.underlying9 h2
      have q0 : w.cell? (x.add j) = some (.string s) := hcell 0 (by omega)
      have hb := cell_lt q0
      rw [add_block] at hb
      exact ⟨s.data.toList, hb, by rw [Array.length_toList]; exact hsz, q0⟩)
    refine ⟨some x, len, cap, ws, rfl, fun j l hj => ⟨x, rfl, (hw j l hj).1, (hw j l hj).2.2⟩, hl, Nat.le_trans hlc hcm, fun l hl => ?_⟩
    obtain ⟨j, hj⟩ := List.mem_iff_getElem?.1 hl
    exact (hw j l hj).2.1
theorem deps_of {H : Type} {enc : TypeId × Value → H} {w : World} {m : Nat} {seg : List Value} {y : DataW H × List MemPlace} (h : DataW.trod enc Try.prog w 0 (fun _ => true) true m 26 seg = some y) :
    ∃ a n c ds, seg = [.slice a n c] ∧ DepS w a n c ds := by
  have cS : Try.prog.cellsOf 9 = 1 := by kernel_rfl
  have cL : Try.prog.cellsOf 2 = 1 := by kernel_rfl
  have cD : Try.prog.cellsOf 95 = 2 := by kernel_rfl
  rcases Go.Deep.open_slice_pairs Try.underlying26 Try.underlying95 cD rfl rfl cS cL h with ⟨rfl, _⟩ | ⟨x, len, cap, z, m', V0, V1, D0, D1, P0, P1, rfl, _, hlc, hcm, hz, _, hel⟩
  · exact ⟨none, 0, 0, [], rfl, rfl, Nat.le_refl _, Nat.zero_le _, fun _ => rfl, fun h => absurd h (by omega)⟩
  · simp only [if_true] at hz
    obtain ⟨ds, hl, hw⟩ := list_ofD (p := fun j (r : ByteArray × Int) => w.cell? (x.add (j * 2)) = some (.string r.1) ∧ w.cell? (x.add (j * 2 + 1)) = some (.int .i64 r.2)) len (fun j hj => by
      obtain ⟨h1, h2, h3, h4⟩ := hel j (by omega)
      obtain ⟨s, hs, _, _⟩ := DataW.trod_string Try.underlying9 h3
      obtain ⟨i, hi, _, _⟩ := DataW.trod_int Try.underlying2 h4
      cases hs' : V0 j <;> rw [hs'] at hs <;> cases hs
      cases hi' : V1 j <;> rw [hi'] at hi <;> cases hi
      exact ⟨⟨_, _⟩, by rw [h1, hs'], by rw [h2, hi']⟩)
    refine ⟨some x, len, cap, ds, rfl, hl, hlc, hcm, (fun h => by cases h), fun hn => ?_⟩
    obtain ⟨r0, hr0⟩ := some_ofD hl hn
    have q0 : w.cell? x = some (.string r0.1) := (hw 0 r0 hr0).1
    have hsp := cell_spot q0
    refine ⟨x.block, x.off, by cases x; simp at hsp; rw [hsp], cell_lt q0, fun j u hj => ?_⟩
    have hx : x.add j = ⟨x.block, x.off + j, none⟩ := by
      cases x
      simp at hsp
      unfold Addr.add
      split
      · simp_all
      · rfl
    rw [← hx]
    have hjl := (List.getElem?_eq_some_iff.1 hj).1
    rw [depC_len] at hjl
    obtain ⟨r, hr⟩ := some_ofD (i := j / 2) (n := ds.length) (xs := ds) rfl (by omega)
    have hwr := hw _ r hr
    rcases Nat.mod_two_eq_zero_or_one j with e | e
    · have e2 : j / 2 * 2 = j := by omega
      have := depC_at0 ds _ r hr
      rw [e2] at this hwr
      rw [this] at hj
      cases hj
      exact hwr.1
    · have e2 : j / 2 * 2 + 1 = j := by omega
      have := depC_at1 ds _ r hr
      rw [e2] at this hwr
      rw [this] at hj
      cases hj
      exact hwr.2
set_option maxHeartbeats 1000000 in
set_option maxRecDepth 100000 in
theorem defIn_of {H : Type} {enc : TypeId × Value → H} {w : World} {m : Nat} {l : List Value} {y : DataW H × List MemPlace} (h : DataW.trod enc Try.prog w 0 (fun _ => true) true m 28 l = some y) :
    ∃ d ns as_ ds, l = (defC d).toList ∧ DefIn w d ns as_ ds := by
  have cI : Try.prog.cellsOf 3 = 1 := by kernel_rfl
  have cL : Try.prog.cellsOf 2 = 1 := by kernel_rfl
  have cB : Try.prog.cellsOf 4 = 1 := by kernel_rfl
  have cS : Try.prog.cellsOf 9 = 1 := by kernel_rfl
  have cK : Try.prog.cellsOf 22 = 5 := by kernel_rfl
  have cA : Try.prog.cellsOf 25 = 4 := by kernel_rfl
  have cT : Try.prog.cellsOf 23 = 1 := by kernel_rfl
  have cP : Try.prog.cellsOf 26 = 1 := by kernel_rfl
  have cM : Try.prog.cellsOf 28 = 18 := by kernel_rfl
  obtain ⟨xs, m1, _, _, hl, hx, hg⟩ := DataW.trod_struct Try.underlying28 h
  rw [cM] at hl
  obtain ⟨c0, c1, c2, c3, c4, c5, c6, c7, c8, c9, c10, c11, c12, c13, c14, c15, c16, c17, rfl⟩ := list18 l hl
  obtain ⟨y0, hy0⟩ := some_ofD hx (i := 0) (by decide)
  obtain ⟨y1, hy1⟩ := some_ofD hx (i := 1) (by decide)
  obtain ⟨y2, hy2⟩ := some_ofD hx (i := 2) (by decide)
  obtain ⟨y3, hy3⟩ := some_ofD hx (i := 3) (by decide)
  obtain ⟨y4, hy4⟩ := some_ofD hx (i := 4) (by decide)
  obtain ⟨y5, hy5⟩ := some_ofD hx (i := 5) (by decide)
  obtain ⟨y6, hy6⟩ := some_ofD hx (i := 6) (by decide)
  obtain ⟨y7, hy7⟩ := some_ofD hx (i := 7) (by decide)
  obtain ⟨y8, hy8⟩ := some_ofD hx (i := 8) (by decide)
  obtain ⟨y9, hy9⟩ := some_ofD hx (i := 9) (by decide)
  obtain ⟨y10, hy10⟩ := some_ofD hx (i := 10) (by decide)
  obtain ⟨v0, hv0, _, hsz⟩ := DataW.trod_string Try.underlying9 (fldD (t := 9) (seg := [c0]) (hg 0 _ rfl) cS rfl hy0)
  obtain ⟨v1, hv1, _⟩ := DataW.trod_bool Try.underlying4 (fldD (t := 4) (seg := [c1]) (hg 1 _ rfl) cB rfl hy1)
  obtain ⟨xk, mk, _, _, _, hxk, hgk⟩ := DataW.trod_array Try.underlying22 (fldD (t := 22) (seg := [c2, c3, c4, c5, c6]) (hg 2 _ rfl) cK rfl hy2)
  obtain ⟨z0, hz0⟩ := some_ofD hxk (i := 0) (by decide)
  obtain ⟨v2, hv2, _⟩ := DataW.trod_bool Try.underlying4 (fldD (t := 4) (o := 0 * Try.prog.cellsOf 4) (seg := [c2]) (hgk 0 (by decide)) cB (by rw [cB]; rfl) hz0)
  obtain ⟨z1, hz1⟩ := some_ofD hxk (i := 1) (by decide)
  obtain ⟨v3, hv3, _⟩ := DataW.trod_bool Try.underlying4 (fldD (t := 4) (o := 1 * Try.prog.cellsOf 4) (seg := [c3]) (hgk 1 (by decide)) cB (by rw [cB]; rfl) hz1)
  obtain ⟨z2, hz2⟩ := some_ofD hxk (i := 2) (by decide)
  obtain ⟨v4, hv4, _⟩ := DataW.trod_bool Try.underlying4 (fldD (t := 4) (o := 2 * Try.prog.cellsOf 4) (seg := [c4]) (hgk 2 (by decide)) cB (by rw [cB]; rfl) hz2)
  obtain ⟨z3, hz3⟩ := some_ofD hxk (i := 3) (by decide)
  obtain ⟨v5, hv5, _⟩ := DataW.trod_bool Try.underlying4 (fldD (t := 4) (o := 3 * Try.prog.cellsOf 4) (seg := [c5]) (hgk 3 (by decide)) cB (by rw [cB]; rfl) hz3)
  obtain ⟨z4, hz4⟩ := some_ofD hxk (i := 4) (by decide)
  obtain ⟨v6, hv6, _⟩ := DataW.trod_bool Try.underlying4 (fldD (t := 4) (o := 4 * Try.prog.cellsOf 4) (seg := [c6]) (hgk 4 (by decide)) cB (by rw [cB]; rfl) hz4)
  obtain ⟨v7, hv7, _, _⟩ := DataW.trod_int Try.underlying3 (fldD (t := 3) (seg := [c7]) (hg 3 _ rfl) cI rfl hy3)
  obtain ⟨v8, hv8, _, _⟩ := DataW.trod_int Try.underlying3 (fldD (t := 3) (seg := [c8]) (hg 4 _ rfl) cI rfl hy4)
  obtain ⟨v9, hv9, _⟩ := DataW.trod_bool Try.underlying4 (fldD (t := 4) (seg := [c9]) (hg 5 _ rfl) cB rfl hy5)
  obtain ⟨v10, hv10, _, _⟩ := DataW.trod_int Try.underlying3 (fldD (t := 3) (seg := [c10]) (hg 6 _ rfl) cI rfl hy6)
  obtain ⟨v11, hv11, _⟩ := DataW.trod_bool Try.underlying4 (fldD (t := 4) (seg := [c11]) (hg 7 _ rfl) cB rfl hy7)
  obtain ⟨xa, ma, _, _, _, hxa, hga⟩ := DataW.trod_struct Try.underlying25 (fldD (t := 25) (seg := [c12, c13, c14, c15]) (hg 8 _ rfl) cA rfl hy8)
  obtain ⟨u0, hu0⟩ := some_ofD hxa (i := 0) (by decide)
  obtain ⟨a0, n0, k0, ws0, hv12, ht0, hn0, hm0, hw0⟩ := txs_of (fldD (t := 23) (seg := [c12]) (hga 0 _ rfl) cT rfl hu0)
  obtain ⟨u1, hu1⟩ := some_ofD hxa (i := 1) (by decide)
  obtain ⟨a1, n1, k1, ws1, hv13, ht1, hn1, hm1, hw1⟩ := txs_of (fldD (t := 23) (seg := [c13]) (hga 1 _ rfl) cT rfl hu1)
  obtain ⟨u2, hu2⟩ := some_ofD hxa (i := 2) (by decide)
  obtain ⟨v14, hv14, _, _⟩ := DataW.trod_int Try.underlying3 (fldD (t := 3) (seg := [c14]) (hga 2 _ rfl) cI rfl hu2)
  obtain ⟨u3, hu3⟩ := some_ofD hxa (i := 3) (by decide)
  obtain ⟨v15, hv15, _, _⟩ := DataW.trod_int Try.underlying2 (fldD (t := 2) (seg := [c15]) (hga 3 _ rfl) cL rfl hu3)
  obtain ⟨a2, n2, k2, ds, hv16, hd⟩ := deps_of (fldD (t := 26) (seg := [c16]) (hg 9 _ rfl) cP rfl hy9)
  obtain ⟨v17, hv17, _⟩ := DataW.trod_bool Try.underlying4 (fldD (t := 4) (seg := [c17]) (hg 10 _ rfl) cB rfl hy10)
  cases hv0; cases hv1; cases hv2; cases hv3; cases hv4; cases hv5; cases hv6; cases hv7; cases hv8; cases hv9; cases hv10; cases hv11; cases hv12; cases hv13; cases hv14; cases hv15; cases hv16; cases hv17
  exact ⟨⟨v0, v1, v2, v3, v4, v5, v6, v7, v8, v9, v10, v11, a0, n0, k0, a1, n1, k1, v14, v15, a2, n2, k2, v17⟩, ws0, ws1, ds, rfl, hsz, ht0, ht1, hn0, hn1, hm0, hm1, hw0, hw1, hd⟩
/-- A description as an argument. -/
theorem isDef_of {H : Type} {enc : TypeId × Value → H} {w : World} {v : Value} {d : DataW H} {ps : List MemPlace} (hv : ∃ cs, v = .agg cs ∧ cs.size = Try.prog.cellsOf 28)
    (h : DataW.Trod enc Try.prog w 0 (fun _ => true) true 28 v d ps) : ∃ D ns as_ ds, v = defV D ∧ DefIn w D ns as_ ds := by
  obtain ⟨cs, rfl, _⟩ := hv
  obtain ⟨fuel, hf⟩ := h
  obtain ⟨D, ns, as_, ds, hl, hd⟩ := defIn_of hf
  refine ⟨D, ns, as_, ds, ?_, hd⟩
  have hl' : cs.toList = (defC D).toList := hl
  show Value.agg cs = .agg (defC D)
  rw [Array.toList_inj.1 hl']
/-- A description with what its slices hold. -/
structure DefX where
  d : DefL
  ns : List (List UInt8)
  as_ : List (List UInt8)
  ds : List (ByteArray × Int)
/-- Descriptions that came in. -/
def InDefs (w : World) (a : Option Addr) (n c : Nat) (L : List DefX) : Prop := L.length = n ∧ n ≤ c ∧ c ≤ maxLen ∧ ∀ j r, L[j]? = some r → ∃ b off, a = some ⟨b, off, none⟩ ∧ b < w.heap.size ∧ (∀ (k : Nat) u, (defC r.d).toList[k]? = some u → w.cell? ⟨b, off + j * 18 + k, none⟩ = some u) ∧ DefIn w r.d r.ns r.as_ r.ds
theorem InDefs.below {w w' : World} {a : Option Addr} {n c : Nat} {L : List DefX} (h : InDefs w a n c L) (hb : Below w.heap.size w w') : InDefs w' a n c L := by
  obtain ⟨h1, h2, h3, h4⟩ := h
  refine ⟨h1, h2, h3, fun j r hj => ?_⟩
  obtain ⟨b, off, e, hl, hc, hd⟩ := h4 j r hj
  refine ⟨b, off, e, Nat.lt_of_lt_of_le hl hb.size, fun k u hk => ?_, hd.below hb⟩
  rw [hb.cell (p := ⟨b, off + j * 18 + k, none⟩) hl]
  exact hc k u hk
theorem isDefs_of {H : Type} {enc : TypeId × Value → H} {w : World} {a : Option Addr} {n c : Nat} {d : DataW H} {ps : List MemPlace}
    (h : DataW.Trod enc Try.prog w 0 (fun _ => true) true 54 (.slice a n c) d ps) : ∃ L, InDefs w a n c L := by
  obtain ⟨fuel, hf⟩ := h
  have cM : Try.prog.cellsOf 28 = 18 := by kernel_rfl
  rcases Go.Deep.open_slice Try.underlying54 hf with ⟨h7, _⟩ | ⟨x, len, cap, z, m, D, Pl, h7, _, hlc, hcm, hz, _, hel⟩
  · cases h7
    exact ⟨[], rfl, Nat.le_refl _, Nat.zero_le _, fun j r h => by simp at h⟩
  · cases h7
    simp only [if_true] at hz
    obtain ⟨L, hL, hw⟩ := list_ofD (p := fun j (r : DefX) => (∀ (k : Nat) u, (defC r.d).toList[k]? = some u → w.cell? ((x.add (j * 18)).add k) = some u) ∧ DefIn w r.d r.ns r.as_ r.ds) n (fun j hj => by
      obtain ⟨cs', h1, h2⟩ := hel j (by omega)
      rw [cM] at h1
      obtain ⟨_, _, hcell⟩ := World.cells?_some h1
      obtain ⟨D, ns, as_, ds, rfl, hd⟩ := defIn_of h2
      refine ⟨⟨D, ns, as_, ds⟩, fun k u hk => ?_, hd⟩
      rw [hcell k (List.getElem?_eq_some_iff.1 hk).1]
      exact hk)
    refine ⟨L, hL, hlc, hcm, fun j r hj => ?_⟩
    have hnj : j < n := by rw [← hL]; exact (List.getElem?_eq_some_iff.1 hj).1
    obtain ⟨r0, hr0⟩ := some_ofD hL (i := 0) (by omega)
    have q0 : w.cell? x = some (.string r0.d.label) := (hw 0 r0 hr0).1 0 _ rfl
    have hsp := cell_spot q0
    refine ⟨x.block, x.off, by cases x; simp at hsp; rw [hsp], cell_lt q0, fun k u hk => ?_, (hw j r hj).2⟩
    have hx : (x.add (j * 18)).add k = ⟨x.block, x.off + j * 18 + k, none⟩ := by
      rw [Go.Deep.add_add]
      cases x
      simp at hsp
      unfold Addr.add
      split
      · simp_all
      · simp [Nat.add_assoc]
    rw [← hx]
    exact (hw j r hj).1 k u hk
/-- Bytes that came in as an argument. -/
theorem bytS_of {w : World} {a : Option Addr} {n c : Nat} (h : ∃ zs, Go.Sl.IsInts .u8 w a n c zs) : ∃ xs, BytS w a n c xs := by
  obtain ⟨zs, ⟨rfl, rfl, rfl, rfl⟩ | ⟨x, rfl, h1, h2, h3, h4, _⟩⟩ := h
  · exact ⟨[], rfl, Nat.le_refl _, Nat.zero_le _, fun h => absurd h (by omega)⟩
  · refine ⟨zs.take n, by rw [List.length_take]; omega, h1, h2, fun _ => ⟨x, rfl, fun j z hj => ?_⟩⟩
    rw [List.getElem?_take] at hj
    split at hj
    · have hl := (List.getElem?_eq_some_iff.1 hj).1
      rw [h4 j hl, List.getD_eq_getElem?_getD, hj]
      rfl
    · cases hj
end Go.Proofs.Ytpdkjifalgeodaa
