/- Contract of the document's rows of a service table. -/
import Derived.Test.YtmnahgeledddhaaVn
import Derived.Deep.RegionHeld3
import Derived.Deep.RegionLaw
import Derived.Deep.AppendLies
import Derived.Deep.CutRange
import Derived.Deep.RegionWith
namespace Go.Proofs.Ytmnahgeledddhaa
open Go.RowKit Go.Lib Go.Tx
theorem info_str : (Try.prog.info? 9).map (fun i => (i.zero, i.size, i.bytes)) = some (some (.string ⟨#[]⟩), 1, 16) := by kernel_rfl
theorem info_svc : (Try.prog.info? 40).map (fun i => (i.zero, i.size, i.bytes)) = some (some (.agg #[.slice none 0 0, .int .i64 0, .string ⟨#[]⟩]), 3, 48) := by kernel_rfl
theorem new_cells3 (w : World) (x y z : Value) (e : TypeId) : ∀ j u, [x, y, z][j]? = some u → (w.alloc (.cells #[x, y, z] e)).cell? ((⟨w.heap.size, 0, none⟩ : Addr).add j) = some u := by
  intro j u hj
  have ha : (⟨w.heap.size, 0, none⟩ : Addr).add j = ⟨w.heap.size, j, none⟩ := by unfold Addr.add; split <;> simp_all
  rw [ha, World.cell?_alloc_new]
  simpa using hj
theorem new_cells1 (w : World) (x : Value) (e : TypeId) : ∀ j u, [x][j]? = some u → (w.alloc (.cells #[x] e)).cell? ((⟨w.heap.size, 0, none⟩ : Addr).add j) = some u := by
  intro j u hj
  have ha : (⟨w.heap.size, 0, none⟩ : Addr).add j = ⟨w.heap.size, j, none⟩ := by unfold Addr.add; split <;> simp_all
  rw [ha, World.cell?_alloc_new]
  simpa using hj
def SvcsR (w : World) (R : List Svc) (e : Ending) (w' : World) : Prop := ∃ v, e = .returned v ∧ SvcsC w.heap.size w' v R ∧ Below w.heap.size w w'
theorem place_none (y : List UInt8) (h : (splitL 47 y).length ≠ 2) : placeP y = none := by
  unfold placeP
  split
  · rename_i a b e; rw [e] at h; exact absurd rfl h
  · rfl
theorem place_two {y a b : List UInt8} (h : splitL 47 y = [a, b]) : placeP y = portP a b := by unfold placeP; rw [h]
/-- What stands behind the making of a row. -/
structure Made (B : Nat) (w w' : World) (g : Nat) (nv : Value) (n : Int) (q : List UInt8) (f : List (List UInt8)) : Prop where
  row : R3 w' g nv (.int .i64 n) (.string ⟨q.toArray⟩)
  names : StrC w.heap.size w' nv f
  apart : nv.ownBlock ≠ some g
  late : w.heap.size ≤ g
  bel : Below w.heap.size w w'
theorem r3_next (w : World) (o : Obj) (x y z : Value) (e : TypeId) : R3 ((w.alloc o).alloc (.cells #[x, y, z] e)) (w.heap.size + 1) x y z := by
  have := R3.new (w.alloc o) x y z e
  have hs : (w.alloc o).heap.size = w.heap.size + 1 := by show (w.heap.push o).size = _; simp
  rw [hs] at this
  exact this
theorem r3_set {w : World} {b : Nat} {x y z : Value} (h : R3 w b x y z) (u v t : Value) : R3 (((w.setCell ⟨b, 0, none⟩ u).setCell ⟨b, 1, none⟩ v).setCell ⟨b, 2, none⟩ t) b u v t := by
  obtain ⟨e, h⟩ := h.blk
  refine ⟨e, ?_⟩
  have h1 := heap_setCell_eq w b 0 u _ _ _ h
  have h2 := heap_setCell_eq (w.setCell ⟨b, 0, none⟩ u) b 1 v _ _ _ h1
  have h3 := heap_setCell_eq ((w.setCell ⟨b, 0, none⟩ u).setCell ⟨b, 1, none⟩ v) b 2 t _ _ _ h2
  exact h3
theorem own_next (w : World) (o : Obj) (x : List UInt8) : StrC w.heap.size ((w.alloc o).alloc (.cells #[.string ⟨x.toArray⟩] 9)) (.slice (some ⟨w.heap.size + 1, 0, none⟩) 1 1) [x] := by
  have := own_lit (w.alloc o) x
  have hs : (w.alloc o).heap.size = w.heap.size + 1 := by show (w.heap.push o).size = _; simp
  rw [hs] at this
  exact own_base this (Nat.le_succ _)
theorem made_new {B : Nat} {w W : World} {h : Nat} {n : Int} {q x : List UInt8} (hs : StrC w.heap.size W (.slice (some ⟨h, 0, none⟩) 1 1) [x]) (hb : Below w.heap.size w W) (hB : B ≤ w.heap.size) (ty : TypeId) :
    Made B w (W.alloc (.cells #[.slice (some ⟨h, 0, none⟩) 1 1, .int .i64 n, .string ⟨q.toArray⟩] ty)) W.heap.size (.slice (some ⟨h, 0, none⟩) 1 1) n q [x] where
  row := R3.new W _ _ _ _
  names := World.ownsRow.alloc hs _
  apart := fun e => by have h1 : h = W.heap.size := by simpa [Value.ownBlock] using e
                       have := (World.ownsRow.lt hs h rfl).2
                       omega
  late := hb.size
  bel := hb.alloc hb.size _
theorem made_set {B : Nat} {w W : World} {h g : Nat} {n : Int} {q x : List UInt8} {x0 y0 z0 : Value} (hr : R3 W g x0 y0 z0) (hs : StrC w.heap.size W (.slice (some ⟨h, 0, none⟩) 1 1) [x]) (hne : h ≠ g) (hg : w.heap.size ≤ g) (hb : Below w.heap.size w W) (hB : B ≤ w.heap.size) :
    Made B w (((W.setCell ⟨g, 0, none⟩ (.slice (some ⟨h, 0, none⟩) 1 1)).setCell ⟨g, 1, none⟩ (.int .i64 n)).setCell ⟨g, 2, none⟩ (.string ⟨q.toArray⟩)) g (.slice (some ⟨h, 0, none⟩) 1 1) n q [x] where
  row := r3_set hr _ _ _
  names := by
    refine ⟨hs.1, ?_⟩
    rcases hs.2 with h0 | ⟨g', cap, cur, q1, q2, q3, q4⟩
    · exact .inl h0
    · refine .inr ⟨g', cap, cur, q1, q2, ?_, q4⟩
      have e : h = g' := by injection q1 with a1; injection a1 with a2; injection a2
      rw [heap_setCell_ne _ _ _ _ _ (by omega), heap_setCell_ne _ _ _ _ _ (by omega), heap_setCell_ne _ _ _ _ _ (by omega)]
      exact q3
  apart := fun e => hne (by simpa [Value.ownBlock] using e)
  late := hg
  bel := ((hb.setCell hg _).setCell hg _).setCell hg _
theorem made_last {B : Nat} {w W : World} {n : Int} {q x : List UInt8} (hb : Below w.heap.size w W) (hB : B ≤ w.heap.size) (ty : TypeId) :
    Made B w ((W.alloc (.cells #[.slice (some ⟨W.heap.size + 1, 0, none⟩) 1 1, .int .i64 n, .string ⟨q.toArray⟩] ty)).alloc (.cells #[.string ⟨x.toArray⟩] 9)) W.heap.size (.slice (some ⟨W.heap.size + 1, 0, none⟩) 1 1) n q [x] where
  row := (R3.new W _ _ _ _).below ((Below.refl _ _).alloc (Nat.le_refl _) _)
  names := own_base (own_next W _ x) hb.size
  apart := fun e => by simp [Value.ownBlock] at e
  late := hb.size
  bel := (hb.alloc hb.size _).alloc (hb.alloc hb.size _).size _
theorem made_push {B : Nat} {w wr w17 : World} {gr g17 cap17 nc : Nat} {np : Option Addr} {num : Int} {q : List UInt8} {L : List (List UInt8)} (hM : Made B w wr gr (.slice np L.length nc) num q L) {z : List UInt8} {zb : ByteArray} (hz : (⟨z.toArray⟩ : ByteArray) = zb) {o : Obj}
    (hR : R3 w17 gr (.slice np L.length nc) (.int .i64 num) (.string ⟨q.toArray⟩)) (hO : w17.ownsRow w.heap.size 9 1 (.slice (some ⟨g17, 0, none⟩) (L.length + 1) cap17) (L.length + 1) (L.map strV ++ [.string zb])) (hG : (wr.alloc o).drew.grownBy w17 (Value.slice np L.length nc).ownBlock)
    (hA : (Value.slice np L.length nc).ownBlock = some g17 ∨ g17 = wr.heap.size + 1) : Made B w (w17.setCell ⟨gr, 0, none⟩ (.slice (some ⟨g17, 0, none⟩) (L.length + 1) cap17)) gr (.slice (some ⟨g17, 0, none⟩) (L.length + 1) cap17) num q (L ++ [z]) := by
  have hne : ¬ g17 = gr := fun e => by
    rcases hA with h | h
    · exact hM.apart (by rw [h, e])
    · have := hM.row.lt; omega
  have hlow : ∀ g, (Value.slice np L.length nc).ownBlock = some g → w.heap.size ≤ g := fun g hg => (World.ownsRow.lt hM.names g hg).1
  refine ⟨hR.set0 _, ?_, ?_, hM.late, ?_⟩
  · unfold StrC
    rw [List.length_append, List.map_append]
    have e : [z].map strV = [.string zb] := by rw [← hz]; rfl
    rw [e]
    refine ⟨hO.1, ?_⟩
    rcases hO.2 with h0 | ⟨g', cap, cur, q1, q2, q3, q4⟩
    · exact .inl h0
    · refine .inr ⟨g', cap, cur, q1, q2, ?_, q4⟩
      have e : g17 = g' := by injection q1 with a1; injection a1 with a2; injection a2
      rw [heap_setCell_ne _ _ _ _ _ (by omega)]
      exact q3
  · intro e
    exact hne (by simpa [Value.ownBlock] using e)
  · exact ((hM.bel.alloc hM.bel.size o).drew.grown hG (by have := hM.bel.size; show w.heap.size ≤ (wr.heap.push _).size; simp; omega) hlow).setCell hM.late _
theorem keep2 {w : World} {A B i j : Nat} {u v : Value} (h : w.cell? ⟨A, i, none⟩ = some u ∧ w.cell? ⟨B, j, none⟩ = some v) (o : Obj) : (w.alloc o).cell? ⟨A, i, none⟩ = some u ∧ (w.alloc o).cell? ⟨B, j, none⟩ = some v := by
  have hb := (Below.refl w.heap.size w).alloc (Nat.le_refl _) o
  exact ⟨by rw [hb.cell (p := ⟨A, i, none⟩) (cell_lt h.1)]; exact h.1, by rw [hb.cell (p := ⟨B, j, none⟩) (cell_lt h.2)]; exact h.2⟩
theorem keep3 {w : World} {A B i j b : Nat} {u v : Value} (h : w.cell? ⟨A, i, none⟩ = some u ∧ w.cell? ⟨B, j, none⟩ = some v) (ha : A < b) (hb : B < b) (x y z : Value) : (((w.setCell ⟨b, 0, none⟩ x).setCell ⟨b, 1, none⟩ y).setCell ⟨b, 2, none⟩ z).cell? ⟨A, i, none⟩ = some u ∧ (((w.setCell ⟨b, 0, none⟩ x).setCell ⟨b, 1, none⟩ y).setCell ⟨b, 2, none⟩ z).cell? ⟨B, j, none⟩ = some v := by
  have k : ∀ (A i : Nat), A < b → (((w.setCell ⟨b, 0, none⟩ x).setCell ⟨b, 1, none⟩ y).setCell ⟨b, 2, none⟩ z).cell? ⟨A, i, none⟩ = w.cell? ⟨A, i, none⟩ := fun A i h => by
    rw [World.cell?_setCell_other _ _ _ _ (fun e => by cases e; omega), World.cell?_setCell_other _ _ _ _ (fun e => by cases e; omega), World.cell?_setCell_other _ _ _ _ (fun e => by cases e; omega)]
  exact ⟨by rw [k A i ha]; exact h.1, by rw [k B j hb]; exact h.2⟩
set_option maxHeartbeats 4000000 in
set_option maxRecDepth 100000 in
theorem services_core (a : Option Addr) (n c : Nat) (T : List (Nat × List (List UInt8))) (w : World) (hfine : ∀ t ∈ T, FineL t.2) (hfew2 : T.length ≤ 100001) (hlines : Calls Try.prog 22 #[.slice a n c] w (RLinesR w T)) :
    Calls Try.prog 10 #[.slice a n c] w (SvcsR w (svcsOf T)) := by
  obtain ⟨i9, hi, hz0, hz1, hz2⟩ := info_parts info_svc
  obtain ⟨i8, si, sz0, sz1, sz2⟩ := info_parts info_str
  have HLn := Lib.hid hlines
  have HFine := Lib.hid hfine
  clear hfine hlines
  go_enter Try.func10, Try.ntmps10
  go_wp2_with (go_at_call 22; refine HLn.out.mono ?_; rintro e w2 ⟨v, rfl, hT, hb2⟩; obtain ⟨pT, cT, rfl⟩ := hT.shape)
  have HT := Lib.hid hT
  have HB2 := Lib.hid hb2
  clear hT hb2
  go_loopw [3, 5] (fun ov iv wr => ∃ k : Nat, k ≤ T.length ∧ iv = .int .i64 k ∧ SvcsC w2.heap.size wr ov (svcsOf (T.take k)) ∧ Below w2.heap.size w2 wr) (fun _ iv _ => T.length - (intOf iv).toNat)
  case atStart => exact ⟨0, Nat.zero_le _, rfl, SvcsC.nil _ _, Below.refl _ _⟩
  case round =>
    obtain ⟨k, hk, rfl, hR, hbr⟩ := hrel
    by_cases hlt : k < T.length
    · obtain ⟨⟨no, ws⟩, hx⟩ : ∃ x, T[k]? = some x := ⟨_, List.getElem?_eq_getElem hlt⟩
      have hf := HFine.out (no, ws) (List.mem_of_getElem? hx)
      obtain ⟨_, cap, e, hcap, hcm, hrd⟩ := HT.out.read
      cases e
      obtain ⟨g, rfl, hc0, q, c, hc1, hstr⟩ := hrd k no ws hx
      have hgl : g < w2.heap.size := cell_lt hc0
      obtain ⟨_, c', e', hcc, hcm2, hwd⟩ := StrC.read hstr
      cases e'
      have HStep : Hid (svcsOf (T.take (k + 1)) = svcsOf (T.take k) ++ (svcRow ws).toList) := Lib.hid (by rw [takeH hx, svcsOf_snoc])
      have hne : ws ≠ [] := hf.ne
      have hfew : ws.length ≤ 513 := hf.few
      have HWz := Lib.hid hf.word
      obtain ⟨x, r0, rfl⟩ : ∃ x r, ws = x :: r := by cases ws with | nil => exact absurd rfl hne | cons x r => exact ⟨x, r, rfl⟩
      obtain ⟨A, rfl, hAl, _⟩ := hwd 0 x rfl
      have HC : Hid (∀ W, Below w2.heap.size w2 W → W.cell? ⟨g, k * 2 + 1, none⟩ = some (.slice (some ⟨A, 0, none⟩) (r0.length + 1) c) ∧ Words W A (x :: r0)) := Lib.hid (fun W hW => by
        refine ⟨?_, fun j l hj => ?_⟩
        · rw [hW.cell (p := ⟨g, k * 2 + 1, none⟩) hgl, Nat.mul_comm]; exact hc1
        · obtain ⟨A', e, _, h2⟩ := hwd j l hj
          cases e
          rw [hW.cell (p := ⟨A, j, none⟩) hAl]; exact h2)
      obtain ⟨ovp, ovc, rfl⟩ := hR.shape
      have hkr := svcsOf_few (T.take k)
      have hkt := List.length_take_le k T
      have HR := Lib.hid hR
      have HBr := Lib.hid hbr
      obtain ⟨hw1, hw2⟩ := HC.out wr hbr
      have hw20 := hw2 0 x rfl
      have hxz : x.length ≤ 512 := HWz.out x (by simp)
      have HX := Lib.hid (fun W => rsvc_any ⟨x.toArray⟩ W (by show x.toArray.size ≤ 1000000; simp; omega))
      have e1 : (ByteArray.data ⟨x.toArray⟩).toList = x := rfl
      rw [e1] at HX
      have hne1 : ((r0.length + 1 : Nat) : Int) = (r0.length : Int) + 1 := by omega
      have hrl : r0.length ≤ 512 := by simp only [List.length_cons] at hfew; omega
      have skip : svcRow (x :: r0) = none → Hid (svcsOf (T.take (k + 1)) = svcsOf (T.take k)) := fun h => Lib.hid (by rw [HStep.out, h]; simp)
      clear hrd hstr hwd hx hf hc0 hc1 hne hfew hR hbr e1
      cases r0 with
      | nil =>
        have HNo := skip rfl
        clear skip HX hw2 HStep
        go_wp2
        go_roundw
        case rel => exact ⟨k + 1, hlt, by go_num, by rw [HNo.out]; exact HR.out, HBr.out⟩
        case measure => simp [intOf]; omega
      | cons y r =>
        have hn2 : ¬ (((y :: r).length : Nat) : Int) + 1 < 2 := by simp only [List.length_cons]; omega
        have hw21 := hw2 1 y rfl
        have hyz : y.length ≤ 512 := HWz.out y (by simp)
        obtain ⟨m, hm⟩ : ∃ m, (y :: r).length = m := ⟨_, rfl⟩
        rw [hm] at hn2 hw1 HC hne1 hrl
        have hmr : r.length + 1 = m := by rw [← hm]; rfl
        have hm1 : 1 ≤ m := by omega
        have hrow := svcRow_place x (y :: r)
        rw [placeW_two] at hrow
        obtain ⟨xb, hxb⟩ : ∃ q : ByteArray, (⟨x.toArray⟩ : ByteArray) = q := ⟨_, rfl⟩
        obtain ⟨yb, hyb⟩ : ∃ q : ByteArray, (⟨y.toArray⟩ : ByteArray) = q := ⟨_, rfl⟩
        have HSp := Lib.hid (fun W => split_any ⟨y.toArray⟩ 47 W (by show y.toArray.size ≤ 1000000; simp; omega))
        have e2 : (ByteArray.data ⟨y.toArray⟩).toList = y := rfl
        rw [e2] at HSp
        rw [hxb] at hw20 HX
        rw [hyb] at hw21 HSp
        have HXB := Lib.hid hxb
        clear hw2 hxb hyb e2
        by_cases hsx : svcB x = true
        · rw [if_pos hsx] at hrow
          rw [hsx] at HX
          have HSpl := splitL 47 y
          obtain ⟨L, hL⟩ : ∃ L, splitL 47 y = L := ⟨_, rfl⟩
          rw [hL] at HSp
          by_cases hL2 : L.length = 2
          · obtain ⟨pa, pb, rfl⟩ : ∃ pa pb, L = [pa, pb] := by
              cases L with
              | nil => simp at hL2
              | cons pa L => cases L with
                | nil => simp at hL2
                | cons pb L => cases L with
                  | nil => exact ⟨pa, pb, rfl⟩
                  | cons pc L => simp at hL2
            rw [place_two hL] at hrow
            have hpal : pa.length ≤ 512 := by
              have := splitG_mem 47 y [] pa (by show pa ∈ splitL 47 y; rw [hL]; simp)
              simp at this; omega
            have hpbl : pb.length ≤ 512 := by
              have := splitG_mem 47 y [] pb (by show pb ∈ splitL 47 y; rw [hL]; simp)
              simp at this; omega
            have HPr := Lib.hid (fun W => rproto_any ⟨pb.toArray⟩ W (by show pb.toArray.size ≤ 1000000; simp; omega))
            have HNu := Lib.hid (fun W => rnum_any ⟨pa.toArray⟩ 65535 W (by show pa.toArray.size ≤ maxLen; simp; unfold maxLen; omega))
            have HFo := Lib.hid (fun W => rfold_any ⟨pb.toArray⟩ W (by show pb.toArray.size ≤ maxLen; simp; unfold maxLen; omega))
            have e3 : (ByteArray.data ⟨pa.toArray⟩).toList = pa := rfl
            have e4 : (ByteArray.data ⟨pb.toArray⟩).toList = pb := rfl
            rw [e3] at HNu
            rw [e4] at HPr HFo
            have HSp2 : Hid (∀ W, Calls Try.prog 24 #[.string yb, .int .u8 47] W fun e w' => ∃ g4 c4, e = .returned (.slice (some ⟨g4, 0, none⟩) 2 c4) ∧ 2 ≤ c4 ∧ g4 < w'.heap.size ∧ w'.cell? ⟨g4, 0, none⟩ = some (.string ⟨pa.toArray⟩) ∧ w'.cell? ⟨g4, 1, none⟩ = some (.string ⟨pb.toArray⟩) ∧ Below W.heap.size W w') := Lib.hid (fun W => (HSp.out W).mono (by
              rintro e w' ⟨v4, rfl, hv4, hb4⟩
              obtain ⟨p4, c4, rfl, hcc4, hcm4, hr4⟩ := StrC.read hv4
              obtain ⟨g4, rfl, hg4, hx4⟩ := hr4 0 pa rfl
              obtain ⟨g4', e4, _, hy4⟩ := hr4 1 pb rfl
              cases e4
              exact ⟨g4, c4, rfl, hcc4, hg4, hx4, hy4, hb4⟩))
            obtain ⟨pab, hpab⟩ : ∃ q : ByteArray, (⟨pa.toArray⟩ : ByteArray) = q := ⟨_, rfl⟩
            obtain ⟨pbb, hpbb⟩ : ∃ q : ByteArray, (⟨pb.toArray⟩ : ByteArray) = q := ⟨_, rfl⟩
            rw [hpab] at HNu HSp2
            rw [hpbb] at HPr HFo HSp2
            clear HSp HSpl hL hL2 e3 e4 hpab hpbb hpal hpbl
            have hport : portP pa pb = if protoB pb = true ∧ (numRes pa 65535).2 = true ∧ 1 ≤ (numRes pa 65535).1 then some ((numRes pa 65535).1, pb.map low) else none := rfl
            have hbd := numRes_bd pa 65535 (by decide)
            obtain ⟨⟨num, ok⟩, hnr⟩ : ∃ q, numRes pa 65535 = q := ⟨_, rfl⟩
            rw [hnr] at hport HNu hbd
            simp only at hport HNu hbd
            obtain ⟨hnb0, hnb1⟩ := hbd
            rw [hport] at hrow
            clear hport hnr
            have none_of : ¬ (protoB pb = true ∧ ok = true ∧ 1 ≤ num) → svcRow (x :: y :: r) = none := fun h => by rw [hrow, if_neg h]; rfl
            by_cases hpr : protoB pb = true
            · by_cases hok : ok = true
              · subst hok
                by_cases hnum : num < 1
                · have HNo := skip (none_of (fun e => by omega))
                  rw [hpr] at HPr
                  clear skip none_of hrow hpr HStep hsx HFo
                  go_wp2_with (first | (go_at_call 23; refine (HX.out _).mono ?_; rintro e w3 ⟨rfl, hw⟩; obtain rfl := hw.symm) | (go_at_call 24; refine (HSp2.out _).mono ?_; rintro e w4 ⟨g4, c4, rfl, hc4, hg4, hx4, hy4, hb4⟩) | (go_at_call 25; refine (HPr.out _).mono ?_; rintro e w5 ⟨rfl, hw⟩; obtain rfl := hw) | (go_at_call 26; refine (HNu.out _).mono ?_; rintro e w6 ⟨rfl, hw⟩; obtain rfl := hw.symm))
                  go_roundw
                  case rel => exact ⟨k + 1, hlt, by go_num, by rw [HNo.out]; exact HR.out.below hb4, HBr.out.trans (hb4.mono HBr.out.size)⟩
                  case measure => simp [intOf]; omega
                · have hnum' : 1 ≤ num := by omega
                  have HYes : Hid (svcsOf (T.take (k + 1)) = svcsOf (T.take k) ++ [(x :: r.filter svcB, num, pb.map low)]) := Lib.hid (by rw [HStep.out, hrow, if_pos ⟨hpr, rfl, hnum'⟩]; rfl)
                  rw [hpr] at HPr
                  clear skip none_of hrow hpr HStep hsx
                  go_upto_region 12 with (first | (go_at_call 23; refine (HX.out _).mono ?_; rintro e w3 ⟨rfl, hw⟩; obtain rfl := hw.symm) | (go_at_call 24; refine (HSp2.out _).mono ?_; rintro e w4 ⟨g4, c4, rfl, hc4, hg4, hx4, hy4, hb4⟩) | (go_at_call 25; refine (HPr.out _).mono ?_; rintro e w5 ⟨rfl, hw⟩; obtain rfl := hw) | (go_at_call 26; refine (HNu.out _).mono ?_; rintro e w6 ⟨rfl, hw⟩; obtain rfl := hw.symm))
                  have HBW := Lib.hid (HBr.out.trans (hb4.mono HBr.out.size))
                  obtain ⟨hq1, hq2⟩ := HC.out w4 HBW.out
                  have hqx : w4.cell? ⟨A, 0, none⟩ = some (.string xb) := by rw [← HXB.out]; exact hq2 0 x rfl
                  have hA4 : A < w4.heap.size := Nat.lt_of_lt_of_le hAl HBW.out.size
                  have HK : Hid (w4.drew.cell? ⟨A, 0, none⟩ = some (.string xb) ∧ w4.drew.cell? ⟨g4, 1, none⟩ = some (.string pbb)) := Lib.hid ⟨hqx, hy4⟩
                  have HBR4 := Lib.hid (HR.out.below hb4)
                  have HB0 := Lib.hid (Below.refl w4.heap.size w4).drew
                  have HBa : Hid (∀ o, Below w4.heap.size w4 (w4.alloc o).drew) := Lib.hid (fun o => ((Below.refl _ _).alloc (Nat.le_refl _) o).drew)
                  have HBb : Hid (∀ o o', Below w4.heap.size w4 ((w4.alloc o).alloc o').drew) := Lib.hid (fun o o' => (((Below.refl _ _).alloc (Nat.le_refl _) o).alloc (HBa.out o).size o').drew)
                  have Hz1 : Hid (∀ W', Below (w4.alloc (.cells #[.slice none 0 0, .int .i64 0, .string ⟨#[]⟩] 40)).drew.heap.size (w4.alloc (.cells #[.slice none 0 0, .int .i64 0, .string ⟨#[]⟩] 40)).drew W' → R3 W' w4.heap.size (.slice none 0 0) (.int .i64 0) (.string ⟨#[]⟩)) := Lib.hid (fun W' h => ((R3.new w4 _ _ _ _).below (Below.refl _ _).drew).below h)
                  have Hz2 : Hid (∀ o W', Below ((w4.alloc (.cells #[.slice none 0 0, .int .i64 0, .string ⟨#[]⟩] 40)).alloc o).drew.heap.size ((w4.alloc (.cells #[.slice none 0 0, .int .i64 0, .string ⟨#[]⟩] 40)).alloc o).drew W' → R3 W' w4.heap.size (.slice none 0 0) (.int .i64 0) (.string ⟨#[]⟩)) := Lib.hid (fun o W' h => ((R3.new w4 _ _ _ _).below ((Below.refl _ _).alloc (Nat.le_refl _) o).drew).below h)
                  have Hz3 : Hid (∀ o W', Below ((w4.alloc o).alloc (.cells #[.slice none 0 0, .int .i64 0, .string ⟨#[]⟩] 40)).drew.heap.size ((w4.alloc o).alloc (.cells #[.slice none 0 0, .int .i64 0, .string ⟨#[]⟩] 40)).drew W' → R3 W' (w4.heap.size + 1) (.slice none 0 0) (.int .i64 0) (.string ⟨#[]⟩)) := Lib.hid (fun o W' h => ((r3_next w4 o _ _ _ _).below (Below.refl _ _).drew).below h)
                  clear hq1 hq2 hb4 HPr HNu HX HSp2
                  go_cut [10] from 14 to 95 (fun rv wx => ∃ gr nv, rv = .pointer (some ⟨gr, 0, none⟩) ∧ Made w2.heap.size w4 wx gr nv num (pb.map low) [x])
                  case first =>
                    go_region_held3 (fun w' => w'.cell? ⟨A, 0, none⟩ = some (.string xb) ∧ w'.cell? ⟨g4, 1, none⟩ = some (.string pbb)) (first | with_reducible exact HK.out | with_reducible exact keep2 HK.out _ | with_reducible exact keep2 (keep2 HK.out _) _ | with_reducible exact keep3 HK.out (by omega) (by omega) _ _ _ | with_reducible exact keep3 (keep2 HK.out _) (by omega) (by omega) _ _ _ | go_keep) (first | (go_at_call 27; with_reducible refine (HFo.out _).mono ?_; rintro e w7 ⟨rfl, hb7⟩; have HD7 : Hid (Below w4.heap.size w4 w7) := Lib.hid (by first | with_reducible exact HB0.out.trans (hb7.mono HB0.out.size) | with_reducible exact (HBa.out _).trans (hb7.mono (HBa.out _).size) | with_reducible exact (HBb.out _ _).trans (hb7.mono (HBb.out _ _).size)); have HK : Hid (w7.cell? ⟨A, 0, none⟩ = some (.string xb) ∧ w7.cell? ⟨g4, 1, none⟩ = some (.string pbb)) := Lib.hid ⟨by rw [HD7.out.cell (p := ⟨A, 0, none⟩) hA4]; exact hqx, by rw [HD7.out.cell (p := ⟨g4, 1, none⟩) hg4]; exact hy4⟩; have hz7 := fun o => (R3.new w7 (.slice none 0 0) (.int .i64 0) (.string ⟨#[]⟩) 40).below ((Below.refl _ _).alloc (Nat.le_refl _) o); have t0 := fun o => (hz7 o).c0; have t1 := fun o => (hz7 o).c1; have t2 := fun o => (hz7 o).c2; have s0 := fun o => (hz7 o).free 0; have s1 := fun o => (hz7 o).free 1; have s2 := fun o => (hz7 o).free 2; have HZ7 := Lib.hid hz7; clear hz7; first | (with_reducible have h3 := Hz1.out _ hb7; have HZ := Lib.hid h3; have z0 := h3.c0; have z1 := h3.c1; have z2 := h3.c2; have y0 := h3.free 0; have y1 := h3.free 1; have y2 := h3.free 2; have z0a := fun o => (h3.below ((Below.refl _ _).alloc (Nat.le_refl _) o)).c0; have z1a := fun o => (h3.below ((Below.refl _ _).alloc (Nat.le_refl _) o)).c1; have z2a := fun o => (h3.below ((Below.refl _ _).alloc (Nat.le_refl _) o)).c2; have y0a := fun o => (h3.below ((Below.refl _ _).alloc (Nat.le_refl _) o)).free 0; have y1a := fun o => (h3.below ((Below.refl _ _).alloc (Nat.le_refl _) o)).free 1; have y2a := fun o => (h3.below ((Below.refl _ _).alloc (Nat.le_refl _) o)).free 2; have HB7 := Lib.hid hb7; clear h3) | (with_reducible have h3 := Hz2.out _ _ hb7; have HZ := Lib.hid h3; have z0 := h3.c0; have z1 := h3.c1; have z2 := h3.c2; have y0 := h3.free 0; have y1 := h3.free 1; have y2 := h3.free 2; have HB7 := Lib.hid hb7; clear h3) | (with_reducible have h3 := Hz3.out _ _ hb7; have HZ := Lib.hid h3; have z0 := h3.c0; have z1 := h3.c1; have z2 := h3.c2; have y0 := h3.free 0; have y1 := h3.free 1; have y2 := h3.free 2; have HB7 := Lib.hid hb7; clear h3) | (have HB7 := Lib.hid hb7)))
                    · go_wp2
                      go_meet
                      rw [← HXB.out] at HB7
                      exact ⟨_, _, rfl, made_new (own_below (own_lit w4 x) ((Below.refl _ _).drew.trans HB7.out)) HD7.out HBW.out.size _⟩
                    · go_wp2
                      go_meet
                      have hN : StrC w4.heap.size w7 (.slice (some ⟨w4.heap.size, 0, none⟩) 1 1) [x] := by
                        rw [← HXB.out] at HB7
                        exact own_below (World.ownsRow.alloc (own_lit w4 x) _) ((Below.refl _ _).drew.trans HB7.out)
                      exact ⟨_, _, rfl, made_set HZ.out hN (by omega) (by omega) HD7.out HBW.out.size⟩
                    · go_wp2
                      go_meet
                      rw [← HXB.out]
                      refine ⟨_, .slice (some ⟨w7.heap.size, 0, none⟩) 1 1, rfl, ?_⟩
                      have hs1 : (w7.alloc (.cells #[.string ⟨x.toArray⟩] 9)).heap.size = w7.heap.size + 1 := by show (w7.heap.push _).size = _; simp
                      rw [← hs1]
                      exact made_new (own_base (own_lit w7 x) HD7.out.size) (HD7.out.alloc HD7.out.size _) HBW.out.size _
                    · go_wp2
                      go_meet
                      rw [← HXB.out]
                      exact ⟨_, _, rfl, made_last HD7.out HBW.out.size _⟩
                    · go_wp2
                      go_meet
                      have hN : StrC w4.heap.size w7 (.slice (some ⟨w4.heap.size + 1, 0, none⟩) 1 1) [x] := by
                        rw [← HXB.out] at HB7
                        exact own_below (own_next w4 _ x) ((Below.refl _ _).drew.trans HB7.out)
                      exact ⟨_, _, rfl, made_set HZ.out hN (by omega) (Nat.le_refl _) HD7.out HBW.out.size⟩
                    · go_wp2
                      go_meet
                      rw [← HXB.out]
                      exact ⟨_, _, rfl, made_set (HZ.out.below ((Below.refl _ _).alloc (Nat.le_refl _) _)) (own_base (own_lit w7 x) HD7.out.size) (by have := HZ.out.lt; omega) (Nat.le_refl _) (HD7.out.alloc HD7.out.size _) HBW.out.size⟩
                  case rest =>
                    obtain ⟨gr, nv0, rfl, hMd⟩ := hcut
                    have HMd0 := Lib.hid hMd
                    clear hMd hqx hy4 hA4 HK HB0 HBa HBb Hz1 Hz2 Hz3
                    go_wp2
                    go_loopw [11] (fun kv wq => ∃ (j : Nat) (nv : Value), j ≤ r.length ∧ kv = .int .i64 ((j : Int) + 2) ∧ Made w2.heap.size w4 wq gr nv num (pb.map low) (x :: (r.take j).filter svcB)) (fun kv _ => r.length + 2 - (intOf kv).toNat)
                    case atStart => exact ⟨0, nv0, Nat.zero_le _, rfl, HMd0.out⟩
                    case round =>
                      clear HMd0
                      obtain ⟨j, nv, hj, rfl, hMd⟩ := hrel
                      obtain ⟨np, nc, hnv⟩ := StrC.shape hMd.names
                      obtain ⟨L, hL⟩ : ∃ L, x :: (r.take j).filter svcB = L := ⟨_, rfl⟩
                      have hLl : L.length ≤ 513 := by
                        rw [← hL]
                        have h1 := List.length_filter_le svcB (r.take j)
                        have h2 := List.length_take_le j r
                        simp only [List.length_cons]; omega
                      rw [hL] at hMd hnv
                      subst hnv
                      have HL := Lib.hid hL
                      have hbw := HBW.out.trans (hMd.bel.mono HBW.out.size)
                      obtain ⟨hq1, hq2⟩ := HC.out _ hbw
                      have d0 := hMd.row.c0
                      have d1 := hMd.row.c1
                      have d2 := hMd.row.c2
                      have HMd := Lib.hid hMd
                      have HBq := Lib.hid hbw
                      clear hMd hL hq1 hbw
                      by_cases hjl : j < r.length
                      · obtain ⟨z, hz⟩ : ∃ z, r[j]? = some z := ⟨_, List.getElem?_eq_getElem hjl⟩
                        have hqz := hq2 (j + 2) z (by simpa using hz)
                        have hzz := HWz.out z (by simp [List.mem_of_getElem? hz])
                        have HTz := Lib.hid (svc_take hz)
                        have HZs := Lib.hid (fun W => rsvc_any ⟨z.toArray⟩ W (by show z.toArray.size ≤ 1000000; simp; omega))
                        have e9 : (ByteArray.data ⟨z.toArray⟩).toList = z := rfl
                        rw [e9] at HZs
                        obtain ⟨zb, hzb⟩ : ∃ q : ByteArray, (⟨z.toArray⟩ : ByteArray) = q := ⟨_, rfl⟩
                        rw [hzb] at hqz HZs
                        have HZB := Lib.hid hzb
                        have hjm : (j : Int) + 2 < (m : Int) + 1 := by omega
                        have hj0 : (0 : Int) ≤ (j : Int) + 2 := by omega
                        clear hq2 hz e9 hzb hzz
                        have svz : ∀ W, Calls Try.prog 23 #[.string zb] W fun e w' => e = .returned (.bool (svcB z)) ∧ w' = W := HZs.out
                        clear svz
                        by_cases hsz : svcB z = true
                        · rw [hsz] at HZs
                          rw [if_pos hsz] at HTz
                          clear hsz
                          go_upto_region 17 with (go_at_call 23; refine (HZs.out _).mono ?_; rintro e w8 ⟨rfl, hw⟩; obtain rfl := hw.symm)
                          have hd0a : ∀ o, (wr.alloc o).cell? ⟨gr, 0, none⟩ = some (.slice np L.length nc) := fun o => (HMd.out.row.below ((Below.refl _ _).alloc (Nat.le_refl _) o)).c0
                          have hqza : ∀ o, (wr.alloc o).cell? ⟨A, j + 2, none⟩ = some (.string zb) := fun o => by rw [((Below.refl wr.heap.size wr).alloc (Nat.le_refl _) o).cell (p := ⟨A, j + 2, none⟩) (cell_lt hqz)]; exact hqz
                          have hto : ((j : Int) + 2).toNat = j + 2 := by omega
                          have hqt : wr.cell? ⟨A, ((j : Int) + 2).toNat, none⟩ = some (.string zb) := by rw [hto]; exact hqz
                          have hqta : ∀ o, (wr.alloc o).cell? ⟨A, ((j : Int) + 2).toNat, none⟩ = some (.string zb) := fun o => by rw [hto]; exact hqza o
                          clear hto hqza hqz
                          have hwB : w4.heap.size ≤ wr.heap.size := HMd.out.bel.size
                          go_region_law (first | (refine step_append_lies _ (by rfl) _ _ _ (by rfl) w4.heap.size 9 i8 (.string ⟨#[]⟩) 1 16 Try.underlying34 si sz0 sz1 sz2 rfl (by decide) (.slice np L.length nc) L.length (L.map strV) (by rfl) (World.ownsRow.alloc HMd.out.names _) ⟨wr.heap.size, 0, none⟩ 1 1 [.string zb] (by rfl) rfl (new_cells1 _ _ _) (by simp [Value.oneCell']) (by decide) (by unfold maxLen; omega) (by omega) (by show w4.heap.size ≤ (wr.heap.push _).size; simp; omega) (wr.heap.size + 1) (by show (wr.heap.push _).size = _; simp) ?_; intro g17 cap17 w17 hown17 hg17 hat17 hlt17; have HR17 : Hid (R3 w17 gr (.slice np L.length nc) (.int .i64 num) (.string ⟨(pb.map low).toArray⟩)) := Lib.hid ((HMd.out.row.below ((Below.refl _ _).alloc (Nat.le_refl _) (.cells #[.string zb] 9))).same (hg17.block gr (Nat.lt_succ_of_lt HMd.out.row.lt |> fun h => by show gr < (wr.heap.push _).size; simpa using h) (fun e => HMd.out.apart e.symm))); have hc17 := HR17.out.c0; have hf17 := HR17.out.free 0; have HO17 := Lib.hid hown17; have HG17 := Lib.hid hg17; have HA17 := Lib.hid hat17; clear hown17 hg17 hat17))
                          all_goals
                            go_wp2
                            go_roundw
                            case rel => exact ⟨j + 1, _, hjl, by go_num, by rw [HTz.out, ← List.cons_append, HL.out]; exact made_push HMd.out HZB.out HR17.out HO17.out HG17.out HA17.out⟩
                            case measure => simp [intOf]; omega
                        · have hsz' : svcB z = false := by simpa using hsz
                          rw [hsz'] at HZs
                          rw [if_neg hsz] at HTz
                          clear hsz hsz'
                          go_wp2_with (go_at_call 23; refine (HZs.out _).mono ?_; rintro e w8 ⟨rfl, hw⟩; obtain rfl := hw.symm)
                          go_roundw
                          case rel => exact ⟨j + 1, _, hjl, by go_num, by rw [HTz.out, List.append_nil, HL.out]; exact HMd.out⟩
                          case measure => simp [intOf]; omega
                      · obtain rfl : j = r.length := by omega
                        have hjm : ¬ (r.length : Int) + 2 < (m : Int) + 1 := by omega
                        rw [List.take_length] at HL
                        have HRb : Hid (SvcsC w2.heap.size wr (.slice ovp (svcsOf (T.take k)).length ovc) (svcsOf (T.take k))) := Lib.hid (HBR4.out.below HMd.out.bel)
                        obtain ⟨xs, hro, hen⟩ := HRb.out
                        have HO := Lib.hid hro
                        have HE := Lib.hid hen
                        clear hq2 hro hen
                        go_wp2_with (at_builtin; refine wpList_append_own _ rfl _ _ 28 rfl w2.heap.size 40 i9 (.agg #[.slice none 0 0, .int .i64 0, .string ⟨#[]⟩]) 3 48 Try.underlying28 hi hz0 hz1 hz2 rfl (by decide) _ _ _ rfl (World.ownsRow.alloc HO.out _) ⟨wr.heap.size, 0, none⟩ 1 1 [.slice np L.length nc, .int .i64 num, .string ⟨(pb.map low).toArray⟩] rfl rfl (new_cells3 _ _ _ _ _) (by simp [Value.oneCell']) (by unfold maxLen; omega) (by omega) (by have := HBq.out.size; show w2.heap.size ≤ (wr.heap.push _).size; simp; omega) ?_; intro v' w9 hown9 hg9 _)
                        go_roundw
                        case rel =>
                          refine ⟨k + 1, hlt, by go_num, ?_, (HBq.out.alloc HBq.out.size _).grown hg9 (by have := HBq.out.size; show w2.heap.size ≤ (wr.heap.push _).size; simp; omega) (fun g hg => (HO.out.lt g hg).1)⟩
                          rw [HYes.out, HL.out]
                          exact SvcsC.push (World.ownsRow.alloc HO.out _) (fun i f n p h => by obtain ⟨⟨wv, x2, x3⟩, x4, x5⟩ := HE.out i f n p h; exact ⟨⟨wv, x2, World.ownsRow.alloc x3 _⟩, x4, x5⟩) (World.ownsRow.alloc (own_base HMd.out.names HBW.out.size) _) hown9 hg9
                        case measure => simp [intOf]; omega
              · have hok' : ok = false := by simpa using hok
                have HNo := skip (none_of (fun e => hok e.2.1))
                rw [hpr] at HPr
                clear skip none_of hrow hpr HStep hsx HFo
                subst hok'
                go_wp2_with (first | (go_at_call 23; refine (HX.out _).mono ?_; rintro e w3 ⟨rfl, hw⟩; obtain rfl := hw.symm) | (go_at_call 24; refine (HSp2.out _).mono ?_; rintro e w4 ⟨g4, c4, rfl, hc4, hg4, hx4, hy4, hb4⟩) | (go_at_call 25; refine (HPr.out _).mono ?_; rintro e w5 ⟨rfl, hw⟩; obtain rfl := hw) | (go_at_call 26; refine (HNu.out _).mono ?_; rintro e w6 ⟨rfl, hw⟩; obtain rfl := hw.symm))
                go_roundw
                case rel => exact ⟨k + 1, hlt, by go_num, by rw [HNo.out]; exact HR.out.below hb4, HBr.out.trans (hb4.mono HBr.out.size)⟩
                case measure => simp [intOf]; omega
            · have hpr' : protoB pb = false := by simpa using hpr
              have HNo := skip (none_of (fun e => hpr e.1))
              rw [hpr'] at HPr
              clear skip none_of hrow hpr HStep hsx HFo HNu
              go_wp2_with (first | (go_at_call 23; refine (HX.out _).mono ?_; rintro e w3 ⟨rfl, hw⟩; obtain rfl := hw.symm) | (go_at_call 24; refine (HSp2.out _).mono ?_; rintro e w4 ⟨g4, c4, rfl, hc4, hg4, hx4, hy4, hb4⟩) | (go_at_call 25; refine (HPr.out _).mono ?_; rintro e w5 ⟨rfl, hw⟩; obtain rfl := hw))
              go_roundw
              case rel => exact ⟨k + 1, hlt, by go_num, by rw [HNo.out]; exact HR.out.below hb4, HBr.out.trans (hb4.mono HBr.out.size)⟩
              case measure => simp [intOf]; omega
          · have HNo := skip (by rw [hrow, place_none y (by rw [hL]; exact hL2)]; rfl)
            have hL2i : ¬ (L.length : Int) = 2 := by omega
            clear skip hrow HStep hsx hL
            go_wp2_with (first | (go_at_call 23; refine (HX.out _).mono ?_; rintro e w3 ⟨rfl, hw⟩; obtain rfl := hw.symm) | (go_at_call 24; refine (HSp.out _).mono ?_; rintro e w4 ⟨v4, rfl, hv4, hb4⟩; obtain ⟨p4, c4, rfl⟩ := StrC.shape hv4))
            go_roundw
            case rel => exact ⟨k + 1, hlt, by go_num, by rw [HNo.out]; exact HR.out.below hb4, HBr.out.trans (hb4.mono HBr.out.size)⟩
            case measure => simp [intOf]; omega
        · have hsx' : svcB x = false := by simpa using hsx
          rw [if_neg hsx] at hrow
          have HNo := skip (by rw [hrow]; rfl)
          rw [hsx'] at HX
          clear skip hrow HStep hsx hsx' HSp
          go_wp2_with (go_at_call 23; refine (HX.out _).mono ?_; rintro e w3 ⟨rfl, hw⟩; obtain rfl := hw.symm)
          go_roundw
          case rel => exact ⟨k + 1, hlt, by go_num, by rw [HNo.out]; exact HR.out, HBr.out⟩
          case measure => simp [intOf]; omega
    · obtain rfl : k = T.length := by omega
      rw [List.take_length] at hR
      have HR := Lib.hid hR
      clear hR
      go_wp2
      go_ret
      exact ⟨_, rfl, own_svcs HR.out HB2.out.size, HB2.out.trans (hbr.mono HB2.out.size)⟩
theorem services_any (a : Option Addr) (n c : Nat) (l : List UInt8) (w : World) (h : BA w a n c l) (hold : ∀ x, a = some x → x.block < w.heap.size) (hn : n ≤ 100000) :
    Calls Try.prog 10 #[.slice a n c] w (SvcsR w (svcsOf (toldG 1 [] l))) := by
  have hlen := h.len
  obtain ⟨hfine, hfew⟩ := toldG_fine l 1 []
  exact services_core a n c (toldG 1 [] l) w hfine (by omega) (rlines_any a n c l w h hold (by omega))
end Go.Proofs.Ytmnahgeledddhaa
