/- Contract of Decode. -/
import Derived.Test.YtepfeekfglpjoaaDoorWsCa
import Derived.Laws.ResultCell
import Derived.Laws.Rows
namespace Go.Wi
open Go.RowKit
def decW (l : List UInt8) : Option Msg := if l.length ≤ 4096 then msgW l else none
theorem results_row2 {P : Program} {fn : Func} {p u : Tmp} {ty : TypeId} (h : fn.results = #[.cell p ty, .tmp u]) (tmps : Array Value) (w : World) (g : Nat) (t : TypeId) (cs : Array Value) (fr : Nat × Nat) (d : TypeDesc)
    (hp : tmps.getD p undef = .pointer (some ⟨g, 0, none⟩)) (hg : w.heap[g]? = some (.cells cs t fr))
    (hu : P.underlying ty = some d) (hd : (match d with | .struct _ | .array _ _ => true | _ => false) = true) (hi : (P.info? ty).map (·.size) = some cs.size) :
    (results fn tmps).run P w = .ok (.tuple #[.agg cs, tmps.getD u undef]) w := by
  rw [results_cell_tmp h, hp]
  simp [asAddr, run_loadVar_row w g t ty cs fr d hg hu hd hi, Result.andThen]
end Go.Wi
namespace Go.Proofs.YtepfeekfglpjoaaDoor
open Go.RowKit Go.Lib Go.Wi Go.Tx
def zMsg : Array Value := #[.int .i64 0, .bool false, .bool false, .bool false, .int .i64 0, .string ⟨#[]⟩, .int .i64 0, .slice none 0 0]
abbrev badV : Value := .iface 53 (.int .i64 8)
def DecR (w : World) (l : List UInt8) (e : Ending) (w' : World) : Prop :=
  Below w.heap.size w w' ∧ match decW l with
    | some M => ∃ v, e = .returned (.tuple #[M.val v, .nilIface]) ∧ RecC w.heap.size w' v M.recs
    | none => e = .returned (.tuple #[.agg zMsg, badV])
theorem cell_of {W : World} {b : Nat} {arr : Array Value} {e : TypeId} {fr : Nat × Nat} (h : W.heap[b]? = some (.cells arr e fr)) {j : Nat} {v : Value} (hj : arr[j]? = some v) : W.cell? ⟨b, j, none⟩ = some v := by simp [World.cell?, h, hj]
theorem free_of {W : World} {b : Nat} {arr : Array Value} {e : TypeId} (h : W.heap[b]? = some (.cells arr e (0, 0))) (j : Nat) : W.frozen? ⟨b, j, none⟩ = false := by simp [World.frozen?, h]
def set8 (w : World) (b : Nat) (x0 x1 x2 x3 x4 x5 x6 x7 : Value) : World :=
  (((((((w.setCell ⟨b, 0, none⟩ x0).setCell ⟨b, 1, none⟩ x1).setCell ⟨b, 2, none⟩ x2).setCell ⟨b, 3, none⟩ x3).setCell ⟨b, 4, none⟩ x4).setCell ⟨b, 5, none⟩ x5).setCell ⟨b, 6, none⟩ x6).setCell ⟨b, 7, none⟩ x7
section
variable {w : World} {b : Nat} {x0 x1 x2 x3 x4 x5 x6 x7 : Value}
theorem zset : (((((((zMsg.setIfInBounds 0 x0).setIfInBounds 1 x1).setIfInBounds 2 x2).setIfInBounds 3 x3).setIfInBounds 4 x4).setIfInBounds 5 x5).setIfInBounds 6 x6).setIfInBounds 7 x7 = #[x0, x1, x2, x3, x4, x5, x6, x7] := by
  unfold zMsg
  simp
theorem set8_at (h : At8 w b zMsg) : At8 (set8 w b x0 x1 x2 x3 x4 x5 x6 x7) b #[x0, x1, x2, x3, x4, x5, x6, x7] := by
  have h1 := h.set 0 x0
  have h2 := h1.set 1 x1
  have h3 := h2.set 2 x2
  have h4 := h3.set 3 x3
  have h5 := h4.set 4 x4
  have h6 := h5.set 5 x5
  have h7 := h6.set 6 x6
  have h8 := h7.set 7 x7
  rw [zset] at h8
  exact h8
theorem below_set1 {B : Nat} {a w : World} {b : Nat} (h : Below B a w) (hb : B ≤ b) (k : Nat) (x : Value) : Below B a (w.setCell ⟨b, k, none⟩ x) :=
  ⟨h.os, h.tape, h.output, by have := h.size; show a.heap.size ≤ (w.heap.modify _ _).size; simpa using this, fun j hj => by
    show (w.heap.modify b _)[j]? = _
    rw [Array.getElem?_modify, if_neg (by omega)]; exact h.block j hj⟩
theorem below_set8 {B : Nat} {a : World} (h : Below B a w) (hb : B ≤ b) : Below B a (set8 w b x0 x1 x2 x3 x4 x5 x6 x7) := by
  have h1 := below_set1 h hb 0 x0
  have h2 := below_set1 h1 hb 1 x1
  have h3 := below_set1 h2 hb 2 x2
  have h4 := below_set1 h3 hb 3 x3
  have h5 := below_set1 h4 hb 4 x4
  have h6 := below_set1 h5 hb 5 x5
  have h7 := below_set1 h6 hb 6 x6
  exact below_set1 h7 hb 7 x7
theorem own_set1 {B n : Nat} {e : TypeId} {size : Nat} {v : Value} {xs : List Value} {w : World} {b : Nat} (h : w.ownsRow B e size v n xs) (hb : b < B) (k : Nat) (x : Value) : (w.setCell ⟨b, k, none⟩ x).ownsRow B e size v n xs := own_same h fun j hj => by
  show (w.heap.modify b _)[j]? = _
  rw [Array.getElem?_modify, if_neg (by omega)]
theorem own_set8 {B n : Nat} {e : TypeId} {size : Nat} {v : Value} {xs : List Value} (h : w.ownsRow B e size v n xs) (hb : b < B) : (set8 w b x0 x1 x2 x3 x4 x5 x6 x7).ownsRow B e size v n xs := by
  have h1 := own_set1 h hb 0 x0
  have h2 := own_set1 h1 hb 1 x1
  have h3 := own_set1 h2 hb 2 x2
  have h4 := own_set1 h3 hb 3 x3
  have h5 := own_set1 h4 hb 4 x4
  have h6 := own_set1 h5 hb 5 x5
  have h7 := own_set1 h6 hb 6 x6
  exact own_set1 h7 hb 7 x7
end
theorem slice_of {B : Nat} {w : World} {v : Value} {rs : List Rec} (h : RecC B w v rs) : ∃ q c, v = .slice q rs.length c := by
  rcases h.2 with ⟨e1, e2⟩ | ⟨g, cap, cur, e1, _⟩
  · exact ⟨none, 0, by rw [e1, e2]⟩
  · exact ⟨_, _, e1⟩
set_option maxHeartbeats 2000000 in
set_option maxRecDepth 100000 in
theorem decode_any (a : Option Addr) (n c : Nat) (l : List UInt8) (w : World) (h : BA w a n c l) (hold : ∀ x, a = some x → x.block < w.heap.size) (hm : MaxAt w) :
    Calls Tryd.prog 13 #[.slice a n c] w (DecR w l) := by
  have hl := h.len
  by_cases hn : n ≤ 4096
  · have hni : ¬ (4096 : Int) < (n : Int) := by omega
    have hs1 : (w.alloc (.cells zMsg 26)).heap.size = w.heap.size + 1 := by show (w.heap.push _).size = _; simp
    have hb1 : Below w.heap.size w ((w.alloc (.cells zMsg 26)).alloc (.cells #[.slice a n c, .int .i64 0, .bool false] 59)) := ((Below.refl _ _).alloc (Nat.le_refl _) _).alloc (by rw [hs1]; omega) _
    have hA0 : At8 ((w.alloc (.cells zMsg 26)).alloc (.cells #[.slice a n c, .int .i64 0, .bool false] 59)) w.heap.size zMsg := At8.alloc (show At8 (w.alloc (.cells zMsg 26)) w.heap.size zMsg from heap_alloc_new w _) _
    have hp := heap_alloc_new (w.alloc (.cells zMsg 26)) (.cells #[.slice a n c, .int .i64 0, .bool false] 59)
    rw [hs1] at hp
    have hRD : RD ((w.alloc (.cells zMsg 26)).alloc (.cells #[.slice a n c, .int .i64 0, .bool false] 59)) (w.heap.size + 1) a n c l 0 false :=
      ⟨(Array.getElem?_eq_some_iff.1 hp).1, cell_of hp rfl, cell_of hp rfl, cell_of hp rfl, free_of hp 1, free_of hp 2,
        h.kp (p := w.heap.size + 1) (Kp.of hb1) (fun x hx => ⟨hold x hx, by have := hold x hx; omega⟩), fun x hx => ⟨Nat.lt_of_lt_of_le (hold x hx) hb1.size, by have := hold x hx; omega⟩⟩
    have HMs := Lib.hid (message_any _ (w.heap.size + 1) a n c l hRD hn (hm.below hb1) (by omega))
    have HD : Hid (decW l = msgW l) := Lib.hid (by unfold decW; rw [if_pos (by omega)])
    have HA0 := Lib.hid hA0
    have HB1 := Lib.hid hb1
    have hp1 : w.heap.size ≠ w.heap.size + 1 := by omega
    unfold zMsg at HMs HA0 HB1
    clear hRD hp hA0 hb1 h hold hs1
    unfold MsgR at HMs
    cases hw : msgW l with
    | some M =>
      rw [hw] at HMs HD
      clear hw
      go_enter Tryd.func13, Tryd.ntmps13
      go_upto_region 5 with (go_at_call 23; refine HMs.out.mono ?_; rintro e w2 ⟨hK, ⟨v, rfl, hrc⟩, i, hR⟩; obtain ⟨vq, vc, rfl⟩ := slice_of hrc; unfold Msg.val)
      have HA2 : Hid (At8 (w2.alloc (.cells #[.int .i64 (M.id : Int), .bool M.reply, .bool M.cut, .bool M.want, .int .i64 (M.code : Int), .string ⟨M.name.toArray⟩, .int .i64 (M.kind : Int), .slice vq M.recs.length vc] 26)) w.heap.size zMsg) := Lib.hid ((HA0.out.kp hK hp1).alloc _)
      have hbW := HB1.out.size
      have hp2 : w.heap.size + 1 < w2.heap.size := hR.lt
      have hcb : w2.cell? ⟨w.heap.size + 1, 2, none⟩ = some (.bool false) := hR.c2
      have hcb2 : (w2.alloc (.cells #[.int .i64 (M.id : Int), .bool M.reply, .bool M.cut, .bool M.want, .int .i64 (M.code : Int), .string ⟨M.name.toArray⟩, .int .i64 (M.kind : Int), .slice vq M.recs.length vc] 26)).cell? ⟨w.heap.size + 1, 2, none⟩ = some (.bool false) := by rw [((Below.refl w2.heap.size w2).alloc (Nat.le_refl _) _).cell (p := ⟨w.heap.size + 1, 2, none⟩) hp2]; exact hcb
      have hbel : Below w.heap.size w (w2.alloc (.cells #[.int .i64 (M.id : Int), .bool M.reply, .bool M.cut, .bool M.want, .int .i64 (M.code : Int), .string ⟨M.name.toArray⟩, .int .i64 (M.kind : Int), .slice vq M.recs.length vc] 26)) := by
        have h1 := HB1.out.trans (hK.below (B := w.heap.size) (by omega) hbW)
        exact h1.alloc h1.size _
      have HBel := Lib.hid hbel
      have HRc := Lib.hid (World.ownsRow.alloc hrc (.cells #[.int .i64 (M.id : Int), .bool M.reply, .bool M.cut, .bool M.want, .int .i64 (M.code : Int), .string ⟨M.name.toArray⟩, .int .i64 (M.kind : Int), .slice vq M.recs.length vc] 26))
      have d0 := HA2.out.cell (j := 0) rfl
      have d1 := HA2.out.cell (j := 1) rfl
      have d2 := HA2.out.cell (j := 2) rfl
      have d3 := HA2.out.cell (j := 3) rfl
      have d4 := HA2.out.cell (j := 4) rfl
      have d5 := HA2.out.cell (j := 5) rfl
      have d6 := HA2.out.cell (j := 6) rfl
      have d7 := HA2.out.cell (j := 7) rfl
      have e0 := HA2.out.free 0
      have e1 := HA2.out.free 1
      have e2 := HA2.out.free 2
      have e3 := HA2.out.free 3
      have e4 := HA2.out.free 4
      have e5 := HA2.out.free 5
      have e6 := HA2.out.free 6
      have e7 := HA2.out.free 7
      clear hK hR hrc hbel
      go_wp2
      refine bodyPost_ret (results_row2 rfl _ _ _ _ _ _ _ rfl (set8_at HA2.out) Tryd.underlying26 rfl (by kernel_rfl)) rfl ?_
      refine ⟨below_set8 HBel.out (Nat.le_refl _), ?_⟩
      rw [HD.out]
      exact ⟨_, rfl, own_lower (own_set8 HRc.out (by omega)) (by omega)⟩
    | none =>
      rw [hw] at HMs HD
      clear hw
      go_enter Tryd.func13, Tryd.ntmps13
      go_upto_region 5 with (go_at_call 23; refine HMs.out.mono ?_; rintro e w2 ⟨hK, ⟨i1, q1, q2, q3, k1, m1, t1, v, rs, rfl, hrc⟩, i, hR⟩; obtain ⟨vq, vc, rfl⟩ := slice_of hrc)
      have HA2 : Hid (At8 (w2.alloc (.cells #[.int .i64 (i1 : Int), .bool q1, .bool q2, .bool q3, .int .i64 (k1 : Int), .string m1, .int .i64 (t1 : Int), .slice vq rs.length vc] 26)) w.heap.size zMsg) := Lib.hid ((HA0.out.kp hK hp1).alloc _)
      have hbW := HB1.out.size
      have hp2 : w.heap.size + 1 < w2.heap.size := hR.lt
      have hcb : w2.cell? ⟨w.heap.size + 1, 2, none⟩ = some (.bool true) := hR.c2
      have hcb2 : (w2.alloc (.cells #[.int .i64 (i1 : Int), .bool q1, .bool q2, .bool q3, .int .i64 (k1 : Int), .string m1, .int .i64 (t1 : Int), .slice vq rs.length vc] 26)).cell? ⟨w.heap.size + 1, 2, none⟩ = some (.bool true) := by rw [((Below.refl w2.heap.size w2).alloc (Nat.le_refl _) _).cell (p := ⟨w.heap.size + 1, 2, none⟩) hp2]; exact hcb
      have hbel : Below w.heap.size w (w2.alloc (.cells #[.int .i64 (i1 : Int), .bool q1, .bool q2, .bool q3, .int .i64 (k1 : Int), .string m1, .int .i64 (t1 : Int), .slice vq rs.length vc] 26)) := by
        have h1 := HB1.out.trans (hK.below (B := w.heap.size) (by omega) hbW)
        exact h1.alloc h1.size _
      have HBel := Lib.hid hbel
      have HRc := Lib.hid (World.ownsRow.alloc hrc (.cells #[.int .i64 (i1 : Int), .bool q1, .bool q2, .bool q3, .int .i64 (k1 : Int), .string m1, .int .i64 (t1 : Int), .slice vq rs.length vc] 26))
      have d0 := HA2.out.cell (j := 0) rfl
      have d1 := HA2.out.cell (j := 1) rfl
      have d2 := HA2.out.cell (j := 2) rfl
      have d3 := HA2.out.cell (j := 3) rfl
      have d4 := HA2.out.cell (j := 4) rfl
      have d5 := HA2.out.cell (j := 5) rfl
      have d6 := HA2.out.cell (j := 6) rfl
      have d7 := HA2.out.cell (j := 7) rfl
      have e0 := HA2.out.free 0
      have e1 := HA2.out.free 1
      have e2 := HA2.out.free 2
      have e3 := HA2.out.free 3
      have e4 := HA2.out.free 4
      have e5 := HA2.out.free 5
      have e6 := HA2.out.free 6
      have e7 := HA2.out.free 7
      clear hK hR hrc hbel
      go_wp2
      refine bodyPost_ret (results_row2 rfl _ _ _ _ _ _ _ rfl (set8_at HA2.out) Tryd.underlying26 rfl (by kernel_rfl)) rfl ?_
      refine ⟨below_set8 HBel.out (Nat.le_refl _), ?_⟩
      rw [HD.out]
      rfl
  · have hni : (4096 : Int) < (n : Int) := by omega
    have HD : Hid (decW l = none) := Lib.hid (by unfold decW; rw [if_neg (by omega)])
    have hnew := heap_alloc_new w (.cells zMsg 26)
    unfold zMsg at hnew
    clear h hold
    go_enter Tryd.func13, Tryd.ntmps13
    go_wp2
    refine bodyPost_ret (results_row2 rfl _ _ _ _ _ _ _ rfl hnew Tryd.underlying26 rfl (by kernel_rfl)) rfl ?_
    refine ⟨(Below.refl _ _).alloc (Nat.le_refl _) _, ?_⟩
    rw [HD.out]
    rfl
end Go.Proofs.YtepfeekfglpjoaaDoor
