/- Contracts and plain facts that the law leans on. -/
import Derived.Test.YtepfeekfglpjoaaDoorYpM
namespace Go.Wi
theorem wordB_map (n : Int) (h0 : 0 ≤ n) (h1 : n ≤ 65535) : (wordB n).map u8V = [.int .u8 (n / 256), .int .u8 (n % 256)] := by
  unfold wordB
  simp only [List.map_cons, List.map_nil, u8V]
  rw [UInt8.toNat_ofNat_of_lt' (by show (n / 256 % 256).toNat < 256; omega), UInt8.toNat_ofNat_of_lt' (by show (n % 256).toNat < 256; omega)]
  have e1 : (((n / 256 % 256).toNat : Nat) : Int) = n / 256 := by omega
  have e2 : (((n % 256).toNat : Nat) : Int) = n % 256 := by omega
  rw [e1, e2]
theorem lifeB_two (t : Int) (_h0 : 0 ≤ t) (_h1 : t ≤ 2147483647) : lifeB t = wordB (t / 65536) ++ wordB (t % 65536) := by
  unfold lifeB wordB
  have e1 : t / 16777216 % 256 = t / 65536 / 256 % 256 := by omega
  have e2 : t / 256 % 256 = t % 65536 / 256 % 256 := by omega
  have e3 : t % 256 = t % 65536 % 256 := by omega
  rw [e1, e2, e3]
  rfl
end Go.Wi
namespace Go.Proofs.YtepfeekfglpjoaaDoor
open Go.RowKit Go.Lib Go.Wi Go.Tx
/-- A fresh row of bytes, as a value of the call's own. -/
theorem own_fresh (w : World) (l : List UInt8) (cells : Array Value) (hc : cells.toList = l.map u8V) (hl : l.length ≤ 1000) : OwnB w.heap.size (w.alloc (.cells cells 5)) (.slice (some ⟨w.heap.size, 0, none⟩) l.length l.length) l := by
  refine ⟨by simp, .inr ⟨w.heap.size, l.length, cells, rfl, Nat.le_refl _, heap_alloc_new w _, Nat.le_refl _, by unfold maxLen; omega, ?_, ?_⟩⟩
  · rw [← Array.length_toList, hc, List.length_map, Nat.mul_one]
  · rw [hc, Nat.mul_one]
    exact List.take_of_length_le (by rw [List.length_map]; exact Nat.le_refl _)
/-- What a piece of Encode leaves: bytes of the call's own, nothing elder touched. -/
def Acc (B : Nat) (w : World) (L : List UInt8) (v : Value) (w' : World) : Prop := OwnB B w' v L ∧ Below B w w'
set_option maxHeartbeats 2000000 in
set_option maxRecDepth 100000 in
theorem rencode_none (i c k : Int) (r q x : Bool) (n : ByteArray) (rv : Value) (rs : List WRec) (w : World) (hrs : RowsAt w rv rs) (hn : n.size ≤ 1000000) (hnd : ∀ r ∈ rs, r.name.size ≤ 1000000 ∧ r.data.size ≤ 1000000) (hno : mayB i c n.data.toList k rs = false) :
    Calls Tryd.prog 10 #[.agg #[.int .i64 i, .bool r, .bool q, .bool x, .int .i64 c, .string n, .int .i64 k, rv]] w fun e w' => e = .returned (.slice none 0 0) ∧ Below w.heap.size w w' := by
  have HB1 : Hid (∀ o, Below w.heap.size w (w.alloc o)) := Lib.hid (fun o => (Below.refl _ _).alloc (Nat.le_refl _) o)
  have HMay : Hid (∀ o, Calls Tryd.prog 18 #[.agg #[.int .i64 i, .bool r, .bool q, .bool x, .int .i64 c, .string n, .int .i64 k, rv]] (w.alloc o) fun e w' => e = .returned (.bool false) ∧ Below (w.alloc o).heap.size (w.alloc o) w') := Lib.hid (fun o => hno ▸ may_any i c k r q x n rv rs (w.alloc o) (hrs.below (HB1.out o)) hn hnd)
  have hrv : ∃ a cc, rv = .slice a rs.length cc := by
    rcases hrs with ⟨e1, e2⟩ | ⟨g1, c1, e1, _⟩
    · exact ⟨none, 0, by rw [e1, e2]; rfl⟩
    · exact ⟨_, _, e1⟩
  obtain ⟨ra, rc, hrv⟩ := hrv
  subst hrv
  clear hrs hn hnd hno
  go_enter Tryd.func10, Tryd.ntmps10
  go_wp2_with (go_at_call 18; refine (HMay.out _).mono ?_; rintro e w1 ⟨rfl, hb1⟩; have HB2 := Lib.hid ((HB1.out _).trans (hb1.mono (HB1.out _).size)); clear hb1)
  go_ret
  exact ⟨rfl, HB2.out⟩
end Go.Proofs.YtepfeekfglpjoaaDoor

namespace Go.Proofs.YtepfeekfglpjoaaDoor
open Go.RowKit Go.Lib Go.Wi Go.Tx
theorem own_cat {B : Nat} {w : World} {v : Value} {L M : List UInt8} {cs : List Value} {z : Nat} (h : w.ownsRow B 5 1 v (L.length + z) (L.map u8V ++ cs)) (hz : z = M.length) (hc : cs = M.map u8V) : OwnB B w v (L ++ M) := by
  unfold OwnB
  rw [List.length_append, List.map_append, ← hc, ← hz]
  exact h
theorem own_low {B B' : Nat} {w : World} {v : Value} {l : List UInt8} (h : OwnB B' w v l) (hb : B ≤ B') : OwnB B w v l := by
  refine ⟨h.1, ?_⟩
  rcases h.2 with q | ⟨g, cap, cur, q1, q2, q3⟩
  · exact .inl q
  · exact .inr ⟨g, cap, cur, q1, Nat.le_trans hb q2, q3⟩
/-- Behind an append to bytes of the call's own (the source lying in a new block). -/
theorem acc_step {B : Nat} {w W w5 : World} {v v5 : Value} {L M : List UInt8} {cs : List Value} {z : Nat} {o : Obj} (hA : Acc B w L v W) (h : w5.ownsRow B 5 1 v5 (L.length + z) (L.map u8V ++ cs)) (hz : z = M.length) (hc : cs = M.map u8V) (hg : (W.alloc o).grownBy w5 v.ownBlock) (hB : B ≤ W.heap.size) : Acc B w (L ++ M) v5 w5 ∧ B ≤ w5.heap.size := by
  have hs : (W.alloc o).heap.size = W.heap.size + 1 := by show (W.heap.push _).size = _; simp
  refine ⟨⟨own_cat h hz hc, (hA.2.alloc hB o).grown hg (by omega) (fun g hg => (World.ownsRow.lt hA.1 g hg).1)⟩, ?_⟩
  have := hg.size
  omega
theorem acc_step0 {B : Nat} {w W w5 : World} {v v5 : Value} {L M : List UInt8} {cs : List Value} {z : Nat} (hA : Acc B w L v W) (h : w5.ownsRow B 5 1 v5 (L.length + z) (L.map u8V ++ cs)) (hz : z = M.length) (hc : cs = M.map u8V) (hg : W.grownBy w5 v.ownBlock) (hB : B ≤ W.heap.size) : Acc B w (L ++ M) v5 w5 ∧ B ≤ w5.heap.size :=
  ⟨⟨own_cat h hz hc, hA.2.grown hg hB (fun g hg => (World.ownsRow.lt hA.1 g hg).1)⟩, Nat.le_trans hB hg.size⟩
end Go.Proofs.YtepfeekfglpjoaaDoor

