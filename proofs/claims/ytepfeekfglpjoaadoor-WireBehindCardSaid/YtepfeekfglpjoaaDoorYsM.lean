/- The document's Encode where May holds. -/
import Derived.Test.YtepfeekfglpjoaaDoorWsCd
namespace Go.Wi
def fS (c : Int) (r q x : Bool) : Int := c + (if r then 32768 else 0) + (if q then 512 else 0) + (if x then 256 else 0)
theorem fS_flag (c : Int) (r q x : Bool) (h0 : 0 ≤ c) (h1 : c ≤ 15) : flagV c r q x = fS c r q x := by
  have h := flagV_small ⟨c.toNat, by omega⟩ r q x
  have e : ((c.toNat : Nat) : Int) = c := by omega
  rw [show ((⟨c.toNat, by omega⟩ : Fin 16).val : Int) = c from e] at h
  rw [h]
  unfold flagS fS
  show ((c.toNat : Nat) : Int) + _ + _ + _ = _
  rw [e]
theorem fS_small (c : Int) (r q x : Bool) (h0 : 0 ≤ c) (h1 : c ≤ 15) : 0 ≤ fS c r q x ∧ fS c r q x ≤ 65535 := by
  unfold fS
  cases r <;> cases q <;> cases x <;> simp <;> omega
theorem head8 (m : Nat) (hm : m ≤ 32) : [Value.int .u8 0, .int .u8 1, .int .u8 0, .int .u8 (m : Int), .int .u8 0, .int .u8 0, .int .u8 0, .int .u8 0] = (wordB 1 ++ wordB m ++ wordB 0 ++ wordB 0).map u8V := by
  rw [List.map_append, List.map_append, List.map_append, wordB_map 1 (by omega) (by omega), wordB_map m (by omega) (by omega), wordB_map 0 (by omega) (by omega)]
  have e1 : (m : Int) / 256 = 0 := by omega
  have e2 : (m : Int) % 256 = m := by omega
  rw [e1, e2]
  rfl
theorem encV_ok (l : List UInt8) (h : okS l = true) : encV l = .tuple #[.string ⟨(codS l).toArray⟩, .bool true] := by
  unfold okS at h
  rw [Bool.and_eq_true, decide_eq_true_eq] at h
  rw [encV_S, h.1]
  unfold codS
  rw [h.2]
end Go.Wi
namespace Go.Proofs.YtepfeekfglpjoaaDoor
open Go.RowKit Go.Lib Go.Wi Go.Tx
/-- What the document's Encode answers where May holds: the message's bytes; none, if they are too many. -/
def REncR (w : World) (i c : Int) (r q x : Bool) (n : List UInt8) (k : Int) (rs : List WRec) (e : Ending) (w' : World) : Prop :=
  Below w.heap.size w w' ∧ if (msgB i c r q x n k rs).length ≤ 4096 then ∃ v, e = .returned v ∧ OwnB w.heap.size w' v (msgB i c r q x n k rs) else e = .returned (.slice none 0 0)
/-- Block q holds a record's cells: an append to bytes of the call's own leaves it. -/
def Q4 (w : World) (q : Nat) (arr : Array Value) : Prop := w.heap[q]? = some (.cells arr 48 (0, 0))
theorem Q4.lt {w : World} {q : Nat} {arr : Array Value} (h : Q4 w q arr) : q < w.heap.size := (Array.getElem?_eq_some_iff.1 h).1
theorem Q4.cell {w : World} {q : Nat} {arr : Array Value} (h : Q4 w q arr) {j : Nat} {v : Value} (hj : arr[j]? = some v) : w.cell? ⟨q, j, none⟩ = some v := by unfold Q4 at h; simp [World.cell?, h, hj]
theorem Q4.bel {w w' : World} {q : Nat} {arr : Array Value} (h : Q4 w q arr) (hb : Below w.heap.size w w') : Q4 w' q arr := by
  unfold Q4; rw [hb.block q h.lt]; exact h
theorem Q4.alloc {w : World} {q : Nat} {arr : Array Value} (h : Q4 w q arr) (o : Obj) : Q4 (w.alloc o) q arr := h.bel ((Below.refl _ _).alloc (Nat.le_refl _) _)
theorem Q4.grown {w w' : World} {q B n : Nat} {arr : Array Value} {v : Value} {xs : List Value} (h : Q4 w q arr) (ho : w.ownsRow B 5 1 v n xs) (hg : w.grownBy w' v.ownBlock) : Q4 w' q arr := by
  unfold Q4
  rw [hg.block q h.lt (fun e => by
    rcases ho.2 with ⟨a, b⟩ | ⟨g, cap, cur, a, a2, a3, a4⟩
    · rw [a] at e; cases e
    · rw [a] at e
      have eg : q = g := by injection e
      subst eg
      unfold Q4 at h
      rw [h] at a3
      injection a3 with a3
      injection a3 with _ a5
      exact absurd a5 (by decide))]
  exact h
set_option maxHeartbeats 4000000 in
set_option maxRecDepth 100000 in
theorem rencode_some (i c k : Int) (r q x : Bool) (n : ByteArray) (rv : Value) (rs : List WRec) (w : World) (hrs : RowsAt w rv rs) (hn : n.size ≤ 1000000) (hnd : ∀ r ∈ rs, r.name.size ≤ 1000000 ∧ r.data.size ≤ 1000000) (hyes : mayB i c n.data.toList k rs = true)
    (i0 : 0 ≤ i) (i1 : i ≤ 65535) (c0 : 0 ≤ c) (c1 : c ≤ 15) (k0 : 1 ≤ k) (k1 : k ≤ 65535) (m1 : rs.length ≤ 32) (okn : okS n.data.toList = true) :
    Calls Tryd.prog 10 #[.agg #[.int .i64 i, .bool r, .bool q, .bool x, .int .i64 c, .string n, .int .i64 k, rv]] w (REncR w i c r q x n.data.toList k rs) := by
  obtain ⟨i8, hi, hz0, hz1, hz2⟩ := info_parts infoU8
  have HB1 : Hid (∀ o, Below w.heap.size w (w.alloc o)) := Lib.hid (fun o => (Below.refl _ _).alloc (Nat.le_refl _) o)
  have HMay : Hid (∀ o, Calls Tryd.prog 18 #[.agg #[.int .i64 i, .bool r, .bool q, .bool x, .int .i64 c, .string n, .int .i64 k, rv]] (w.alloc o) fun e w' => e = .returned (.bool true) ∧ Below (w.alloc o).heap.size (w.alloc o) w') := Lib.hid (fun o => hyes ▸ may_any i c k r q x n rv rs (w.alloc o) (hrs.below (HB1.out o)) hn hnd)
  have hrv : ∃ a cc, rv = .slice a rs.length cc := by
    rcases hrs with ⟨e1, e2⟩ | ⟨g1, c1, e1, _⟩
    · exact ⟨none, 0, by rw [e1, e2]; rfl⟩
    · exact ⟨_, _, e1⟩
  obtain ⟨ra, rc, hrv⟩ := hrv
  subst hrv
  obtain ⟨m, hml⟩ : ∃ m, rs.length = m := ⟨_, rfl⟩
  rw [hml] at HMay m1 ⊢
  have HBx : Hid (∀ W, Below (w.alloc (.cells #[.int .i64 i, .bool r, .bool q, .bool x, .int .i64 c, .string n, .int .i64 k, .slice ra m rc] 26)).heap.size (w.alloc (.cells #[.int .i64 i, .bool r, .bool q, .bool x, .int .i64 c, .string n, .int .i64 k, .slice ra m rc] 26)) W → ∀ j y, (#[.int .i64 i, .bool r, .bool q, .bool x, .int .i64 c, .string n, .int .i64 k, .slice ra m rc] : Array Value)[j]? = some y → W.cell? ⟨w.heap.size, j, none⟩ = some y) := Lib.hid (fun W h j y hy => by
    have e2 := World.cell?_alloc_new w #[.int .i64 i, .bool r, .bool q, .bool x, .int .i64 c, .string n, .int .i64 k, .slice ra m rc] 26 j
    rw [hy] at e2
    rw [← e2]
    unfold World.cell?
    rw [h.block w.heap.size (by show w.heap.size < (w.heap.push _).size; simp)])
  have hcl : (codS n.data.toList).length ≤ 65000 := encS_len _
  have HEn : Hid (∀ W, Calls Tryd.prog 20 #[.string n] W fun e w' => e = .returned (.tuple #[.string ⟨(codS n.data.toList).toArray⟩, .bool true]) ∧ Below W.heap.size W w') := Lib.hid (fun W => encV_ok _ okn ▸ rnencode_any n W hn)
  obtain ⟨C, hC⟩ : ∃ C, codS n.data.toList = C := ⟨_, rfl⟩
  rw [hC] at hcl HEn
  have HC := Lib.hid hC
  obtain ⟨nb, hnb⟩ : ∃ q : ByteArray, (⟨C.toArray⟩ : ByteArray) = q := ⟨_, rfl⟩
  rw [hnb] at HEn
  have hns : nb.size = C.length := by rw [← hnb]; show C.toArray.size = _; simp
  have HCc : Hid (strCells nb = C.map u8V) := Lib.hid (by unfold strCells; rw [← hnb]; rfl)
  have HRec : Hid (∀ j r, rs[j]? = some r → ∃ g, ra = some ⟨g, 0, none⟩ ∧ g < w.heap.size ∧ (w.cell? ⟨g, j * 4, none⟩ = some (.string r.name) ∧ w.cell? ⟨g, j * 4 + 1, none⟩ = some (.int .i64 r.kind) ∧ w.cell? ⟨g, j * 4 + 2, none⟩ = some (.int .i64 r.ttl) ∧ w.cell? ⟨g, j * 4 + 3, none⟩ = some (.string r.data)) ∧ okS r.name.data.toList = true ∧ 1 ≤ r.kind ∧ r.kind ≤ 65535 ∧ 0 ≤ r.ttl ∧ r.ttl ≤ 2147483647 ∧ datOK r.kind r.data.data.toList = true ∧ r.name.size ≤ 1000000 ∧ r.data.size ≤ 1000000) := Lib.hid (fun j r hj => by
    have hok : r.ok = true := by
      unfold mayB at hyes
      rw [Bool.and_eq_true] at hyes
      exact List.all_eq_true.1 hyes.2 r (List.mem_of_getElem? hj)
    unfold WRec.ok recOK subOK wordOK lifeOK at hok
    simp only [Bool.and_eq_true, decide_eq_true_eq] at hok
    obtain ⟨⟨⟨o1, o2, o3⟩, o4, o5⟩, o6⟩ := hok
    have hs := hnd r (List.mem_of_getElem? hj)
    rcases hrs with ⟨_, e2⟩ | ⟨g, cc, e1, hg, hr⟩
    · rw [e2] at hj; cases hj
    · injection e1 with e1 _ _
      exact ⟨g, e1, hg, hr j r hj, o1, o2, o3, o4, o5, o6, hs.1, hs.2⟩)
  have HMl := Lib.hid hml
  clear hrs hn hnd hyes hml hC hnb okn
  go_enter Tryd.func10, Tryd.ntmps10
  go_upto_if 18 with (go_at_call 18; refine (HMay.out _).mono ?_; rintro e w1 ⟨rfl, hb1⟩; have HB2 := Lib.hid hb1; have e0 := HBx.out _ hb1 0 _ rfl; have e1 := HBx.out _ hb1 1 _ rfl; have e2 := HBx.out _ hb1 2 _ rfl; have e3 := HBx.out _ hb1 3 _ rfl; have e4 := HBx.out _ hb1 4 _ rfl; clear hb1)
  go_cut [3] from 19 to 21 (fun fv wx => fv = .int .i64 (c + (if r then 32768 else 0)) ∧ wx = w1)
  case first =>
    cases r
    all_goals
      go_wp2
      go_meet
      exact ⟨by simp, rfl⟩
  case rest =>
  obtain ⟨rfl, hw⟩ := hcut
  replace hw := hw.symm
  subst hw
  obtain ⟨ca, hca⟩ : ∃ z, c + (if r then 32768 else 0) = z := ⟨_, rfl⟩
  have ca0 : 0 ≤ ca := by rw [← hca]; cases r <;> simp <;> omega
  have ca1 : ca ≤ 32783 := by rw [← hca]; cases r <;> simp <;> omega
  rw [hca]
  have HCa := Lib.hid hca
  clear hca
  go_upto_if 22 with (fail)
  go_cut [3] from 23 to 25 (fun fv wx => fv = .int .i64 (ca + (if q then 512 else 0)) ∧ wx = w1)
  case first =>
    cases q
    all_goals
      go_wp2
      go_meet
      exact ⟨by simp, rfl⟩
  case rest =>
  obtain ⟨rfl, hw⟩ := hcut
  replace hw := hw.symm
  subst hw
  obtain ⟨cb, hcb⟩ : ∃ z, ca + (if q then 512 else 0) = z := ⟨_, rfl⟩
  have cb0 : 0 ≤ cb := by rw [← hcb]; cases q <;> simp <;> omega
  have cb1 : cb ≤ 33295 := by rw [← hcb]; cases q <;> simp <;> omega
  rw [hcb]
  have Hcb := Lib.hid hcb
  clear hcb
  go_upto_if 26 with (fail)
  go_cut [3] from 27 to 29 (fun fv wx => fv = .int .i64 (cb + (if x then 256 else 0)) ∧ wx = w1)
  case first =>
    cases x
    all_goals
      go_wp2
      go_meet
      exact ⟨by simp, rfl⟩
  case rest =>
  obtain ⟨rfl, hw⟩ := hcut
  replace hw := hw.symm
  subst hw
  obtain ⟨f, hf⟩ : ∃ z, cb + (if x then 256 else 0) = z := ⟨_, rfl⟩
  have f0 : 0 ≤ f := by rw [← hf]; cases x <;> simp <;> omega
  have f1 : f ≤ 33551 := by rw [← hf]; cases x <;> simp <;> omega
  rw [hf]
  have Hf := Lib.hid hf
  clear hf
  have HFS : Hid (f = fS c r q x) := Lib.hid (by rw [← Hf.out, ← Hcb.out, ← HCa.out]; rfl)
  clear e1 e2 e3 e4 ca0 ca1 cb0 cb1
  have HA1 := Lib.hid (own_fresh w1 (wordB i) #[.int .u8 (i / 256), .int .u8 (i % 256)] (wordB_map i i0 i1).symm (by show 2 ≤ 1000; omega))
  have hs1 : (w1.alloc (.cells #[.int .u8 (i / 256), .int .u8 (i % 256)] 5)).heap.size = w1.heap.size + 1 := by show (w1.heap.push _).size = _; simp
  go_upto_region 11 with (first | (go_at_call 19; refine (rtwo_any _ _ (by omega) (by omega)).mono ?_; rintro e w2 ⟨rfl, rfl⟩) | (at_builtin; go_loud (refine wpList_append_own _ rfl _ _ 29 rfl w1.heap.size 5 i8 (.int .u8 0) 1 1 Tryd.underlying29 hi hz0 hz1 hz2 rfl (by decide) _ 2 ((wordB i).map u8V) rfl (World.ownsRow.alloc HA1.out _) ⟨w1.heap.size + 1, 0, none⟩ 2 2 [_, _] rfl rfl (by have h := cells_of (w1.alloc (.cells #[.int .u8 (i / 256), .int .u8 (i % 256)] 5)) #[.int .u8 (f / 256), .int .u8 (f % 256)] 5; rw [hs1] at h; exact h) (by simp [Value.oneCell']) (by unfold maxLen; omega) (by omega) (by show w1.heap.size ≤ ((w1.heap.push _).push _).size; simp; omega) ?_; intro v5 w5 hown5 hg5 _; have HO5 := Lib.hid hown5; have HG5 := Lib.hid hg5; clear hown5 hg5)))
  have H5 := Lib.hid (acc_step (w := w1) (M := wordB f) (L := wordB i) ⟨HA1.out, (Below.refl _ _).alloc (Nat.le_refl _) _⟩ HO5.out rfl (wordB_map f f0 (by omega)).symm HG5.out (by omega))
  have HAt : Hid (∀ W, Below w1.heap.size w1 W → ∀ j y, (#[.int .i64 i, .bool r, .bool q, .bool x, .int .i64 c, .string n, .int .i64 k, .slice ra m rc] : Array Value)[j]? = some y → W.cell? ⟨w.heap.size, j, none⟩ = some y) := Lib.hid (fun W h => HBx.out W (HB2.out.trans (h.mono HB2.out.size)))
  clear e0 HO5 HG5 HA1 hs1
  obtain ⟨L5, hL5⟩ : ∃ L, wordB i ++ wordB f = L := ⟨_, rfl⟩
  rw [hL5] at H5
  have hl5 : L5.length = 4 := by rw [← hL5]; rfl
  have HL5 := Lib.hid hL5
  clear hL5
  have e7 := HAt.out _ H5.out.1.2 7 _ rfl
  go_upto_region 12 with (at_builtin; go_loud (refine wpList_append_own _ rfl _ _ 29 rfl w1.heap.size 5 i8 (.int .u8 0) 1 1 Tryd.underlying29 hi hz0 hz1 hz2 rfl (by decide) _ _ _ rfl (World.ownsRow.alloc H5.out.1.1 _) ⟨w5.heap.size, 0, none⟩ 8 8 [_, _, _, _, _, _, _, _] rfl rfl (cells_of w5 _ _) (by simp [Value.oneCell']) (by unfold maxLen; omega) (by omega) (by have h := H5.out.2; show w1.heap.size ≤ (w5.heap.push _).size; simp; omega) ?_; intro v6 w6 hown hg _; have HO6 := Lib.hid hown; have HG6 := Lib.hid hg; clear hown hg))
  clear e7
  have hwl : ∀ z, (wordB z).length = 2 := fun _ => rfl
  have H6 := Lib.hid (acc_step (M := wordB 1 ++ wordB m ++ wordB 0 ++ wordB 0) H5.out.1 HO6.out rfl (head8 m m1) HG6.out H5.out.2)
  obtain ⟨L6, hL6⟩ : ∃ L, L5 ++ (wordB 1 ++ wordB m ++ wordB 0 ++ wordB 0) = L := ⟨_, rfl⟩
  rw [hL6] at H6
  have hl6 : L6.length ≤ 12 := by rw [← hL6]; simp only [List.length_append, hwl]; omega
  have HL6 := Lib.hid hL6
  clear hL6 HO6 HG6
  have e5 := HAt.out _ H6.out.1.2 5 _ rfl
  go_upto_region 13 with (go_at_call 20; refine (HEn.out _).mono ?_; rintro e wa ⟨rfl, hba⟩; have HBa := Lib.hid hba; clear hba)
  clear e5
  have H6a : Hid (Acc w1.heap.size w1 L6 v6 wa ∧ w1.heap.size ≤ wa.heap.size) := Lib.hid ⟨⟨own_below H6.out.1.1 HBa.out, H6.out.1.2.trans (HBa.out.mono H6.out.2)⟩, Nat.le_trans H6.out.2 HBa.out.size⟩
  go_upto_region 14 with (at_builtin; go_loud (refine wpList_append_own_string wa rfl _ _ 29 9 rfl w1.heap.size 5 i8 Tryd.underlying29 Tryd.underlying9 hi hz0 hz1 hz2 _ _ _ rfl H6a.out.1.1 nb rfl (by rw [hns]; unfold maxLen; omega) (by rw [hns]; omega) H6a.out.2 ?_; intro v7 w7 hown hg _; have HO7 := Lib.hid hown; have HG7 := Lib.hid hg; clear hown hg))
  have H7 := Lib.hid (acc_step0 (M := C) H6a.out.1 HO7.out hns HCc.out HG7.out H6a.out.2)
  obtain ⟨L7, hL7⟩ : ∃ L, L6 ++ C = L := ⟨_, rfl⟩
  rw [hL7] at H7
  have hl7 : L7.length ≤ 66000 := by rw [← hL7]; simp only [List.length_append]; omega
  have HL7 := Lib.hid hL7
  clear hL7 HO7 HG7
  have e6 := HAt.out _ H7.out.1.2 6 _ rfl
  go_upto_region 15 with (first | (go_at_call 19; refine (rtwo_any _ _ (by omega) (by omega)).mono ?_; rintro e w2 ⟨rfl, rfl⟩) | (at_builtin; go_loud (refine wpList_append_own _ rfl _ _ 29 rfl w1.heap.size 5 i8 (.int .u8 0) 1 1 Tryd.underlying29 hi hz0 hz1 hz2 rfl (by decide) _ _ _ rfl (World.ownsRow.alloc H7.out.1.1 _) ⟨w7.heap.size, 0, none⟩ 2 2 [_, _] rfl rfl (cells_of w7 _ _) (by simp [Value.oneCell']) (by unfold maxLen; omega) (by omega) (by have h := H7.out.2; show w1.heap.size ≤ (w7.heap.push _).size; simp; omega) ?_; intro v8 w8 hown hg _; have HO8 := Lib.hid hown; have HG8 := Lib.hid hg; clear hown hg)))
  clear e6
  have H8 := Lib.hid (acc_step (M := wordB k) H7.out.1 HO8.out rfl (wordB_map k (by omega) k1).symm HG8.out H7.out.2)
  obtain ⟨L8, hL8⟩ : ∃ L, L7 ++ wordB k = L := ⟨_, rfl⟩
  rw [hL8] at H8
  have hl8 : L8.length ≤ 66010 := by rw [← hL8]; simp only [List.length_append, hwl]; omega
  have HL8 := Lib.hid hL8
  clear hL8 HO8 HG8
  go_upto_region 16 with (at_builtin; go_loud (refine wpList_append_own _ rfl _ _ 29 rfl w1.heap.size 5 i8 (.int .u8 0) 1 1 Tryd.underlying29 hi hz0 hz1 hz2 rfl (by decide) _ _ _ rfl (World.ownsRow.alloc H8.out.1.1 _) ⟨w8.heap.size, 0, none⟩ 2 2 [_, _] rfl rfl (cells_of w8 _ _) (by simp [Value.oneCell']) (by unfold maxLen; omega) (by omega) (by have h := H8.out.2; show w1.heap.size ≤ (w8.heap.push _).size; simp; omega) ?_; intro v9 w9 hown hg _; have HO9 := Lib.hid hown; have HG9 := Lib.hid hg; clear hown hg))
  have H9 := Lib.hid (acc_step (M := wordB 1) H8.out.1 HO9.out rfl (wordB_map 1 (by omega) (by omega)).symm HG9.out H8.out.2)
  obtain ⟨L9, hL9⟩ : ∃ L, L8 ++ wordB 1 = L := ⟨_, rfl⟩
  rw [hL9] at H9
  have hl9 : L9.length ≤ 66020 := by rw [← hL9]; simp only [List.length_append, hwl]; omega
  have HL9 := Lib.hid hL9
  clear hL9 HO9 HG9
  have HW1 := Lib.hid (HB1.out (.cells #[.int .i64 i, .bool r, .bool q, .bool x, .int .i64 c, .string n, .int .i64 k, .slice ra m rc] 26))
  have e7 := HAt.out _ H9.out.1.2 7 _ rfl
  go_upto_region 17 with (fail)
  clear e7
  go_loopw [4, 7] (fun bv iv wr => ∃ (j : Nat) (vL : Value), vL = bv ∧ j ≤ m ∧ iv = .int .i64 j ∧ Acc w1.heap.size w1 (L9 ++ (rs.take j).flatMap WRec.bytes) vL wr ∧ w1.heap.size ≤ wr.heap.size) (fun _ iv _ => m - (intOf iv).toNat)
  case atStart => exact ⟨0, _, rfl, Nat.zero_le _, rfl, by rw [List.take_zero, List.flatMap_nil, List.append_nil]; exact H9.out.1, H9.out.2⟩
  case round =>
    obtain ⟨j, vL, rfl, hj, rfl, hA, hsz⟩ := hrel
    have e7 := HAt.out _ hA.2 7 _ rfl
    have HA := Lib.hid (⟨hA, hsz⟩ : _ ∧ _)
    have hLl : (L9 ++ (rs.take j).flatMap WRec.bytes).length ≤ 66020 + 32 * 140000 := by
      have h1 := recs_len (rs.take j)
      have h2 : (rs.take j).length ≤ 32 := by rw [List.length_take]; omega
      have h3 : (rs.take j).length * 140000 ≤ 32 * 140000 := Nat.mul_le_mul_right _ h2
      rw [List.length_append]; omega
    obtain ⟨La, hLa⟩ : ∃ L, L9 ++ (rs.take j).flatMap WRec.bytes = L := ⟨_, rfl⟩
    rw [hLa] at HA hLl
    have HLa := Lib.hid hLa
    clear hA hsz hLa
    by_cases hlt : j < m
    · obtain ⟨rj, hx⟩ : ∃ y, rs[j]? = some y := ⟨_, List.getElem?_eq_getElem (by rw [HMl.out]; exact hlt)⟩
      obtain ⟨g, rfl, hg, ⟨c0, c1', c2, c3⟩, o1, o2, o3, o4, o5, o6, o7, o8⟩ := HRec.out j rj hx
      have HTk : Hid ((rs.take (j + 1)).flatMap WRec.bytes = (rs.take j).flatMap WRec.bytes ++ rj.bytes) := Lib.hid (by rw [List.take_add_one, hx, List.flatMap_append]; simp)
      obtain ⟨nm, kk, tt, dt⟩ := rj
      simp only at c0 c1' c2 c3 o1 o2 o3 o4 o5 o6 o7 o8
      have hbr : Below w.heap.size w wr := (HW1.out.trans (HB2.out.mono HW1.out.size)).trans (HA.out.1.2.mono (by have h1 := HB2.out.size; have h2 := HW1.out.size; omega))
      have d0 : wr.cell? ⟨g, j * 4, none⟩ = some (.string nm) := by rw [hbr.cell (p := ⟨g, j * 4, none⟩) hg]; exact c0
      have d1 : wr.cell? ⟨g, j * 4 + 1, none⟩ = some (.int .i64 kk) := by rw [hbr.cell (p := ⟨g, j * 4 + 1, none⟩) hg]; exact c1'
      have d2 : wr.cell? ⟨g, j * 4 + 2, none⟩ = some (.int .i64 tt) := by rw [hbr.cell (p := ⟨g, j * 4 + 2, none⟩) hg]; exact c2
      have d3 : wr.cell? ⟨g, j * 4 + 3, none⟩ = some (.string dt) := by rw [hbr.cell (p := ⟨g, j * 4 + 3, none⟩) hg]; exact c3
      clear c0 c1' c2 c3 hbr
      have HEn : Hid (∀ W, Calls Tryd.prog 20 #[.string nm] W fun e w' => e = .returned (.tuple #[.string ⟨(codS nm.data.toList).toArray⟩, .bool true]) ∧ Below W.heap.size W w') := Lib.hid (fun W => encV_ok _ o1 ▸ rnencode_any nm W (by assumption))
      have hcln : (codS nm.data.toList).length ≤ 65000 := encS_len _
      obtain ⟨Cn, hCn⟩ : ∃ C, codS nm.data.toList = C := ⟨_, rfl⟩
      rw [hCn] at hcln HEn
      have HCn := Lib.hid hCn
      obtain ⟨nbn, hnbn⟩ : ∃ q : ByteArray, (⟨Cn.toArray⟩ : ByteArray) = q := ⟨_, rfl⟩
      rw [hnbn] at HEn
      have hnsn : nbn.size = Cn.length := by rw [← hnbn]; show Cn.toArray.size = _; simp
      have HCcn : Hid (strCells nbn = Cn.map u8V) := Lib.hid (by unfold strCells; rw [← hnbn]; rfl)
      clear hCn hnbn
      go_upto_region 20 with (fail)
      have hqn : Q4 (wr.alloc (.cells #[.string nm, .int .i64 kk, .int .i64 tt, .string dt] 48)) wr.heap.size #[.string nm, .int .i64 kk, .int .i64 tt, .string dt] := heap_alloc_new wr _
      have Q10 := Lib.hid hqn
      have hb10 : Below wr.heap.size wr (wr.alloc (.cells #[.string nm, .int .i64 kk, .int .i64 tt, .string dt] 48)) := (Below.refl _ _).alloc (Nat.le_refl _) _
      have H10 : Hid (Acc w1.heap.size w1 La vL (wr.alloc (.cells #[.string nm, .int .i64 kk, .int .i64 tt, .string dt] 48)) ∧ w1.heap.size ≤ (wr.alloc (.cells #[.string nm, .int .i64 kk, .int .i64 tt, .string dt] 48)).heap.size) := Lib.hid ⟨⟨own_below HA.out.1.1 hb10, HA.out.1.2.trans (hb10.mono HA.out.2)⟩, Nat.le_trans HA.out.2 hb10.size⟩
      clear hqn hb10 d0 d1 d2 d3 e7
      generalize wr.alloc (.cells #[.string nm, .int .i64 kk, .int .i64 tt, .string dt] 48) = w10 at *
      have p0 := Q10.out.cell (j := 0) rfl
      go_upto_region 21 with (go_at_call 20; refine (HEn.out _).mono ?_; rintro e w11 ⟨rfl, hb11⟩)
      clear p0
      have H11 : Hid (Acc w1.heap.size w1 La vL w11 ∧ w1.heap.size ≤ w11.heap.size) := Lib.hid ⟨⟨own_below H10.out.1.1 hb11, H10.out.1.2.trans (hb11.mono H10.out.2)⟩, Nat.le_trans H10.out.2 hb11.size⟩
      have Q11 := Lib.hid (Q10.out.bel hb11)
      clear hb11
      go_upto_region 22 with (at_builtin; go_loud (refine wpList_append_own_string w11 rfl _ _ 29 9 rfl w1.heap.size 5 i8 Tryd.underlying29 Tryd.underlying9 hi hz0 hz1 hz2 _ _ _ rfl H11.out.1.1 nbn rfl (by rw [hnsn]; unfold maxLen; omega) (by rw [hnsn]; omega) H11.out.2 ?_; intro v12 w12 hown hg _; have HO := Lib.hid hown; have HG := Lib.hid hg; clear hown hg))
      have H12 := Lib.hid (acc_step0 (M := Cn) H11.out.1 HO.out hnsn HCcn.out HG.out H11.out.2)
      have Q12 := Lib.hid (Q4.grown Q11.out H11.out.1.1 HG.out)
      obtain ⟨L12, hL12⟩ : ∃ L, La ++ Cn = L := ⟨_, rfl⟩
      rw [hL12] at H12
      have hl12 : L12.length ≤ 4611020 := by rw [← hL12]; simp only [List.length_append]; omega
      have HL12 := Lib.hid hL12
      clear hL12 HO HG
      have p1 := Q12.out.cell (j := 1) rfl
      go_upto_region 23 with (first | (go_at_call 19; refine (rtwo_any _ _ (by omega) (by omega)).mono ?_; rintro e wt ⟨rfl, rfl⟩) | (at_builtin; go_loud (refine wpList_append_own _ rfl _ _ 29 rfl w1.heap.size 5 i8 (.int .u8 0) 1 1 Tryd.underlying29 hi hz0 hz1 hz2 rfl (by decide) _ _ _ rfl (World.ownsRow.alloc H12.out.1.1 _) ⟨w12.heap.size, 0, none⟩ 2 2 [_, _] rfl rfl (cells_of w12 _ _) (by simp [Value.oneCell']) (by unfold maxLen; omega) (by omega) (by have h := H12.out.2; show w1.heap.size ≤ (w12.heap.push _).size; simp; omega) ?_; intro v13 w13 hown hg _; have HO := Lib.hid hown; have HG := Lib.hid hg; clear hown hg)))
      have H13 := Lib.hid (acc_step (M := wordB kk) H12.out.1 HO.out rfl (wordB_map kk (by omega) o3).symm HG.out H12.out.2)
      have Q13 := Lib.hid (Q4.grown (Q12.out.alloc _) (World.ownsRow.alloc H12.out.1.1 _) HG.out)
      obtain ⟨L13, hL13⟩ : ∃ L, L12 ++ wordB kk = L := ⟨_, rfl⟩
      rw [hL13] at H13
      have hl13 : L13.length ≤ 4611022 := by rw [← hL13]; simp only [List.length_append, hwl]; omega
      have HL13 := Lib.hid hL13
      clear hL13 HO HG
      clear p1
      go_upto_region 24 with (at_builtin; go_loud (refine wpList_append_own _ rfl _ _ 29 rfl w1.heap.size 5 i8 (.int .u8 0) 1 1 Tryd.underlying29 hi hz0 hz1 hz2 rfl (by decide) _ _ _ rfl (World.ownsRow.alloc H13.out.1.1 _) ⟨w13.heap.size, 0, none⟩ 2 2 [_, _] rfl rfl (cells_of w13 _ _) (by simp [Value.oneCell']) (by unfold maxLen; omega) (by omega) (by have h := H13.out.2; show w1.heap.size ≤ (w13.heap.push _).size; simp; omega) ?_; intro v14 w14 hown hg _; have HO := Lib.hid hown; have HG := Lib.hid hg; clear hown hg))
      have H14 := Lib.hid (acc_step (M := wordB 1) H13.out.1 HO.out rfl (wordB_map 1 (by omega) (by omega)).symm HG.out H13.out.2)
      have Q14 := Lib.hid (Q4.grown (Q13.out.alloc _) (World.ownsRow.alloc H13.out.1.1 _) HG.out)
      obtain ⟨L14, hL14⟩ : ∃ L, L13 ++ wordB 1 = L := ⟨_, rfl⟩
      rw [hL14] at H14
      have hl14 : L14.length ≤ 4611024 := by rw [← hL14]; simp only [List.length_append, hwl]; omega
      have HL14 := Lib.hid hL14
      clear hL14 HO HG
      have p2 := Q14.out.cell (j := 2) rfl
      have htq : Int.tdiv tt 65536 = tt / 65536 := by rw [Int.tdiv_eq_ediv_of_nonneg o4]
      have htr : Int.tmod tt 65536 = tt % 65536 := by rw [Int.tmod_eq_emod_of_nonneg o4]
      go_upto_region 25 with (first | (go_at_call 19; refine (rtwo_any _ _ (by omega) (by omega)).mono ?_; rintro e wt ⟨rfl, rfl⟩) | (at_builtin; go_loud (refine wpList_append_own _ rfl _ _ 29 rfl w1.heap.size 5 i8 (.int .u8 0) 1 1 Tryd.underlying29 hi hz0 hz1 hz2 rfl (by decide) _ _ _ rfl (World.ownsRow.alloc H14.out.1.1 _) ⟨w14.heap.size, 0, none⟩ 2 2 [_, _] rfl rfl (cells_of w14 _ _) (by simp [Value.oneCell']) (by unfold maxLen; omega) (by omega) (by have h := H14.out.2; show w1.heap.size ≤ (w14.heap.push _).size; simp; omega) ?_; intro v15 w15 hown hg _; have HO := Lib.hid hown; have HG := Lib.hid hg; clear hown hg)))
      have H15 := Lib.hid (acc_step (M := wordB (tt / 65536)) H14.out.1 HO.out rfl (wordB_map (tt / 65536) (by omega) (by omega)).symm HG.out H14.out.2)
      have Q15 := Lib.hid (Q4.grown (Q14.out.alloc _) (World.ownsRow.alloc H14.out.1.1 _) HG.out)
      obtain ⟨L15, hL15⟩ : ∃ L, L14 ++ wordB (tt / 65536) = L := ⟨_, rfl⟩
      rw [hL15] at H15
      have hl15 : L15.length ≤ 4611026 := by rw [← hL15]; simp only [List.length_append, hwl]; omega
      have HL15 := Lib.hid hL15
      clear hL15 HO HG
      clear p2
      have p2 := Q15.out.cell (j := 2) rfl
      go_upto_region 26 with (first | (go_at_call 19; refine (rtwo_any _ _ (by omega) (by omega)).mono ?_; rintro e wt ⟨rfl, rfl⟩) | (at_builtin; go_loud (refine wpList_append_own _ rfl _ _ 29 rfl w1.heap.size 5 i8 (.int .u8 0) 1 1 Tryd.underlying29 hi hz0 hz1 hz2 rfl (by decide) _ _ _ rfl (World.ownsRow.alloc H15.out.1.1 _) ⟨w15.heap.size, 0, none⟩ 2 2 [_, _] rfl rfl (cells_of w15 _ _) (by simp [Value.oneCell']) (by unfold maxLen; omega) (by omega) (by have h := H15.out.2; show w1.heap.size ≤ (w15.heap.push _).size; simp; omega) ?_; intro v16 w16 hown hg _; have HO := Lib.hid hown; have HG := Lib.hid hg; clear hown hg)))
      have H16 := Lib.hid (acc_step (M := wordB (tt % 65536)) H15.out.1 HO.out rfl (by rw [wordB_map (tt % 65536) (by omega) (by omega), show tt % 65536 % 256 = tt % 256 from by omega]) HG.out H15.out.2)
      have Q16 := Lib.hid (Q4.grown (Q15.out.alloc _) (World.ownsRow.alloc H15.out.1.1 _) HG.out)
      obtain ⟨L16, hL16⟩ : ∃ L, L15 ++ wordB (tt % 65536) = L := ⟨_, rfl⟩
      rw [hL16] at H16
      have hl16 : L16.length ≤ 4611028 := by rw [← hL16]; simp only [List.length_append, hwl]; omega
      have HL16 := Lib.hid hL16
      clear hL16 HO HG
      clear p2 htq htr
      have p3 := Q16.out.cell (j := 3) rfl
      have p1 := Q16.out.cell (j := 1) rfl
      by_cases hk12 : kk = 12
      · have hkb : (kk == 12) = true := by simp [hk12]
        have od : okS dt.data.toList = true := by unfold datOK at o6; rw [if_pos hk12] at o6; exact o6
        have hdd : datS kk dt.data.toList = codS dt.data.toList := by unfold datS; rw [if_pos hk12]
        have HEd : Hid (∀ W, Calls Tryd.prog 20 #[.string dt] W fun e w' => e = .returned (.tuple #[.string ⟨(codS dt.data.toList).toArray⟩, .bool true]) ∧ Below W.heap.size W w') := Lib.hid (fun W => encV_ok _ od ▸ rnencode_any dt W (by assumption))
        have hcld : (codS dt.data.toList).length ≤ 65000 := encS_len _
        obtain ⟨Cd, hCd⟩ : ∃ C, codS dt.data.toList = C := ⟨_, rfl⟩
        rw [hCd] at hcld HEd
        have HCd := Lib.hid hCd
        obtain ⟨nbd, hnbd⟩ : ∃ q : ByteArray, (⟨Cd.toArray⟩ : ByteArray) = q := ⟨_, rfl⟩
        rw [hnbd] at HEd
        have hnsd : nbd.size = Cd.length := by rw [← hnbd]; show Cd.toArray.size = _; simp
        have HCcd : Hid (strCells nbd = Cd.map u8V) := Lib.hid (by unfold strCells; rw [← hnbd]; rfl)
        have HDat : Hid (datS kk dt.data.toList = Cd) := Lib.hid (hdd.trans HCd.out)
        clear hCd hnbd
        go_upto_region 29 with (go_at_call 20; refine (HEd.out _).mono ?_; rintro e w17 ⟨rfl, hb17⟩)
        clear p1 p3
        have H17 : Hid (Acc w1.heap.size w1 L16 v16 w17 ∧ w1.heap.size ≤ w17.heap.size) := Lib.hid ⟨⟨own_below H16.out.1.1 hb17, H16.out.1.2.trans (hb17.mono H16.out.2)⟩, Nat.le_trans H16.out.2 hb17.size⟩
        have Q17 := Lib.hid (Q16.out.bel hb17)
        clear hb17
        obtain ⟨L17, hL17⟩ : ∃ L, L16 = L := ⟨_, rfl⟩
        obtain ⟨v17, hv17⟩ : ∃ v, v16 = v := ⟨_, rfl⟩
        subst hL17
        subst hv17
        go_upto_region 30 with (first | (go_at_call 19; refine (rtwo_any _ _ (by omega) (by omega)).mono ?_; rintro e wt ⟨rfl, rfl⟩) | (at_builtin; go_loud (refine wpList_append_own _ rfl _ _ 29 rfl w1.heap.size 5 i8 (.int .u8 0) 1 1 Tryd.underlying29 hi hz0 hz1 hz2 rfl (by decide) _ _ _ rfl (World.ownsRow.alloc H17.out.1.1 _) ⟨w17.heap.size, 0, none⟩ 2 2 [_, _] rfl rfl (cells_of w17 _ _) (by simp [Value.oneCell']) (by unfold maxLen; omega) (by omega) (by have h := H17.out.2; show w1.heap.size ≤ (w17.heap.push _).size; simp; omega) ?_; intro v18 w18 hown hg _; have HO := Lib.hid hown; have HG := Lib.hid hg; clear hown hg)))
        have H18 := Lib.hid (acc_step (M := wordB ((Cd.length : Nat) : Int)) H17.out.1 HO.out rfl (wordB_map ((Cd.length : Nat) : Int) (by omega) (by omega)).symm HG.out H17.out.2)
        have Q18 := Lib.hid (Q4.grown (Q17.out.alloc _) (World.ownsRow.alloc H17.out.1.1 _) HG.out)
        obtain ⟨L18, hL18⟩ : ∃ L, L16 ++ wordB ((Cd.length : Nat) : Int) = L := ⟨_, rfl⟩
        rw [hL18] at H18
        have hl18 : L18.length ≤ 4676038 := by rw [← hL18]; simp only [List.length_append, hwl]; omega
        have HL18 := Lib.hid hL18
        clear hL18 HO HG
        go_wp2_with (at_builtin; go_loud (refine wpList_append_own_string w18 rfl _ _ 29 9 rfl w1.heap.size 5 i8 Tryd.underlying29 Tryd.underlying9 hi hz0 hz1 hz2 _ _ _ rfl H18.out.1.1 nbd rfl (by rw [hnsd]; unfold maxLen; omega) (by rw [hnsd]; omega) H18.out.2 ?_; intro v19 w19 hown hg _; have HO := Lib.hid hown; have HG := Lib.hid hg; clear hown hg))
        have H19 := Lib.hid (acc_step0 (M := Cd) H18.out.1 HO.out hnsd HCcd.out HG.out H18.out.2)
        have Q19 := Lib.hid (Q4.grown Q18.out H18.out.1.1 HG.out)
        obtain ⟨L19, hL19⟩ : ∃ L, L18 ++ Cd = L := ⟨_, rfl⟩
        rw [hL19] at H19
        have hl19 : L19.length ≤ 4741038 := by rw [← hL19]; simp only [List.length_append]; omega
        have HL19 := Lib.hid hL19
        clear hL19 HO HG
        go_roundw
        case rel =>
          have hby : (⟨nm, kk, tt, dt⟩ : WRec).bytes = Cn ++ wordB kk ++ wordB 1 ++ lifeB tt ++ wordB ((Cd.length : Nat) : Int) ++ Cd := by
            show recB nm.data.toList kk tt dt.data.toList = _
            unfold recB subB
            rw [HDat.out, HCn.out]
          have hfin : L19 = L9 ++ ((rs.take j).flatMap WRec.bytes ++ (⟨nm, kk, tt, dt⟩ : WRec).bytes) := by
            rw [hby, lifeB_two tt o4 o5, ← List.append_assoc L9, HLa.out, ← HL19.out, ← HL18.out, ← HL16.out, ← HL15.out, ← HL14.out, ← HL13.out, ← HL12.out]
            simp only [List.append_assoc] <;> rfl
          exact ⟨j + 1, v19, rfl, hlt, by go_num, by rw [HTk.out, ← hfin]; exact H19.out.1, H19.out.2⟩
        case measure => simp [intOf]; omega
      · have hkb : (kk == 12) = false := by simp [hk12]
        have hdd : datS kk dt.data.toList = dt.data.toList := by unfold datS; unfold datOK at o6; rw [if_neg hk12] at o6 ⊢; rw [if_pos o6]
        have HDat := Lib.hid hdd
        have hdl : dt.size ≤ 65000 := by
          have h := datS_len kk dt.data.toList
          rw [hdd] at h
          exact h
        have HCct : Hid (strCells dt = dt.data.toList.map u8V) := Lib.hid rfl
        clear hdd
        go_upto_region 29 with (fail)
        clear p1 p3
        go_upto_region 30 with (first | (go_at_call 19; refine (rtwo_any _ _ (by omega) (by omega)).mono ?_; rintro e wt ⟨rfl, rfl⟩) | (at_builtin; go_loud (refine wpList_append_own _ rfl _ _ 29 rfl w1.heap.size 5 i8 (.int .u8 0) 1 1 Tryd.underlying29 hi hz0 hz1 hz2 rfl (by decide) _ _ _ rfl (World.ownsRow.alloc H16.out.1.1 _) ⟨w16.heap.size, 0, none⟩ 2 2 [_, _] rfl rfl (cells_of w16 _ _) (by simp [Value.oneCell']) (by unfold maxLen; omega) (by omega) (by have h := H16.out.2; show w1.heap.size ≤ (w16.heap.push _).size; simp; omega) ?_; intro v18 w18 hown hg _; have HO := Lib.hid hown; have HG := Lib.hid hg; clear hown hg)))
        have H18 := Lib.hid (acc_step (M := wordB ((dt.size : Nat) : Int)) H16.out.1 HO.out rfl (wordB_map ((dt.size : Nat) : Int) (by omega) (by omega)).symm HG.out H16.out.2)
        have Q18 := Lib.hid (Q4.grown (Q16.out.alloc _) (World.ownsRow.alloc H16.out.1.1 _) HG.out)
        obtain ⟨L18, hL18⟩ : ∃ L, L16 ++ wordB ((dt.size : Nat) : Int) = L := ⟨_, rfl⟩
        rw [hL18] at H18
        have hl18 : L18.length ≤ 4676038 := by rw [← hL18]; simp only [List.length_append, hwl]; omega
        have HL18 := Lib.hid hL18
        clear hL18 HO HG
        go_wp2_with (at_builtin; go_loud (refine wpList_append_own_string w18 rfl _ _ 29 9 rfl w1.heap.size 5 i8 Tryd.underlying29 Tryd.underlying9 hi hz0 hz1 hz2 _ _ _ rfl H18.out.1.1 dt rfl (by unfold maxLen; omega) (by omega) H18.out.2 ?_; intro v19 w19 hown hg _; have HO := Lib.hid hown; have HG := Lib.hid hg; clear hown hg))
        have H19 := Lib.hid (acc_step0 (M := dt.data.toList) H18.out.1 HO.out (rfl : dt.size = dt.data.toList.length) HCct.out HG.out H18.out.2)
        have Q19 := Lib.hid (Q4.grown Q18.out H18.out.1.1 HG.out)
        obtain ⟨L19, hL19⟩ : ∃ L, L18 ++ dt.data.toList = L := ⟨_, rfl⟩
        rw [hL19] at H19
        have hdl2 : dt.data.toList.length ≤ 65000 := hdl
        have hl19 : L19.length ≤ 4741038 := by rw [← hL19]; simp only [List.length_append]; omega
        have HL19 := Lib.hid hL19
        clear hL19 HO HG
        go_roundw
        case rel =>
          have hby : (⟨nm, kk, tt, dt⟩ : WRec).bytes = Cn ++ wordB kk ++ wordB 1 ++ lifeB tt ++ wordB ((dt.data.toList.length : Nat) : Int) ++ dt.data.toList := by
            show recB nm.data.toList kk tt dt.data.toList = _
            unfold recB subB
            rw [HDat.out, HCn.out]
          have hfin : L19 = L9 ++ ((rs.take j).flatMap WRec.bytes ++ (⟨nm, kk, tt, dt⟩ : WRec).bytes) := by
            rw [hby, lifeB_two tt o4 o5, ← List.append_assoc L9, HLa.out, ← HL19.out, ← HL18.out, ← HL16.out, ← HL15.out, ← HL14.out, ← HL13.out, ← HL12.out]
            simp only [List.append_assoc] <;> rfl
          exact ⟨j + 1, v19, rfl, hlt, by go_num, by rw [HTk.out, ← hfin]; exact H19.out.1, H19.out.2⟩
        case measure => simp [intOf]; omega

    · obtain rfl : j = m := by omega
      have hall : La = msgB i c r q x n.data.toList k rs := by
        rw [← HLa.out, List.take_of_length_le (by have := HMl.out; omega)]
        unfold msgB headB subB
        rw [fS_flag c r q x c0 c1, ← HFS.out, HMl.out, HC.out, ← HL9.out, ← HL8.out, ← HL7.out, ← HL6.out, ← HL5.out]
        simp only [List.append_assoc]
      obtain ⟨oa, oc, rfl⟩ := own_shape HA.out.1.1
      have HAl := Lib.hid hall
      clear hall
      have HW2 : Hid (Below w.heap.size w wr) := Lib.hid ((HW1.out.trans (HB2.out.mono HW1.out.size)).trans (HA.out.1.2.mono (by have h1 := HB2.out.size; have h2 := HW1.out.size; omega)))
      have HBs : Hid (w.heap.size ≤ w1.heap.size) := Lib.hid (by have h1 := HB2.out.size; have h2 := HW1.out.size; omega)
      by_cases hbig : La.length ≤ 4096
      · have hbi : ¬ (4096 : Int) < (La.length : Int) := by omega
        go_wp2
        go_ret
        exact ⟨HW2.out, by rw [← HAl.out, if_pos hbig]; exact ⟨.slice oa La.length oc, rfl, own_low HA.out.1.1 HBs.out⟩⟩
      · have hbi : (4096 : Int) < (La.length : Int) := by omega
        go_wp2
        go_ret
        exact ⟨HW2.out, by rw [← HAl.out, if_neg hbig]; rfl⟩
end Go.Proofs.YtepfeekfglpjoaaDoor
