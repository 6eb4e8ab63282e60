/- Contract of a host table's Parse. -/
import Derived.Test.YtdfapebggghfdaaGreatDoorHe
import Derived.Test.YtdfapebggghfdaaGreatDoorLf
import Derived.Test.YtdfapebggghfdaaGreatDoorPu
namespace Go.Tx
open Go.RowKit Go.Mp
theorem Out.toBelow {L B : Nat} {w w' : World} {p m1 m2 : Nat} (h : Out L w w' p m1 m2) (hL : B ≤ L) (h1 : B ≤ p) (h2 : B ≤ m1) (h3 : B ≤ m2) : Below B w w' :=
  ⟨h.os, h.tape, h.output, h.size, fun j hj => h.same j (by omega) (by omega) (by omega) (by omega)⟩
theorem cell_same {w w' : World} {b k : Nat} (h : w'.heap[b]? = w.heap[b]?) : w'.cell? ⟨b, k, none⟩ = w.cell? ⟨b, k, none⟩ := World.cell?_of_block (a := ⟨b, k, none⟩) h
/-- The words of a line, read at a later world. -/
theorem words_at {B : Nat} {w w' : World} {pw : Option Addr} {m : Nat} {ws : List (List UInt8)} (h : Strs B w (.slice pw m m) ws) (hm : m = ws.length) (hsame : ∀ j, B ≤ j → j < w.heap.size → w'.heap[j]? = w.heap[j]?) (hs : w.heap.size ≤ w'.heap.size) (h0 : ws ≠ []) :
    ∃ A, pw = some ⟨A, 0, none⟩ ∧ A < w'.heap.size ∧ ∀ (j : Nat) l, ws[j]? = some l → w'.cell? ⟨A, j, none⟩ = some (.string ⟨l.toArray⟩) := by
  rcases h with ⟨h, h2⟩ | ⟨A, h1, h2, h3⟩
  · exact absurd h2 h0
  · cases h1
    have hlt := (World.ownsRow.lt h3 A rfl).2
    refine ⟨A, rfl, by omega, fun j l hj => ?_⟩
    have hjl := (List.getElem?_eq_some_iff.1 hj).1
    rw [cell_same (hsame A h2 hlt), World.ownsRow.cellAt h3 j (by omega), List.getElem?_map, hj]
    rfl
theorem txAt_drop {w : World} {A : Nat} {ws : List (List UInt8)} (h : ∀ (j : Nat) l, ws[j]? = some l → w.cell? ⟨A, j, none⟩ = some (.string ⟨l.toArray⟩)) (hA : A < w.heap.size) : TxAt w (some ((⟨A, 0, none⟩ : Addr).add 1)) (ws.drop 1) := fun j l hj => by
  refine ⟨_, rfl, by rw [add_block]; exact hA, ?_⟩
  have ha : ((⟨A, 0, none⟩ : Addr).add 1).add j = ⟨A, 1 + j, none⟩ := by rw [Addr.add_add]; unfold Addr.add; split <;> simp_all
  rw [ha]
  rw [List.getElem?_drop] at hj
  exact h (1 + j) l hj
theorem rowOf_cons_none {x : List UInt8} {r : List (List UInt8)} (h : parseP x = none) : rowOf (x :: r) = none := by simp [rowOf, h]
theorem rowOf_cons_some {x a : List UInt8} {r : List (List UInt8)} (h : parseP x = some a) : rowOf (x :: r) = if r.filterMap nm = [] then none else some (a, r.filterMap nm) := by simp only [rowOf, h]
theorem addsOf_fun_snoc (R : List (List UInt8 × List (List UInt8))) (a : List UInt8) (f : List (List UInt8)) : addsOf (R ++ [(a, f)]) = fun k => putN a k (addsOf R k) f := funext fun k => addsOf_snoc R (a, f) k
theorem namesAt_fun_snoc (R : List (List UInt8 × List (List UInt8))) (a : List UInt8) (f : List (List UInt8)) : namesAt (R ++ [(a, f)]) = setC (namesAt R) a f := funext fun k => by
  rw [namesAt_snoc]; rfl
theorem rowsOf_few (T : List (Nat × List (List UInt8))) : (rowsOf T).length ≤ T.length := List.length_filterMap_le _ _
theorem TB.start {w : World} {p m1 m2 : Nat} (hp : p < w.heap.size) (h1 : m1 < w.heap.size) (h2 : m2 < w.heap.size) (n1 : p ≠ m1) (n2 : p ≠ m2) (n12 : m1 ≠ m2)
    (hb : w.heap[p]? = some (.cells #[.int .i64 0, .map (some m1), .map (some m2)] 43 (0, 0))) (hf : MapAt w m1 fun _ => none) (hg : MapAt w m2 fun _ => none) :
    TB w.heap.size w p m1 m2 0 (addsOf []) (namesAt []) (fun _ => none) (fun _ => none) where
  pl := hp
  l1 := h1
  l2 := h2
  n1 := n1
  n2 := n2
  n12 := n12
  size := Nat.le_refl _
  blk := hb
  f := hf
  g := hg
  hF := fun k => World.ownsRow_nil _ _ _ _
  hG := fun k => rfl
  dF := fun k k' b h => by cases h
  dG := fun k k' b h => by cases h
theorem TB.apart {L : Nat} {w : World} {p m1 m2 n : Nat} {A : List UInt8 → List (List UInt8)} {C : List UInt8 → Option (List (List UInt8))} {F G : ByteArray → Option Value} (h : TB L w p m1 m2 n A C F G) {w' : World} {v : Value} {f : List (List UInt8)} (hv : StrC w.heap.size w' v f) : Apart F v := fun b hb k e => by
  have h1 := (h.lt e).2
  have h2 := (World.ownsRow.lt hv b hb).1
  omega
theorem heap_push_lt (w : World) (o : Obj) (j : Nat) (h : j < w.heap.size) : (w.alloc o).heap[j]? = w.heap[j]? := by
  show (w.heap.push o)[j]? = _
  rw [Array.getElem?_push, if_neg (by omega)]
theorem start_at (w w2 : World) (hb : Below (((w.alloc (.map #[] 0)).alloc (.map #[] 0)).alloc (.cells #[.int .i64 0, .map (some w.heap.size), .map (some (w.heap.size + 1))] 43)).heap.size (((w.alloc (.map #[] 0)).alloc (.map #[] 0)).alloc (.cells #[.int .i64 0, .map (some w.heap.size), .map (some (w.heap.size + 1))] 43)) w2) :
    TB w2.heap.size w2 (w.heap.size + 1 + 1) w.heap.size (w.heap.size + 1) 0 (addsOf []) (namesAt []) (fun _ => none) (fun _ => none) ∧ w.heap.size + 3 ≤ w2.heap.size ∧ Below w.heap.size w w2 := by
  have s1 : (w.alloc (.map #[] 0)).heap.size = w.heap.size + 1 := by show (w.heap.push _).size = _; simp
  have s2 : ((w.alloc (.map #[] 0)).alloc (.map #[] 0)).heap.size = w.heap.size + 1 + 1 := by show ((w.heap.push _).push _).size = _; simp
  generalize hw1 : (((w.alloc (.map #[] 0)).alloc (.map #[] 0)).alloc (.cells #[.int .i64 0, .map (some w.heap.size), .map (some (w.heap.size + 1))] 43)) = w1 at *
  have s3 : w1.heap.size = w.heap.size + 3 := by rw [← hw1]; show (((w.heap.push _).push _).push _).size = _; simp
  have e1 : w1.heap[w.heap.size]? = some (.map #[] 0) := by
    rw [← hw1, heap_push_lt _ _ _ (by omega), heap_push_lt _ _ _ (by omega)]; exact heap_alloc_new w _
  have e2 : w1.heap[w.heap.size + 1]? = some (.map #[] 0) := by
    rw [← hw1, heap_push_lt _ _ _ (by omega)]
    have := heap_alloc_new (w.alloc (.map #[] 0)) (.map #[] 0)
    rw [s1] at this; exact this
  have e3 : w1.heap[w.heap.size + 1 + 1]? = some (.cells #[.int .i64 0, .map (some w.heap.size), .map (some (w.heap.size + 1))] 43 (0, 0)) := by
    rw [← hw1]
    have := heap_alloc_new ((w.alloc (.map #[] 0)).alloc (.map #[] 0)) (.cells #[.int .i64 0, .map (some w.heap.size), .map (some (w.heap.size + 1))] 43)
    rw [s2] at this; exact this
  have hz := hb.size
  refine ⟨TB.start (by omega) (by omega) (by omega) (by omega) (by omega) (by omega) (by rw [hb.block _ (by omega)]; exact e3) ⟨#[], 0, by rw [hb.block _ (by omega)]; exact e1, (fun e he => by cases he), fun _ => rfl⟩ ⟨#[], 0, by rw [hb.block _ (by omega)]; exact e2, (fun e he => by cases he), fun _ => rfl⟩, by omega, ?_⟩
  have hb0 : Below w.heap.size w w1 := by
    rw [← hw1]
    exact (((Below.refl _ w).alloc (Nat.le_refl _) _).alloc (by omega) _).alloc (by omega) _
  exact hb0.trans (hb.mono (by omega))
theorem lower {B B' : Nat} {w : World} {v : Value} {f : List (List UInt8)} (h : StrC B w v f) (hB : B' ≤ B) : StrC B' w v f := own_base h hB
end Go.Tx
namespace Go.Proofs.YtdfapebggghfdaaGreatDoor
open Go.RowKit Go.Lib Go.Tx Go.Mp
/-- A table that is read: where it lies, what it holds. -/
def Tab (B : Nat) (w : World) (p : Nat) (R : List (List UInt8 × List (List UInt8))) : Prop :=
  ∃ L m1 m2 F G, B ≤ p ∧ B ≤ L ∧ TB L w p m1 m2 R.length (addsOf R) (namesAt R) F G
theorem Tab.below {B p : Nat} {w w' : World} {R : List (List UInt8 × List (List UInt8))} (h : Tab B w p R) (hb : Below w.heap.size w w') : Tab B w' p R := by
  obtain ⟨L, m1, m2, F, G, h1, h2, h3⟩ := h
  exact ⟨L, m1, m2, F, G, h1, h2, h3.below hb⟩
set_option maxHeartbeats 2000000 in
set_option maxRecDepth 100000 in
theorem parse_any (a : Option Addr) (n c : Nat) (l : List UInt8) (w : World) (h : BA w a n c l) (hold : ∀ x, a = some x → x.block < w.heap.size) (hn : n ≤ 100000) (hg : GloAt w) (hm : MaxAt w) :
    Calls Tryz.prog 10 #[.slice a n c] w fun e w' => ∃ p, e = .returned (.pointer (some ⟨p, 0, none⟩)) ∧ Tab w.heap.size w' p (rowsOf (toldG 1 [] l)) ∧ Below w.heap.size w w' := by
  have hlen := h.len
  obtain ⟨hfine, hfew⟩ := toldG_fine l 1 []
  have hlines := fun W (hb : Below w.heap.size w W) => lines_any a n c l W (h.below hb hold) (fun x hx => Nat.lt_of_lt_of_le (hold x hx) hb.size) (by omega)
  have HLn := Lib.hid hlines
  have HG := Lib.hid hg
  have HM := Lib.hid hm
  have HFine := Lib.hid hfine
  have hfew2 : (toldG 1 [] l).length ≤ 100001 := by omega
  clear h hold hg hm hlines hfine hfew hlen
  generalize toldG 1 [] l = T at *
  have hmm := @run_makeMap Tryz.prog
  go_enter Tryz.func10, Tryz.ntmps10
  go_wp2_with (go_at_call 19; refine (HLn.out _ ((((Below.refl _ w).alloc (Nat.le_refl _) _).alloc (by show w.heap.size ≤ (w.heap.push _).size; simp) _).alloc (by show w.heap.size ≤ ((w.heap.push _).push _).size; simp; omega) _)).mono ?_; rintro e w2 ⟨v, rfl, hT, hb2⟩; obtain ⟨pT, cT, rfl⟩ := hT.shape)
  obtain ⟨hst, hs3, hb02⟩ := start_at w w2 hb2
  have HT := Lib.hid hT
  have HSt := Lib.hid hst
  have HB1 := Lib.hid hb2
  have hB1s : (((w.alloc (.map #[] 0)).alloc (.map #[] 0)).alloc (.cells #[.int .i64 0, .map (some w.heap.size), .map (some (w.heap.size + 1))] 43)).heap.size = w.heap.size + 3 := by show (((w.heap.push _).push _).push _).size = _; simp
  rw [hB1s] at HT
  clear hT hst hb2 hB1s
  go_loopw [16] (fun i wr => ∃ (k : Nat) (FF GG : ByteArray → Option Value), k ≤ T.length ∧ i = .int .i64 k ∧ TB w2.heap.size wr (w.heap.size + 1 + 1) w.heap.size (w.heap.size + 1) (rowsOf (T.take k)).length (addsOf (rowsOf (T.take k))) (namesAt (rowsOf (T.take k))) FF GG ∧ Out w2.heap.size w2 wr (w.heap.size + 1 + 1) w.heap.size (w.heap.size + 1)) (fun i _ => T.length - (intOf i).toNat)
  case atStart => exact ⟨0, _, _, Nat.zero_le _, rfl, HSt.out, Out.refl _ _ _ _ _⟩
  case round =>
    obtain ⟨k, FF, GG, hk, rfl, hTB, hOut⟩ := hrel
    by_cases hlt : k < T.length
    · obtain ⟨⟨no, ws⟩, hx⟩ : ∃ x, T[k]? = some x := ⟨_, List.getElem?_eq_getElem hlt⟩
      have hf := HFine.out (no, ws) (List.mem_of_getElem? hx)
      obtain ⟨g, cap, e, hcap, hcm, hBg, hrd⟩ := HT.out.read (by omega)
      cases e
      obtain ⟨hc0, pw, hc1, hstr⟩ := hrd k no ws hx
      have hgl : g < w2.heap.size := by
        unfold World.cell? at hc0
        split at hc0
        · rename_i hh; exact (Array.getElem?_eq_some_iff.1 hh).1
        · cases hc0
      have hgs : wr.heap[g]? = w2.heap[g]? := hOut.same g hgl (by omega) (by omega) (by omega)
      have hd0 : wr.cell? ⟨g, k * 2, none⟩ = some (.int .i64 (no : Int)) := by rw [Nat.mul_comm, cell_same hgs]; exact hc0
      have hd1 : wr.cell? ⟨g, k * 2 + 1, none⟩ = some (.slice pw ws.length ws.length) := by rw [Nat.mul_comm, cell_same hgs]; exact hc1
      obtain ⟨A, rfl, hAl, hwd⟩ := words_at hstr rfl (w' := wr) (fun j h1 h2 => hOut.same j h2 (by omega) (by omega) (by omega)) hOut.size hf.ne
      have hbw : Below w.heap.size w wr := hb02.trans (hOut.toBelow (by omega) (by omega) (Nat.le_refl _) (by omega))
      have HTk := Lib.hid (takeH hx)
      have HTB := Lib.hid hTB
      have HWd := Lib.hid hwd
      have HOut := Lib.hid hOut
      have hne := hf.ne
      have hfew := hf.few
      have HWz := Lib.hid hf.word
      clear hc0 hc1 hrd hstr hwd hTB hx hf
      obtain ⟨x, r, rfl⟩ : ∃ x r, ws = x :: r := by cases ws with | nil => exact absurd rfl hne | cons x r => exact ⟨x, r, rfl⟩
      have hcx := HWd.out 0 x rfl
      have hxz : x.length ≤ 512 := HWz.out x (by simp)
      have hbW : ∀ o, Below w.heap.size w (wr.alloc o) := fun o => hbw.alloc hbw.size o
      have HPA : Hid (∀ o, Calls Tryz.prog 20 #[.string ⟨x.toArray⟩] (wr.alloc o) (FourR (wr.alloc o) (parseP x))) := Lib.hid (fun o => paddr_any ⟨x.toArray⟩ (wr.alloc o) (by show x.toArray.size ≤ 100000; simp; omega) (HG.out.below (hbW o)))
      unfold FourR at HPA
      have HBA : ∀ o, Below wr.heap.size wr (wr.alloc o) := fun o => (Below.refl _ wr).alloc (Nat.le_refl _) o
      have HBa := Lib.hid HBA
      have HBw := Lib.hid hbw
      have HStep : Hid (rowsOf (T.take (k + 1)) = rowsOf (T.take k) ++ (rowOf (x :: r)).toList) := Lib.hid (by rw [HTk.out, rowsOf_snoc])
      clear HBA hbW
      cases hpa : parseP x with
      | none =>
        rw [hpa] at HPA
        have HNo : Hid (rowsOf (T.take (k + 1)) = rowsOf (T.take k)) := Lib.hid (by rw [HStep.out, rowOf_cons_none hpa]; simp)
        clear hpa HStep
        go_wp2_with (go_at_call 20; refine (HPA.out _).mono ?_; rintro e w5 ⟨rfl, hb5⟩)
        go_roundw
        case rel =>
          have hb := (HBa.out _).trans (hb5.mono (HBa.out _).size)
          exact ⟨k + 1, FF, GG, hlt, by go_num, by rw [HNo.out]; exact HTB.out.below hb, HOut.out.below HTB.out.size hb⟩
        case measure => simp [intOf]; omega
      | some pa =>
        rw [hpa] at HPA
        have hrl : r.length ≤ 512 := by simp at hfew; omega
        obtain ⟨a', ha', HTx⟩ : ∃ a' : Option Addr, (∀ W : World, (Instr.slice 32 (.slice (some ⟨A, 0, none⟩) (r.length + 1) (r.length + 1)) (some (.int .i64 1)) none none).run Tryz.prog W = .ok (.slice a' r.length r.length) W) ∧ Hid (TxAt wr a' r) := by
          have hel : Tryz.prog.elem 32 = 9 := by kernel_rfl
          refine ⟨if r.length = 0 then some ⟨A, 0, none⟩ else some ((⟨A, 0, none⟩ : Addr).add 1), fun W => ?_, Lib.hid ?_⟩
          · have := run_slice_l (P := Tryz.prog) (w := W) 32 (some ⟨A, 0, none⟩) (r.length + 1) (r.length + 1) (by rw [hel]; exact Tryz.underlying32) .i64 1 (by omega) (by omega)
            rw [this, hel, Tryz.sizeOf9]
            simp only [Result.andThen_ok, sliced]
            by_cases h0 : r.length = 0
            · rw [if_pos (by rw [h0]; rfl), if_pos h0, h0]; rfl
            · rw [if_neg (by show ¬ r.length + 1 = 1; omega), if_neg h0]
              rfl
          · intro j l hj
            have h0 : ¬ r.length = 0 := by have := (List.getElem?_eq_some_iff.1 hj).1; omega
            rw [if_neg h0]
            exact txAt_drop HWd.out hAl j l hj
        have HCl : Hid (∀ W, Below wr.heap.size wr W → Calls Tryz.prog 21 #[.slice a' r.length r.length] W fun e w' => ∃ v, e = .returned v ∧ StrC W.heap.size w' v (r.filterMap nm) ∧ Below W.heap.size W w') := Lib.hid (fun W hW => cleaned_any a' r.length r.length r W (HTx.out.below hW) rfl (Nat.le_refl _) (by omega) (by omega) (fun y hy => by have := HWz.out y (by simp [hy]); omega) (HM.out.below (HBw.out.trans (hW.mono HBw.out.size))))
        have hfl : (r.filterMap nm).length ≤ r.length := List.length_filterMap_le _ _
        by_cases hem : r.filterMap nm = []
        · have HNo : Hid (rowsOf (T.take (k + 1)) = rowsOf (T.take k)) := Lib.hid (by rw [HStep.out, rowOf_cons_some hpa, if_pos hem]; simp)
          clear hpa HStep hfl
          rw [hem] at HCl
          go_wp2_with (first | (go_at_call 20; refine (HPA.out _).mono ?_; rintro e w5 ⟨rfl, hb5⟩; have hb := (HBa.out _).trans (hb5.mono (HBa.out _).size); have hcl : w5.cell? ⟨wr.heap.size, 1, none⟩ = some (.slice (some ⟨A, 0, none⟩) (r.length + 1) (r.length + 1)) := (by rw [hb5.cell (p := ⟨wr.heap.size, 1, none⟩) (by show wr.heap.size < (Array.push _ _).size; simp)]; exact World.cell?_alloc_new ..)) | (go_at_call 21; refine (HCl.out _ hb).mono ?_; rintro e w6 ⟨v, rfl, hv6, hb6⟩; obtain ⟨p6, c6, rfl⟩ := hv6.shape))
          go_roundw
          case rel =>
            have hb2 := hb.trans (hb6.mono hb.size)
            exact ⟨k + 1, FF, GG, hlt, by go_num, by rw [HNo.out]; exact HTB.out.below hb2, HOut.out.below HTB.out.size hb2⟩
          case measure => simp [intOf]; omega
        · have HYes : Hid (rowsOf (T.take (k + 1)) = rowsOf (T.take k) ++ [(pa, r.filterMap nm)]) := Lib.hid (by rw [HStep.out, rowOf_cons_some hpa, if_neg hem]; simp)
          have hpos : 0 < (r.filterMap nm).length := List.length_pos_iff.2 hem
          have hpos' : ((r.filterMap nm).length : Int) > 0 := by omega
          have hpos2 : (0 : Int) < ((r.filterMap nm).length : Int) := by omega
          have hrn : (rowsOf (T.take k)).length ≤ 1000000 := by
            have h1 := rowsOf_few (T.take k)
            have h2 := List.length_take_le k T
            omega
          clear hpa HStep hem
          generalize r.filterMap nm = f at *
          go_wp2_with (first | (go_at_call 20; refine (HPA.out _).mono ?_; rintro e w5 ⟨rfl, hb5⟩; have hb := (HBa.out _).trans (hb5.mono (HBa.out _).size); have hcl : w5.cell? ⟨wr.heap.size, 1, none⟩ = some (.slice (some ⟨A, 0, none⟩) (r.length + 1) (r.length + 1)) := (by rw [hb5.cell (p := ⟨wr.heap.size, 1, none⟩) (by show wr.heap.size < (Array.push _ _).size; simp)]; exact World.cell?_alloc_new ..)) | (go_at_call 21; refine (HCl.out _ hb).mono ?_; rintro e w6 ⟨v, rfl, hv6, hb6⟩; obtain ⟨p6, c6, rfl⟩ := hv6.shape; have hb2 := hb.trans (hb6.mono hb.size)) | (go_at_call 22; refine (add_any _ _ _ _ _ _ _ FF GG _ ⟨pa.toArray⟩ _ f (HTB.out.below hb2) (lower hv6 (Nat.le_trans HTB.out.size hb.size)) ((HTB.out.below hb).apart hv6) hrn (fun q => addsOf_len _ q) (by omega)).mono ?_; rintro e w7 ⟨rfl, ⟨F7, G7, ht7⟩, ho7⟩))
          go_roundw
          case rel =>
            refine ⟨k + 1, F7, G7, hlt, by go_num, ?_, (HOut.out.below HTB.out.size hb2).trans ho7⟩
            rw [HYes.out, addsOf_fun_snoc, namesAt_fun_snoc, List.length_append]
            exact ht7
          case measure => simp [intOf]; omega
    · obtain rfl : k = T.length := by omega
      rw [List.take_length] at hTB
      have HTB := Lib.hid hTB
      clear hTB
      go_wp2
      go_ret
      exact ⟨_, rfl, ⟨_, _, _, _, _, by omega, by omega, HTB.out⟩, hb02.trans (hOut.toBelow (by omega) (by omega) (Nat.le_refl _) (by omega))⟩
end Go.Proofs.YtdfapebggghfdaaGreatDoor
