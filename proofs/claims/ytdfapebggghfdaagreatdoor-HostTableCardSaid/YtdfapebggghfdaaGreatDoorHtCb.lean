/- Contracts and plain facts that the law leans on. -/
import Derived.Test.YtdfapebggghfdaaGreatDoorHtCa
import Derived.Deep.RegionHeld3
import Derived.Lib.SplitLaws
import Derived.Lib.IndexMore
import Derived.WalkKit
import Derived.LoopTactic
import Derived.OwnWalk
import Derived.Lib.ParseIntB
namespace Go.Tx
open Go.RowKit Go.Mp
theorem TB.cast {L : Nat} {w : World} {p m1 m2 n : Nat} {A A' : List UInt8 → List (List UInt8)} {C : List UInt8 → Option (List (List UInt8))} {F G : ByteArray → Option Value} (h : TB L w p m1 m2 n A C F G) (e : ∀ j, A' j = A j) : TB L w p m1 m2 n A' C F G := by
  obtain rfl : A' = A := funext e
  exact h
/-- A region that draws its order, of which the first n operations read alone: they are walked in the text's order. -/
theorem region_tail' {P : Program} {id : Nat} {Q : Exit → Act → World → Prop} {a : Act} {w : World} {l : List Oper} (n : Nat) (hm : P.follows .mixedOrders = true) (hB : Region.lexTailB .any l.toArray n = true)
    (h : wpStill P l.toArray w.drew (fun a' => wpList P l.toArray Q (l.drop n) a' w.drew) (l.take n) a) : (Code.region id l.toArray true).wp P Q a w :=
  wp_region_still_tail n hm hB h
theorem cell_new (w : World) (o : Array Value) (e : TypeId) (j : Nat) : (w.alloc (.cells o e)).cell? ⟨w.heap.size, j, none⟩ = o[j]? := World.cell?_alloc_new ..
theorem own_drew {B : Nat} {e : TypeId} {size n : Nat} {v : Value} {xs : List Value} {w : World} (h : w.ownsRow B e size v n xs) : w.drew.ownsRow B e size v n xs := own_same h (fun _ _ => rfl)
theorem putN_take {a k : List UInt8} {l f : List (List UInt8)} {i : Nat} {x : List UInt8} (h : f[i]? = some x) : putN a k l (f.take (i + 1)) = if k = x then put32 a (putN a k l (f.take i)) else putN a k l (f.take i) := by
  rw [takeH h, putN_snoc]
  by_cases e : x = k
  · rw [if_pos e, if_pos e.symm]
  · rw [if_neg e, if_neg (fun h => e h.symm)]
theorem update_run {P : Program} {w : World} {b t key elem : Nat} {F : ByteArray → Option Value} (h : MapAt w b F) (ht : P.underlying t = some (.map key elem)) (hk : P.underlying key = some .string) (k : ByteArray) (v : Value) :
    ∃ w', (Instr.mapUpdate t (.map (some b)) (.string k) v).run P w = .ok () w' ∧ MapAt w' b (upd F k v) ∧ w'.heap.size = w.heap.size ∧ (∀ j, j ≠ b → w'.heap[j]? = w.heap[j]?) ∧ w'.os = w.os ∧ w'.tape = w.tape ∧ w'.output = w.output := by
  obtain ⟨O, hrun, r1⟩ := h.update ht hk k v
  refine ⟨_, hrun, r1, by simp, fun j hj => ?_, rfl, rfl, rfl⟩
  simp only [Array.getElem?_setIfInBounds]
  rw [if_neg (fun e => hj e.symm)]
end Go.Tx
namespace Go.Proofs.YtdfapebggghfdaaGreatDoor
open Go.RowKit Go.Lib Go.Tx Go.Mp
theorem step_append_run {ops : Array Oper} {o : Oper} {a : Act} {K : Act → World → Prop} {Q : Exit → Act → World → Prop} {E : Prop} {w : World} (hgd : o.guard = none) (s x : Operand)
    (ho : o.op = .call { callee := .builtin .append, args := #[s, x], argTypes := #[32, 32] }) {v y v' : Value} {w' : World} (hs : a.eval s = v) (hx : a.eval x = y)
    (hr : (Builtin.append_ #[32, 32] o.type #[v, y]).run Tryz.prog w = .ok v' w') (h : K (a.put o.dst v') w') :
    if Region.wanted o (yielded ops a.tmps) = true then Oper.wp Tryz.prog o a w K Q else E := by
  have hw : Region.wanted o (yielded ops a.tmps) = true := by simp [Region.wanted, hgd]
  rw [if_pos hw]
  unfold Oper.wp execOp
  simp only [ho, resolve, invoke, builtin, Sem.run_bind, Sem.run_pure, Result.andThen_ok, List.map_toArray, List.map_cons, List.map_nil, hs, hx, hr]
  exact h
def AddR (L : Nat) (w : World) (p m1 m2 n : Nat) (A : List UInt8 → List (List UInt8)) (C : List UInt8 → Option (List (List UInt8))) (a : List UInt8) (f : List (List UInt8)) (e : Ending) (w' : World) : Prop :=
  e = .returned (.tuple #[]) ∧ (∃ F G, TB L w' p m1 m2 (n + 1) (fun k => putN a k (A k) f) (setC C a f) F G) ∧ Out L w w' p m1 m2
set_option maxHeartbeats 1000000 in
set_option maxRecDepth 100000 in
theorem add_any (L p m1 m2 n : Nat) (A : List UInt8 → List (List UInt8)) (C : List UInt8 → Option (List (List UInt8))) (F G : ByteArray → Option Value) (w : World) (a : ByteArray) (v : Value) (f : List (List UInt8))
    (h : TB L w p m1 m2 n A C F G) (hv : StrC L w v f) (hap : Apart F v) (hn : n ≤ 1000000) (hA : ∀ k, (A k).length ≤ 32) (hf : f.length ≤ 1000) :
    Calls Tryz.prog 22 #[.pointer (some ⟨p, 0, none⟩), .string a, v] w (AddR L w p m1 m2 n A C a.data.toList f) := by
  obtain ⟨c0, c1, c2, f0⟩ := h.cells
  have hb : TB L (w.setCell ⟨p, 0, none⟩ (.int .i64 ((n : Int) + 1))) p m1 m2 (n + 1) A C F G := h.bump
  have hv2 : StrC L (w.setCell ⟨p, 0, none⟩ (.int .i64 ((n : Int) + 1))) v f := own_same hv (fun j hj => heap_setCell_ne _ _ _ _ _ (by have := h.pl; omega))
  have ho : Out L w (w.setCell ⟨p, 0, none⟩ (.int .i64 ((n : Int) + 1))) p m1 m2 := Out.bump h.pl (Out.refl _ _ _ _ _) _ _
  obtain ⟨pv, c, rfl⟩ := hv.shape
  have HB := Lib.hid hb
  have HV := Lib.hid hv2
  have HO := Lib.hid ho
  have HA := Lib.hid hA
  have HAP := Lib.hid hap
  have hGa := hb.hG a.data.toList
  rw [bk a] at hGa
  have hlk0 := MapAt.lookup2 hb.g Tryz.underlying41 Tryz.underlying9 (zeroS _) a
  clear h hb hv hv2 ho hA hap
  go_enter Tryz.func22, Tryz.ntmps22
  go_upto_region 1 with (fail)
  generalize (w.setCell ⟨p, 0, none⟩ (.int .i64 ((n : Int) + 1))) = w1 at *
  clear c0 c1 c2 f0
  obtain ⟨c0, c1, c2, f0⟩ := HB.out.cells
  cases hc : C a.data.toList with
  | some ws =>
    rw [hc] at hGa
    obtain ⟨va, hva, _⟩ := hGa
    rw [hva] at hlk0
    have hset : setC C a.data.toList f = C := by
      funext k
      unfold setC
      cases hk : C k with
      | some y => rfl
      | none => simp only; rw [if_neg (fun e => by rw [e, hc] at hk; cases hk)]
    rw [← hset] at HB
    obtain ⟨GG, hGG⟩ : ∃ GG, G = GG := ⟨_, rfl⟩
    rw [hGG] at HB
    clear hset hGG hva hc
    go_wp2
    go_loopw [37] (fun i wr => ∃ (k : Nat) (FF : ByteArray → Option Value), k ≤ f.length ∧ i = .int .i64 k ∧ TB L wr p m1 m2 (n + 1) (fun j => putN a.data.toList j (A j) (f.take k)) (setC C a.data.toList f) FF GG ∧ StrC L wr (.slice pv f.length c) f ∧ Apart FF (.slice pv f.length c) ∧ Out L w wr p m1 m2) (fun i _ => f.length - (intOf i).toNat)
    case atStart => exact ⟨0, F, Nat.zero_le _, rfl, HB.out, HV.out, HAP.out, HO.out⟩
    case round =>
      obtain ⟨k, FF, hk, rfl, hT, hS, hAp, hOut⟩ := hrel
      by_cases hlt : k < f.length
      · obtain ⟨x, hx⟩ : ∃ x, f[k]? = some x := ⟨_, List.getElem?_eq_getElem hlt⟩
        obtain ⟨pv', c', e', _, hcm, hr⟩ := hS.read
        cases e'
        obtain ⟨g, rfl, hg, hcell⟩ := hr k x hx
        obtain ⟨d0, d1, d2, _⟩ := hT.cells
        have hAk := hT.hF x
        obtain ⟨pa, ca, hva⟩ := hAk.shape
        rw [hva] at hAk
        have hlk : (Instr.lookup 41 (.map (some m1)) (.string ⟨x.toArray⟩) false).run Tryz.prog wr = .ok (.slice pa (putN a.data.toList x (A x) (f.take k)).length ca) wr := by
          rw [MapAt.lookup hT.f Tryz.underlying41 Tryz.underlying9 (zeroS wr) ⟨x.toArray⟩]
          exact congrArg (fun q => Result.ok q wr) hva
        have hl32 : (putN a.data.toList x (A x) (f.take k)).length ≤ 32 := putN_len _ _ _ _ (HA.out x)
        have HST := Lib.hid (fun j => (putN_take (a := a.data.toList) (k := j) (l := A j) hx))
        have hblk : Go.Tx.blk FF x = (Value.slice pa (putN a.data.toList x (A x) (f.take k)).length ca).ownBlock := by unfold Go.Tx.blk; rw [← hva]
        have HT := Lib.hid hT
        have HS2 := Lib.hid hS
        have HAk := Lib.hid hAk
        have HBl := Lib.hid hblk
        obtain ⟨T, hTT⟩ : ∃ T, putN a.data.toList x (A x) (f.take k) = T := ⟨_, rfl⟩
        rw [hTT] at hlk hl32 HAk HBl hva
        have HTT := Lib.hid hTT
        have HVA := Lib.hid hva
        clear hr hT hS hAk hTT hblk hva
        by_cases h32 : T.length < 32 ∧ a.data.toList ∉ T
        · obtain ⟨h1, h2⟩ := h32
          have h1' : (T.length : Int) < 32 := by omega
          have h2' : decide (a.data.toList ∈ T) = false := decide_eq_false h2
          go_wp2_with (go_at_call 34; refine (contains_any a _ HAk.out (by omega)).mono ?_; rintro e w2 ⟨rfl, hw⟩; obtain rfl : wr = w2 := hw.symm)
          have hB0 : Below wr.heap.size wr (wr.drew.alloc (.cells #[.string a] 9)) := ((Below.refl _ wr).drew).alloc (Nat.le_refl _) _
          have hT2 := HT.out.below hB0
          have hS2 := own_below HS2.out hB0
          obtain ⟨v', w5, hrun, hv5, hg5, hb5⟩ := append_one (w := wr.drew.alloc (.cells #[.string a] 9)) (B := L) a.data.toList ⟨wr.heap.size, 0, none⟩ (by have := cell_new wr.drew #[.string a] 9 0; exact this) (own_below HAk.out hB0) (by omega) hT2.size 32
          rw [← HBl.out] at hg5 hb5
          obtain ⟨q1, q2, q3, q4, _, _⟩ := hT2.grown (k := x) (r := Go.Tx.blk FF x) (.inr rfl) hg5
          obtain ⟨w9, hup, hm9, hs9, hh9, ho9, ht9, hu9⟩ := update_run (hT2.f.same q3) Tryz.underlying41 Tryz.underlying9 ⟨x.toArray⟩ v'
          have HC5 : Hid (w5.cell? ⟨p, 1, none⟩ = some (.map (some m1))) := Lib.hid (by rw [World.cell?_of_block (w := wr.drew.alloc (.cells #[.string a] 9)) (a := ⟨p, 1, none⟩) q2]; exact hT2.cells.2.1)
          have HP := Lib.hid (hT2.putF (x := x) (a := a.data.toList) (by rw [HTT.out]; exact hv5) hg5 hb5 hm9 hs9 hh9)
          have HO5 : Hid (Out L w w9 p m1 m2) := Lib.hid ((hOut.below HT.out.size hB0).trans ⟨ho9.trans hg5.os, ht9.trans hg5.tape, hu9.trans hg5.output, by rw [hs9]; exact hg5.size, fun j a1 _ a3 _ => by
            rw [hh9 j a3]
            exact hg5.block j (Nat.lt_of_lt_of_le a1 hT2.size) (fun e => by have := (hT2.lt e.symm).1; omega)⟩)
          have HC9 := Lib.hid HP.out.1.cells.2.1
          have HS5 := Lib.hid (HP.out.2 hS2 hAp)
          have HPut : Hid (put32 a.data.toList T = T ++ [a.data.toList]) := Lib.hid (by unfold put32; rw [if_pos ⟨h1, h2⟩])
          clear hT2 hS2 hv5 hg5 hb5 hm9 hs9 hh9 ho9 ht9 hu9 q1 q2 q3 q4 hOut hAp hB0
          go_region_held3 (fun w' => w'.cell? ⟨p, 1, none⟩ = some (.map (some m1))) (first | exact HC5.out | exact HC9.out | go_keep) (refine step_append_run (v' := v') (w' := w5) (by rfl) _ _ (by rfl) (by rfl) (by rfl) (by exact hrun) ?_)
          go_wp2
          go_roundw
          case rel => exact ⟨k + 1, _, hlt, by go_num, HP.out.1.cast (fun j => by
              rw [HST.out j]
              by_cases e : j = x
              · subst e; rw [if_pos rfl, if_pos rfl, HTT.out, HPut.out]
              · rw [if_neg e, if_neg e]), HS5.out.1, HS5.out.2, HO5.out⟩
          case measure => simp [intOf]; omega
        · have HN : Hid (put32 a.data.toList T = T) := Lib.hid (by unfold put32; rw [if_neg h32])
          have HP : Hid (Calls Tryz.prog 34 #[.slice pa T.length ca, .string a] wr fun e w' => e = .returned (.bool (decide (a.data.toList ∈ T))) ∧ w' = wr) := Lib.hid (contains_any a _ HAk.out (by omega))
          by_cases h1 : T.length < 32
          · have h1' : (T.length : Int) < 32 := by omega
            have h2 : decide (a.data.toList ∈ T) = true := decide_eq_true (Classical.byContradiction fun h2 => h32 ⟨h1, h2⟩)
            go_wp2_with (go_at_call 34; refine HP.out.mono ?_; rintro e w2 ⟨rfl, hw⟩; obtain rfl : wr = w2 := hw.symm)
            go_roundw
            case rel => exact ⟨k + 1, FF, hlt, by go_num, HT.out.cast (fun j => by rw [HST.out j]; split; · rename_i e; subst e; rw [HTT.out, HN.out]
                                                                                   · rfl), HS2.out, hAp, hOut⟩
            case measure => simp [intOf]; omega
          · have h1' : ¬ (T.length : Int) < 32 := by omega
            go_wp2_with (go_at_call 34; refine HP.out.mono ?_; rintro e w2 ⟨rfl, hw⟩; obtain rfl : wr = w2 := hw.symm)
            go_roundw
            case rel => exact ⟨k + 1, FF, hlt, by go_num, HT.out.cast (fun j => by rw [HST.out j]; split; · rename_i e; subst e; rw [HTT.out, HN.out]
                                                                                   · rfl), HS2.out, hAp, hOut⟩
            case measure => simp [intOf]; omega
      · obtain rfl : k = f.length := by omega
        rw [List.take_length] at hT
        have HT := Lib.hid hT
        clear hT hS
        go_wp2
        go_end0
        exact ⟨rfl, ⟨FF, GG, HT.out⟩, hOut⟩
  | none =>
    rw [hc] at hGa
    simp only at hGa
    rw [hGa] at hlk0
    have HC := Lib.hid hc
    clear hc
    obtain ⟨w9, hup, hm9, hs9, hh9, ho9, ht9, hu9⟩ := update_run HB.out.g Tryz.underlying41 Tryz.underlying9 a (.slice pv f.length c)
    have HB9 := Lib.hid (HB.out.putG HC.out HV.out HAP.out hm9 hs9 hh9)
    have HV9 : Hid (StrC L w9 (.slice pv f.length c) f) := Lib.hid (own_same HV.out (fun j hj => hh9 j (by have := HB.out.l2; omega)))
    have HO9 : Hid (Out L w w9 p m1 m2) := Lib.hid (HO.out.trans ⟨ho9, ht9, hu9, by rw [hs9]; exact Nat.le_refl _, fun j _ _ _ a4 => hh9 j a4⟩)
    obtain ⟨GG, hGG⟩ : ∃ GG, upd G a (.slice pv f.length c) = GG := ⟨_, rfl⟩
    rw [hGG] at HB9
    clear hm9 hs9 hh9 ho9 ht9 hu9 hGG hGa HB HV HO
    have HB := HB9
    have HV := HV9
    have HO := HO9
    clear HB9 HV9 HO9
    obtain ⟨y0, y1, y2, _⟩ := HB.out.cells
    go_wp2
    go_loopw [37] (fun i wr => ∃ (k : Nat) (FF : ByteArray → Option Value), k ≤ f.length ∧ i = .int .i64 k ∧ TB L wr p m1 m2 (n + 1) (fun j => putN a.data.toList j (A j) (f.take k)) (setC C a.data.toList f) FF GG ∧ StrC L wr (.slice pv f.length c) f ∧ Apart FF (.slice pv f.length c) ∧ Out L w wr p m1 m2) (fun i _ => f.length - (intOf i).toNat)
    case atStart => exact ⟨0, F, Nat.zero_le _, rfl, HB.out, HV.out, HAP.out, HO.out⟩
    case round =>
      obtain ⟨k, FF, hk, rfl, hT, hS, hAp, hOut⟩ := hrel
      by_cases hlt : k < f.length
      · obtain ⟨x, hx⟩ : ∃ x, f[k]? = some x := ⟨_, List.getElem?_eq_getElem hlt⟩
        obtain ⟨pv', c', e', _, hcm, hr⟩ := hS.read
        cases e'
        obtain ⟨g, rfl, hg, hcell⟩ := hr k x hx
        obtain ⟨d0, d1, d2, _⟩ := hT.cells
        have hAk := hT.hF x
        obtain ⟨pa, ca, hva⟩ := hAk.shape
        rw [hva] at hAk
        have hlk : (Instr.lookup 41 (.map (some m1)) (.string ⟨x.toArray⟩) false).run Tryz.prog wr = .ok (.slice pa (putN a.data.toList x (A x) (f.take k)).length ca) wr := by
          rw [MapAt.lookup hT.f Tryz.underlying41 Tryz.underlying9 (zeroS wr) ⟨x.toArray⟩]
          exact congrArg (fun q => Result.ok q wr) hva
        have hl32 : (putN a.data.toList x (A x) (f.take k)).length ≤ 32 := putN_len _ _ _ _ (HA.out x)
        have HST := Lib.hid (fun j => (putN_take (a := a.data.toList) (k := j) (l := A j) hx))
        have hblk : Go.Tx.blk FF x = (Value.slice pa (putN a.data.toList x (A x) (f.take k)).length ca).ownBlock := by unfold Go.Tx.blk; rw [← hva]
        have HT := Lib.hid hT
        have HS2 := Lib.hid hS
        have HAk := Lib.hid hAk
        have HBl := Lib.hid hblk
        obtain ⟨T, hTT⟩ : ∃ T, putN a.data.toList x (A x) (f.take k) = T := ⟨_, rfl⟩
        rw [hTT] at hlk hl32 HAk HBl hva
        have HTT := Lib.hid hTT
        have HVA := Lib.hid hva
        clear hr hT hS hAk hTT hblk hva
        by_cases h32 : T.length < 32 ∧ a.data.toList ∉ T
        · obtain ⟨h1, h2⟩ := h32
          have h1' : (T.length : Int) < 32 := by omega
          have h2' : decide (a.data.toList ∈ T) = false := decide_eq_false h2
          go_wp2_with (go_at_call 34; refine (contains_any a _ HAk.out (by omega)).mono ?_; rintro e w2 ⟨rfl, hw⟩; obtain rfl : wr = w2 := hw.symm)
          have hB0 : Below wr.heap.size wr (wr.drew.alloc (.cells #[.string a] 9)) := ((Below.refl _ wr).drew).alloc (Nat.le_refl _) _
          have hT2 := HT.out.below hB0
          have hS2 := own_below HS2.out hB0
          obtain ⟨v', w5, hrun, hv5, hg5, hb5⟩ := append_one (w := wr.drew.alloc (.cells #[.string a] 9)) (B := L) a.data.toList ⟨wr.heap.size, 0, none⟩ (by have := cell_new wr.drew #[.string a] 9 0; exact this) (own_below HAk.out hB0) (by omega) hT2.size 32
          rw [← HBl.out] at hg5 hb5
          obtain ⟨q1, q2, q3, q4, _, _⟩ := hT2.grown (k := x) (r := Go.Tx.blk FF x) (.inr rfl) hg5
          obtain ⟨w9, hup, hm9, hs9, hh9, ho9, ht9, hu9⟩ := update_run (hT2.f.same q3) Tryz.underlying41 Tryz.underlying9 ⟨x.toArray⟩ v'
          have HC5 : Hid (w5.cell? ⟨p, 1, none⟩ = some (.map (some m1))) := Lib.hid (by rw [World.cell?_of_block (w := wr.drew.alloc (.cells #[.string a] 9)) (a := ⟨p, 1, none⟩) q2]; exact hT2.cells.2.1)
          have HP := Lib.hid (hT2.putF (x := x) (a := a.data.toList) (by rw [HTT.out]; exact hv5) hg5 hb5 hm9 hs9 hh9)
          have HO5 : Hid (Out L w w9 p m1 m2) := Lib.hid ((hOut.below HT.out.size hB0).trans ⟨ho9.trans hg5.os, ht9.trans hg5.tape, hu9.trans hg5.output, by rw [hs9]; exact hg5.size, fun j a1 _ a3 _ => by
            rw [hh9 j a3]
            exact hg5.block j (Nat.lt_of_lt_of_le a1 hT2.size) (fun e => by have := (hT2.lt e.symm).1; omega)⟩)
          have HC9 := Lib.hid HP.out.1.cells.2.1
          have HS5 := Lib.hid (HP.out.2 hS2 hAp)
          have HPut : Hid (put32 a.data.toList T = T ++ [a.data.toList]) := Lib.hid (by unfold put32; rw [if_pos ⟨h1, h2⟩])
          clear hT2 hS2 hv5 hg5 hb5 hm9 hs9 hh9 ho9 ht9 hu9 q1 q2 q3 q4 hOut hAp hB0
          go_region_held3 (fun w' => w'.cell? ⟨p, 1, none⟩ = some (.map (some m1))) (first | exact HC5.out | exact HC9.out | go_keep) (refine step_append_run (v' := v') (w' := w5) (by rfl) _ _ (by rfl) (by rfl) (by rfl) (by exact hrun) ?_)
          go_wp2
          go_roundw
          case rel => exact ⟨k + 1, _, hlt, by go_num, HP.out.1.cast (fun j => by
              rw [HST.out j]
              by_cases e : j = x
              · subst e; rw [if_pos rfl, if_pos rfl, HTT.out, HPut.out]
              · rw [if_neg e, if_neg e]), HS5.out.1, HS5.out.2, HO5.out⟩
          case measure => simp [intOf]; omega
        · have HN : Hid (put32 a.data.toList T = T) := Lib.hid (by unfold put32; rw [if_neg h32])
          have HP : Hid (Calls Tryz.prog 34 #[.slice pa T.length ca, .string a] wr fun e w' => e = .returned (.bool (decide (a.data.toList ∈ T))) ∧ w' = wr) := Lib.hid (contains_any a _ HAk.out (by omega))
          by_cases h1 : T.length < 32
          · have h1' : (T.length : Int) < 32 := by omega
            have h2 : decide (a.data.toList ∈ T) = true := decide_eq_true (Classical.byContradiction fun h2 => h32 ⟨h1, h2⟩)
            go_wp2_with (go_at_call 34; refine HP.out.mono ?_; rintro e w2 ⟨rfl, hw⟩; obtain rfl : wr = w2 := hw.symm)
            go_roundw
            case rel => exact ⟨k + 1, FF, hlt, by go_num, HT.out.cast (fun j => by rw [HST.out j]; split; · rename_i e; subst e; rw [HTT.out, HN.out]
                                                                                   · rfl), HS2.out, hAp, hOut⟩
            case measure => simp [intOf]; omega
          · have h1' : ¬ (T.length : Int) < 32 := by omega
            go_wp2_with (go_at_call 34; refine HP.out.mono ?_; rintro e w2 ⟨rfl, hw⟩; obtain rfl : wr = w2 := hw.symm)
            go_roundw
            case rel => exact ⟨k + 1, FF, hlt, by go_num, HT.out.cast (fun j => by rw [HST.out j]; split; · rename_i e; subst e; rw [HTT.out, HN.out]
                                                                                   · rfl), HS2.out, hAp, hOut⟩
            case measure => simp [intOf]; omega
      · obtain rfl : k = f.length := by omega
        rw [List.take_length] at hT
        have HT := Lib.hid hT
        clear hT hS
        go_wp2
        go_end0
        exact ⟨rfl, ⟨FF, GG, HT.out⟩, hOut⟩
end Go.Proofs.YtdfapebggghfdaaGreatDoor

namespace Go.Proofs.YtdfapebggghfdaaGreatDoor
open Go.RowKit Go.Lib Go.Tx Go.Proofs
theorem idx10 (a : Option Addr) (n c : Nat) (l : List UInt8) (b2 : Nat) (w : World) (h : BA w a n c l) (h2 : w.cell? ⟨b2, 0, none⟩ = some (.int .u8 10)) :
    Calls Tryz.prog 44 #[.slice a n c, .slice (some ⟨b2, 0, none⟩) 1 1] w fun e w' => e = .returned (.int .i64 (Lib.indexByte l 10)) ∧ ∃ q, w' = w.drewN q := by
  have hlen := h.len
  cases a with
  | none =>
    have := h.none rfl
    have hcap := h.cap
    obtain rfl : c = 0 := by omega
    obtain rfl : n = 0 := by omega
    obtain rfl : l = [] := List.eq_nil_of_length_eq_zero hlen
    refine (Tryz.bytes_Index_one_nil b2 0 1 10 w h2).mono ?_
    rintro e w' ⟨rfl, rfl⟩
    exact ⟨rfl, 0, rfl⟩
  | some x =>
    have := Tryz.bytes_Index_one_at x n c b2 0 1 (l.map fun b => (b.toNat : Int)) 10 w (by simpa using hlen) (fun i hi => by
      have hil : i < l.length := by omega
      rw [h.cell x rfl i _ (List.getElem?_eq_getElem hil)]
      simp [hil]) h2
    have e1 : Lib.bytesOf (l.map fun b => (b.toNat : Int)) = l := by
      simp [Lib.bytesOf, Function.comp_def]
    rw [e1] at this
    refine this.mono ?_
    rintro e w' ⟨rfl, rfl⟩
    exact ⟨rfl, 0, rfl⟩
theorem _root_.Go.Tx.BA.take {w : World} {a : Option Addr} {n c : Nat} {l : List UInt8} (h : BA w a n c l) {i : Nat} (hi : i ≤ n) : BA w a i c (l.take i) :=
  ⟨by rw [List.length_take, h.len]; omega, Nat.le_trans hi h.cap, h.max, h.none, fun x hx j b hj => h.cell x hx j b (by
    rw [List.getElem?_take] at hj
    split at hj
    · exact hj
    · cases hj)⟩
theorem add_add (x : Addr) (i j : Nat) : (x.add i).add j = x.add (i + j) := by
  unfold Addr.add
  by_cases h1 : i = 0
  · subst h1; simp
  · by_cases h2 : j = 0
    · subst h2; simp [h1]
    · simp [h1, h2]; omega
theorem _root_.Go.Tx.BA.from {w : World} {a : Option Addr} {n c : Nat} {l : List UInt8} (h : BA w a n c l) {j : Nat} (hj : j ≤ n) : BA w (if c = j then a else a.map fun x => x.add j) (n - j) (c - j) (l.drop j) := by
  have hcap := h.cap
  have hmax := h.max
  refine ⟨by rw [List.length_drop, h.len], by omega, by omega, fun ha => ?_, fun x hx k b hk => ?_⟩
  · split at ha
    · omega
    · have : a = none := by simpa using ha
      have := h.none this
      omega
  · rw [List.getElem?_drop] at hk
    have hlt := (List.getElem?_eq_some_iff.1 hk).1
    rw [h.len] at hlt
    split at hx
    · omega
    · cases a with
      | none => simp at hx
      | some y =>
        simp at hx
        subst hx
        rw [add_add]
        exact h.cell y rfl _ b hk
theorem cut10_yes (a : Option Addr) (n c : Nat) (l : List UInt8) (b2 i : Nat) (w : World) (h : BA w a n c l) (h2 : w.cell? ⟨b2, 0, none⟩ = some (.int .u8 10)) (hn : n ≤ 1000000) (hi : Lib.indexByte l 10 = i) :
    Calls Tryz.prog 29 #[.slice a n c, .slice (some ⟨b2, 0, none⟩) 1 1] w fun e w' => e = .returned (.tuple #[.slice a i c, .slice (if c = i + 1 then a else a.map fun x => x.add (i + 1)) (n - (i + 1)) (c - (i + 1)), .bool true]) ∧ ∃ q, w' = w.drewN q := by
  have hlt := indexByte_lt l 10
  have hlt : i < n := by
    rw [hi, h.len] at hlt
    rcases hlt with hlt | hlt
    · omega
    · rw [hlt] at hi; simp [Lib.indexByte] at hi
  have := Tryz.bytes_Cut_of a (some ⟨b2, 0, none⟩) n c 1 1 (Lib.indexByte l 10) w h.cap (Lib.indexByte_ge _ _) (by rw [hi]; omega) (by omega) (idx10 a n c l b2 w h h2)
  rw [hi] at this
  have e1 : Lib.cutV a n c 1 (i : Int) = .tuple #[.slice a i c, .slice (if c = i + 1 then a else a.map fun x => x.add (i + 1)) (n - (i + 1)) (c - (i + 1)), .bool true] := by
    unfold Lib.cutV Lib.fromV
    rw [if_pos (by omega)]
    simp
  rw [e1] at this
  exact this
theorem cut10_no (a : Option Addr) (n c : Nat) (l : List UInt8) (b2 : Nat) (w : World) (h : BA w a n c l) (h2 : w.cell? ⟨b2, 0, none⟩ = some (.int .u8 10)) (hn : n ≤ 1000000) (hi : Lib.indexByte l 10 < 0) :
    Calls Tryz.prog 29 #[.slice a n c, .slice (some ⟨b2, 0, none⟩) 1 1] w fun e w' => e = .returned (.tuple #[.slice a n c, .slice none 0 0, .bool false]) ∧ ∃ q, w' = w.drewN q := by
  have := Tryz.bytes_Cut_of a (some ⟨b2, 0, none⟩) n c 1 1 (Lib.indexByte l 10) w h.cap (Lib.indexByte_ge _ _) (by omega) (by omega) (idx10 a n c l b2 w h h2)
  have e1 : Lib.cutV a n c 1 (Lib.indexByte l 10) = .tuple #[.slice a n c, .slice none 0 0, .bool false] := by
    unfold Lib.cutV
    rw [if_neg (by omega)]
  rw [e1] at this
  exact this
theorem info68 : (Tryz.prog.info? 47).map (fun i => (i.zero, i.size, i.bytes)) = some (some (.agg #[.int .i64 0, .slice none 0 0]), 2, 32) := by kernel_rfl
theorem _root_.Go.Tx.BA.nil (w : World) : BA w none 0 0 [] := ⟨rfl, Nat.le_refl _, by decide, fun _ => rfl, fun x hx => by cases hx⟩
def LinesR (w : World) (T : List (Nat × List (List UInt8))) (e : Ending) (w' : World) : Prop := ∃ v, e = .returned v ∧ LinesAt w.heap.size w' v T ∧ Below w.heap.size w w'
theorem new_cells (w : World) (x y : Value) (e : TypeId) : ∀ j u, [x, y][j]? = some u → (w.alloc (.cells #[x, y] e)).cell? ((⟨w.heap.size, 0, none⟩ : Addr).add j) = some u := by
  intro j u hj
  have ha : (⟨w.heap.size, 0, none⟩ : Addr).add j = ⟨w.heap.size, j, none⟩ := by unfold Addr.add; split <;> simp_all
  rw [ha, World.cell?_alloc_new]
  simpa using hj
def lenOfV : Value → Nat
  | .slice _ n _ => n
  | _ => 0
/-- What holds at the head of each round. -/
structure LI (w : World) (l0 : List UInt8) (body told no : Value) (wr : World) (a : Option Addr) (n c N : Nat) (l : List UInt8) (T : List (Nat × List (List UInt8))) : Prop where
  body : body = .slice a n c
  no : no = .int .i64 N
  ba : BA w a n c l
  old : ∀ x, a = some x → x.block < w.heap.size
  told : LinesAt w.heap.size wr told T
  all : toldG 1 [] l0 = T ++ toldG N [] l
  few : T.length + 1 ≤ N
  sum : N + n ≤ l0.length + 1
  bel : Below w.heap.size w wr
theorem words_none (a : Option Addr) (n c : Nat) (l : List UInt8) (w : World) (h : BA w a n c l) (hw : wordsOf l = []) :
    Calls Tryz.prog 30 #[.slice a n c] w fun e w' => ∃ p, e = .returned (.slice p 0 0) ∧ Below w.heap.size w w' := by
  refine (words_any a n c l w h).mono ?_
  rintro e w' ⟨v, rfl, hs, hb⟩
  obtain ⟨p, rfl⟩ := hs.shape
  rw [hw]
  exact ⟨p, rfl, hb⟩
theorem words_some (a : Option Addr) (n c : Nat) (l : List UInt8) (w : World) (h : BA w a n c l) (hw : ¬ wordsOf l = []) :
    Calls Tryz.prog 30 #[.slice a n c] w fun e w' => ∃ p k, e = .returned (.slice p k k) ∧ 0 < k ∧ Hid (Strs w.heap.size w' (.slice p k k) (wordsOf l)) ∧ Below w.heap.size w w' := by
  refine (words_any a n c l w h).mono ?_
  rintro e w' ⟨v, rfl, hs, hb⟩
  obtain ⟨p, rfl⟩ := hs.shape
  exact ⟨p, _, rfl, List.length_pos_iff.2 hw, Lib.hid hs, hb⟩
theorem tell_none {no : Nat} {l : List UInt8} (h : wordsOf l = []) : tell no l = [] := by simp [tell, h]
theorem tell_some {no : Nat} {l : List UInt8} (h : ¬ wordsOf l = []) : tell no l = [(no, wordsOf l)] := by simp [tell, h]
theorem told_end (N : Nat) : toldG N [] [] = [] := by simp [toldG, tell_none wordsOf_nil]
/-- The world behind a cut and the words of a line. -/
theorem bel_words {w wr w3 : World} {o : Obj} {q : Nat} (hbel : Below w.heap.size w wr) (hb3 : Below ((wr.alloc o).drewN q).heap.size ((wr.alloc o).drewN q) w3) : Below w.heap.size w w3 :=
  (below_drewN' (hbel.alloc hbel.size o) q).trans (hb3.mono (by have := hbel.size; show w.heap.size ≤ (wr.heap.push o).size; simp; omega))
set_option maxHeartbeats 2000000 in
set_option maxRecDepth 100000 in
theorem lines_any (a : Option Addr) (n c : Nat) (l : List UInt8) (w : World) (h : BA w a n c l) (hold : ∀ x, a = some x → x.block < w.heap.size) (hn : n ≤ 1000000) :
    Calls Tryz.prog 19 #[.slice a n c] w (LinesR w (toldG 1 [] l)) := by
  obtain ⟨i0, hi, hz0, hz1, hz2⟩ := info_parts info68
  have hsum := h.len
  have HS := Lib.hid hsum
  clear hsum
  go_enter Tryz.func19, Tryz.ntmps19
  go_wp2
  go_loopw [0, 3, 4] (fun body told no wr => ∃ a n c N l' T, LI w l body told no wr a n c N l' T) (fun body _ _ _ => lenOfV body)
  case atStart => exact ⟨a, n, c, 1, l, [], rfl, rfl, h, hold, LinesAt.nil _ _, rfl, by simp, by rw [HS.out]; omega, Below.refl _ _⟩
  case round =>
    clear h hold
    obtain ⟨a', n', c', N, l', T, hL⟩ := hrel
    obtain ⟨rfl, rfl, hba, hold, htold, hall, hfew, hsum, hbel⟩ := hL
    have hw0 := hbel.size
    by_cases hpos : 0 < n'
    · have hn' : n' ≤ 1000000 := by have := HS.out; omega
      have hN : N ≤ 1000001 := by have := HS.out; omega
      have HBA : Hid (∀ o, BA (wr.alloc o) a' n' c' l') := Lib.hid fun o => hba.below (hbel.alloc hbel.size o) hold
      have HQ : Hid (∀ o q, BA ((wr.alloc o).drewN q) a' n' c' l') := Lib.hid fun o q => hba.below (below_drewN' (hbel.alloc hbel.size o) q) hold
      have hcap := hba.cap
      have hmax := hba.max
      obtain ⟨xs, hown, hent⟩ := htold
      have HE := Lib.hid hent
      have HO := Lib.hid hown
      have HALL := Lib.hid hall
      have HLEN := Lib.hid hba.len
      clear hent hown hall
      by_cases hidx : Lib.indexByte l' 10 < 0
      · have HI := Lib.hid hidx
        clear hidx
        by_cases hws : wordsOf l' = []
        · have HW := Lib.hid hws
          clear hws hba
          go_wp2_with (first | (go_at_call 29; refine (cut10_no a' n' c' l' wr.heap.size _ (HBA.out _) (World.cell?_alloc_new _ _ _ _) hn' HI.out).mono ?_; rintro e w2 ⟨rfl, q, rfl⟩) | (go_at_call 30; refine (words_none a' n' c' l' _ (HQ.out _ _) HW.out).mono ?_; rintro e w3 ⟨p, rfl, hb3⟩))
          go_roundw
          case rel => exact ⟨none, 0, 0, N + 1, [], T, rfl, by go_num, BA.nil w, (fun x hx => by cases hx), (show LinesAt w.heap.size wr _ T from ⟨xs, HO.out, HE.out⟩).below (bel_words (Below.refl _ _) hb3), by rw [HALL.out, toldG_no _ _ _ HI.out, List.nil_append, tell_none HW.out, told_end], by omega, by omega, bel_words hbel hb3⟩
          case measure => exact hpos
        · have HW := Lib.hid hws
          clear hws hba
          go_wp2_with (first | (go_at_call 29; refine (cut10_no a' n' c' l' wr.heap.size _ (HBA.out _) (World.cell?_alloc_new _ _ _ _) hn' HI.out).mono ?_; rintro e w2 ⟨rfl, q, rfl⟩) | (go_at_call 30; refine (words_some a' n' c' l' _ (HQ.out _ _) HW.out).mono ?_; rintro e w3 ⟨p, k, rfl, hk, hs, hb3⟩) | (at_builtin; refine wpList_append_own _ rfl _ _ 44 rfl w.heap.size 47 i0 (.agg #[.int .i64 0, .slice none 0 0]) 2 32 Tryz.underlying44 hi hz0 hz1 hz2 rfl (by decide) _ _ _ rfl ((own_below (own_drewN (HO.out.alloc _) q) hb3).alloc _) ⟨w3.heap.size, 0, none⟩ 1 1 [.int .i64 N, .slice p k k] rfl rfl (new_cells _ _ _ _) (by simp [Value.oneCell']) (by unfold maxLen; omega) (by omega) (by have := (bel_words hbel hb3).size; show w.heap.size ≤ (w3.heap.push _).size; simp; omega) ?_; intro v' w5 hown5 hg5 _))
          go_roundw
          case rel => exact ⟨none, 0, 0, N + 1, [], T ++ [(N, wordsOf l')], rfl, by go_num, BA.nil w, (fun x hx => by cases hx), LinesAt.push ((own_below (own_drewN (HO.out.alloc _) q) hb3).alloc _) (fun i no ws h => by obtain ⟨x1, wv, x2, x3⟩ := HE.out i no ws h; exact ⟨x1, wv, x2, (x3.below (bel_words (Below.refl _ _) hb3)).below (Below.alloc (Below.refl _ _) (Nat.le_refl _) _)⟩) ((hs.out.base (by show w.heap.size ≤ (wr.heap.push _).size; simp; omega)).below (Below.alloc (Below.refl _ _) (Nat.le_refl _) _)) hown5 hg5, by rw [HALL.out, toldG_no _ _ _ HI.out, List.nil_append, tell_some HW.out, told_end, List.append_nil], by simp; omega, by omega, ((bel_words hbel hb3).alloc (bel_words hbel hb3).size _).grown hg5 (by have := (bel_words hbel hb3).size; show w.heap.size ≤ (w3.heap.push _).size; simp; omega) (fun g hg => (HO.out.lt g hg).1)⟩
          case measure => exact hpos
      · obtain ⟨i, hi'⟩ : ∃ i : Nat, Lib.indexByte l' 10 = i := ⟨(Lib.indexByte l' 10).toNat, by omega⟩
        have hlt : i < n' := by
          have h1 := indexByte_lt l' 10
          have h2 := HLEN.out
          rcases h1 with h1 | h1
          · omega
          · rw [h1] at h2; simp at h2; omega
        have HI := Lib.hid hi'
        have HF := Lib.hid (hba.from (j := i + 1) hlt)
        have HOLD : Hid (∀ x, (if c' = i + 1 then a' else a'.map fun x => x.add (i + 1)) = some x → x.block < w.heap.size) := Lib.hid (by
          intro x hx
          split at hx
          · exact hold x hx
          · cases a' with
            | none => simp at hx
            | some y =>
              simp at hx
              subst hx
              have : (y.add (i + 1)).block = y.block := by unfold Addr.add; split <;> rfl
              rw [this]
              exact hold y rfl)
        have HLT := Lib.hid hlt
        clear hidx hi' hba
        by_cases hws : wordsOf (l'.take i) = []
        · have HW := Lib.hid hws
          clear hws
          go_wp2_with (first | (go_at_call 29; refine (cut10_yes a' n' c' l' wr.heap.size i _ (HBA.out _) (World.cell?_alloc_new _ _ _ _) hn' HI.out).mono ?_; rintro e w2 ⟨rfl, q, rfl⟩) | (go_at_call 30; refine (words_none a' i c' (l'.take i) _ ((HQ.out _ _).take (Nat.le_of_lt HLT.out)) HW.out).mono ?_; rintro e w3 ⟨p, rfl, hb3⟩))
          go_roundw
          case rel => exact ⟨_, _, _, N + 1, _, T, rfl, by go_num, HF.out, HOLD.out, (show LinesAt w.heap.size wr _ T from ⟨xs, HO.out, HE.out⟩).below (bel_words (Below.refl _ _) hb3), by rw [HALL.out, toldG_nl i _ _ _ HI.out, List.nil_append, tell_none HW.out, List.nil_append], by omega, by omega, bel_words hbel hb3⟩
          case measure => simp only [lenOfV]; omega
        · have HW := Lib.hid hws
          clear hws
          go_wp2_with (first | (go_at_call 29; refine (cut10_yes a' n' c' l' wr.heap.size i _ (HBA.out _) (World.cell?_alloc_new _ _ _ _) hn' HI.out).mono ?_; rintro e w2 ⟨rfl, q, rfl⟩) | (go_at_call 30; refine (words_some a' i c' (l'.take i) _ ((HQ.out _ _).take (Nat.le_of_lt HLT.out)) HW.out).mono ?_; rintro e w3 ⟨p, k, rfl, hk, hs, hb3⟩) | (at_builtin; refine wpList_append_own _ rfl _ _ 44 rfl w.heap.size 47 i0 (.agg #[.int .i64 0, .slice none 0 0]) 2 32 Tryz.underlying44 hi hz0 hz1 hz2 rfl (by decide) _ _ _ rfl ((own_below (own_drewN (HO.out.alloc _) q) hb3).alloc _) ⟨w3.heap.size, 0, none⟩ 1 1 [.int .i64 N, .slice p k k] rfl rfl (new_cells _ _ _ _) (by simp [Value.oneCell']) (by unfold maxLen; omega) (by omega) (by have := (bel_words hbel hb3).size; show w.heap.size ≤ (w3.heap.push _).size; simp; omega) ?_; intro v' w5 hown5 hg5 _))
          go_roundw
          case rel => exact ⟨_, _, _, N + 1, _, T ++ [(N, wordsOf (l'.take i))], rfl, by go_num, HF.out, HOLD.out, LinesAt.push ((own_below (own_drewN (HO.out.alloc _) q) hb3).alloc _) (fun i no ws h => by obtain ⟨x1, wv, x2, x3⟩ := HE.out i no ws h; exact ⟨x1, wv, x2, (x3.below (bel_words (Below.refl _ _) hb3)).below (Below.alloc (Below.refl _ _) (Nat.le_refl _) _)⟩) ((hs.out.base (by show w.heap.size ≤ (wr.heap.push _).size; simp; omega)).below (Below.alloc (Below.refl _ _) (Nat.le_refl _) _)) hown5 hg5, by rw [HALL.out, toldG_nl i _ _ _ HI.out, List.nil_append, tell_some HW.out, List.append_assoc], by simp; omega, by omega, ((bel_words hbel hb3).alloc (bel_words hbel hb3).size _).grown hg5 (by have := (bel_words hbel hb3).size; show w.heap.size ≤ (w3.heap.push _).size; simp; omega) (fun g hg => (HO.out.lt g hg).1)⟩
          case measure => simp only [lenOfV]; omega
    · have HALL := Lib.hid hall
      have HT := Lib.hid htold
      obtain rfl : l' = [] := List.eq_nil_of_length_eq_zero (by have := hba.len; omega)
      clear hall htold hba
      go_wp2
      go_ret
      exact ⟨_, rfl, by rw [HALL.out, told_end, List.append_nil]; exact HT.out, hbel⟩
end Go.Proofs.YtdfapebggghfdaaGreatDoor

namespace Go.Tx
open Go.RowKit Go.Rb
theorem LinesAt.read {B : Nat} {w : World} {v : Value} {T : List (Nat × List (List UInt8))} (h : LinesAt B w v T) (h0 : 0 < T.length) :
    ∃ g cap, v = .slice (some ⟨g, 0, none⟩) T.length cap ∧ T.length ≤ cap ∧ cap ≤ 9223372036854775807 ∧ B ≤ g ∧ ∀ (i no : Nat) (ws : List (List UInt8)), T[i]? = some (no, ws) → w.cell? ⟨g, 2 * i, none⟩ = some (.int .i64 (no : Int)) ∧ ∃ p, w.cell? ⟨g, 2 * i + 1, none⟩ = some (.slice p ws.length ws.length) ∧ Strs B w (.slice p ws.length ws.length) ws := by
  obtain ⟨xs, h1, h2⟩ := h
  rcases h1.2 with ⟨a, b⟩ | ⟨g, cap, cur, a, a2, a3, a4, a5, _⟩
  · omega
  · subst a
    refine ⟨g, cap, rfl, a4, a5, a2, fun i no ws hi => ?_⟩
    obtain ⟨x, wv, y, z⟩ := h2 i no ws hi
    have hlt : i < T.length := (List.getElem?_eq_some_iff.1 hi).1
    obtain ⟨p, rfl⟩ := z.shape
    exact ⟨by rw [h1.cellAt _ (by omega)]; exact x, p, by rw [h1.cellAt _ (by omega)]; exact y, z⟩
theorem ba_row {w : World} {b cap : Nat} {l : List UInt8} (h : RowB 5 w b cap l) (hc : cap ≤ 9223372036854775807) : BA w (some ⟨b, 0, none⟩) l.length cap l := by
  have hl : l.length ≤ cap := by obtain ⟨_, _, _, _, _, _, h4, _⟩ := h; exact h4
  refine ⟨rfl, hl, hc, (fun h => by cases h), fun x hx j c hj => ?_⟩
  cases hx
  have ha : (⟨b, 0, none⟩ : Addr).add j = ⟨b, j, none⟩ := by unfold Addr.add; split <;> simp_all
  rw [ha]
  exact h.cell hj
theorem row_made {P : Program} {src dst : TypeId} (s : ByteArray) (w : World) (hm : s.size ≤ maxLen) (hs : P.underlying src = some .string) (hd : P.underlying dst = some (.slice 5)) (he : P.underlying 5 = some (.int .u8)) :
    ∃ (cap : Nat) (o : Obj), (convert src dst (.string s)).run P w = .ok (.slice (some ⟨w.heap.size, 0, none⟩) s.size cap) (w.drew.alloc o) ∧ s.size ≤ cap ∧ cap ≤ 9223372036854775807 ∧ RowB 5 (w.alloc o) w.heap.size cap s.data.toList := by
  have hge := grownCap_ge w s.size 0 5
  have hle := grownCap_le_maxLen w s.size 0 5 hm
  unfold maxLen at hle
  have hsz : s.data.size = s.size := rfl
  have hC : (bytesRow s (grownCap w s.size 0 5)).size = grownCap w s.size 0 5 := by simp [bytesRow, hsz]; omega
  refine ⟨grownCap w s.size 0 5, _, run_bytes_of_string w src dst 5 s hs hd he, hge, by omega, _, _, _, heap_alloc_new w _, .inl (by rw [hC]; exact Nat.le_refl _), hC, by simpa [hsz] using hge, fun j c hj => ?_⟩
  have hj' : j < s.data.size := by
    have := (List.getElem?_eq_some_iff.1 hj).1
    simpa using this
  rw [bytesRow_at s _ j hj']
  rw [Array.getElem?_toList, Array.getElem?_eq_getElem hj'] at hj
  cases hj
  rfl
theorem lines_one {B : Nat} {w : World} {v : Value} {a : Nat} {ws : List (List UInt8)} (h : LinesAt B w v [(a, ws)]) :
    ∃ g cap, v = .slice (some ⟨g, 0, none⟩) 1 cap ∧ 1 ≤ cap ∧ w.cell? ⟨g, 0, none⟩ = some (.int .i64 (a : Int)) := by
  obtain ⟨g, cap, h1, h2, _, _, h3⟩ := h.read (by simp)
  exact ⟨g, cap, h1, h2, (h3 0 a ws rfl).1⟩
theorem lines_two {B : Nat} {w : World} {v : Value} {a b : Nat} {ws us : List (List UInt8)} (h : LinesAt B w v [(a, ws), (b, us)]) :
    ∃ g cap p, v = .slice (some ⟨g, 0, none⟩) 2 cap ∧ 2 ≤ cap ∧ w.cell? ⟨g, 0, none⟩ = some (.int .i64 (a : Int)) ∧ w.cell? ⟨g, 1, none⟩ = some (.slice p ws.length ws.length) ∧ w.cell? ⟨g, 2, none⟩ = some (.int .i64 (b : Int)) := by
  obtain ⟨g, cap, h1, h2, _, _, h3⟩ := h.read (by simp)
  obtain ⟨x1, p, x2, _⟩ := h3 0 a ws rfl
  exact ⟨g, cap, p, h1, h2, x1, x2, (h3 1 b us rfl).1⟩
theorem bcat (a : List UInt8) (b : Array UInt8) : (⟨a.toArray⟩ : ByteArray) ++ ⟨b⟩ = ⟨(a ++ b.toList).toArray⟩ := by
  apply ByteArray.ext
  simp
end Go.Tx

namespace Go.Tx
open Go.Lib
end Go.Tx
namespace Go.Tx
open Go.Lib
/-! ### A text cut at a byte, some times at most -/
theorem pre_len (x : List UInt8) (l : List (List UInt8)) : (pre x l).length = l.length := by cases l <;> rfl
theorem splitG_ne (c : UInt8) (l cur : List UInt8) : splitG c cur l ≠ [] := fun h => by
  have := (splitG_len c l cur).1
  rw [h] at this
  simp at this
theorem splitL_eq (c : UInt8) (l : List UInt8) : splitL c (c :: l) = [] :: splitL c l := by simp [splitL, splitG]
theorem splitL_pre {b c : UInt8} (h : b ≠ c) (l : List UInt8) : splitL c (b :: l) = pre [b] (splitL c l) := by
  rw [splitL, splitL, splitG, if_neg h]
  exact splitG_pre c [b] l []
theorem splitL_len (c : UInt8) (l : List UInt8) : 1 ≤ (splitL c l).length ∧ (splitL c l).length ≤ l.length + 1 := splitG_len c l []
theorem splitK_nil (c : UInt8) (k : Nat) : splitK [c] 0 k [] = [[]] := by cases k <;> rfl
theorem splitK_eq (c : UInt8) (k : Nat) (l : List UInt8) : splitK [c] 0 (k + 1) (c :: l) = [] :: splitK [c] 0 k l := by
  have hix : index (c :: l) [c] = 0 := by rw [index]; simp [List.isPrefixOf]
  rw [splitK, hix]
  simp
theorem splitK_few (c : UInt8) : ∀ (l : List UInt8) (k : Nat), (splitL c l).length ≤ k + 1 → splitK [c] 0 k l = splitL c l
  | [], k, _ => by rw [splitK_nil]; rfl
  | b :: l, k, h => by
    by_cases e : b = c
    · subst e
      rw [splitL_eq] at h ⊢
      have := (splitL_len b l).1
      simp only [List.length_cons] at h
      obtain ⟨j, rfl⟩ : ∃ j, k = j + 1 := ⟨k - 1, by omega⟩
      rw [splitK_eq, splitK_few b l j (by omega)]
    · rw [splitL_pre e] at h ⊢
      rw [pre_len] at h
      rw [splitK_pre e, splitK_few c l k h]
theorem splitK_many (c : UInt8) : ∀ (l : List UInt8) (k : Nat), k + 1 < (splitL c l).length → (splitK [c] 0 k l).length = k + 1 ∧ ∃ q x, splitK [c] 0 k l = q ++ [x] ∧ c ∈ x
  | [], k, h => by simp [splitL, splitG] at h
  | b :: l, k, h => by
    by_cases e : b = c
    · subst e
      rw [splitL_eq] at h
      simp only [List.length_cons] at h
      cases k with
      | zero => exact ⟨rfl, [], b :: l, rfl, by simp⟩
      | succ k =>
        obtain ⟨h1, q, x, h2, h3⟩ := splitK_many b l k (by omega)
        rw [splitK_eq]
        exact ⟨by rw [List.length_cons, h1], [] :: q, x, by rw [h2]; rfl, h3⟩
    · rw [splitL_pre e, pre_len] at h
      obtain ⟨h1, q, x, h2, h3⟩ := splitK_many c l k h
      rw [splitK_pre e]
      refine ⟨by rw [pre_len, h1], ?_⟩
      rw [h2]
      cases q with
      | nil => exact ⟨[], [b] ++ x, rfl, by simp [h3]⟩
      | cons y q => exact ⟨([b] ++ y) :: q, x, rfl, h3⟩
/-- strings.SplitN at one byte. -/
def cutN (c : UInt8) (n : Nat) (l : List UInt8) : List (List UInt8) := splitK [c] 0 (min n (l.length + 1) - 1) l
theorem cutN_few (c : UInt8) (n : Nat) (l : List UInt8) (h : (splitL c l).length ≤ n) : cutN c n l = splitL c l := by
  have := (splitL_len c l)
  exact splitK_few c l _ (by omega)
theorem cutN_many (c : UInt8) (n : Nat) (l : List UInt8) (hn : 1 ≤ n) (h : n < (splitL c l).length) : (cutN c n l).length = n ∧ ∃ q x, cutN c n l = q ++ [x] ∧ c ∈ x := by
  have := (splitL_len c l)
  obtain ⟨h1, h2⟩ := splitK_many c l (min n (l.length + 1) - 1) (by omega)
  exact ⟨by unfold cutN; rw [h1]; omega, h2⟩
theorem cutN_len (c : UInt8) (n : Nat) (l : List UInt8) (hn : 1 ≤ n) : 1 ≤ (cutN c n l).length ∧ (cutN c n l).length ≤ n := by
  by_cases h : (splitL c l).length ≤ n
  · rw [cutN_few c n l h]; exact ⟨(splitL_len c l).1, h⟩
  · rw [(cutN_many c n l hn (by omega)).1]; exact ⟨hn, Nat.le_refl _⟩
theorem splitK_mem (c : UInt8) : ∀ (k : Nat) (l x : List UInt8), x ∈ splitK [c] 0 k l → x.length ≤ l.length
  | 0, l, x, h => by simp [splitK] at h; subst h; exact Nat.le_refl _
  | k + 1, l, x, h => by
    unfold splitK at h
    split at h
    · simp at h; subst h; exact Nat.le_refl _
    · rcases List.mem_cons.1 h with h | h
      · subst h; rw [List.length_take]; omega
      · have := splitK_mem c k _ x h
        rw [List.length_drop] at this
        omega
theorem cutN_mem {c : UInt8} {n : Nat} {l x : List UInt8} (h : x ∈ cutN c n l) : x.length ≤ l.length := splitK_mem c _ l x h
/-- Five parts at most: four of them are all. -/
theorem cutN_four (l : List UInt8) (h : (cutN 46 5 l).length = 4) : cutN 46 5 l = splitL 46 l := by
  by_cases h2 : (splitL 46 l).length ≤ 5
  · exact cutN_few _ _ _ h2
  · have := (cutN_many 46 5 l (by omega) (by omega)).1; omega
theorem cutN_notfour (l : List UInt8) (h : (cutN 46 5 l).length ≠ 4) : fourP (splitL 46 l) = none := by
  unfold fourP
  rw [if_neg]
  rintro ⟨h2, _⟩
  rw [cutN_few 46 5 l (by omega)] at h
  exact h h2
/-! ### What stands in pieces -/
theorem splitG_cur (c : UInt8) : ∀ (l cur : List UInt8), ∃ x r, splitG c cur l = (cur ++ x) :: r
  | [], cur => ⟨[], [], by simp [splitG]⟩
  | d :: l, cur => by
    unfold splitG
    split
    · exact ⟨[], splitG c [] l, by simp⟩
    · obtain ⟨x, r, h⟩ := splitG_cur c l (cur ++ [d])
      exact ⟨d :: x, r, by rw [h]; simp⟩
/-- A byte that is not the one at which is cut stands in some piece. -/
theorem splitG_has {c d : UInt8} (hcd : d ≠ c) : ∀ (l cur : List UInt8), d ∈ l → ∃ x ∈ splitG c cur l, d ∈ x
  | e :: l, cur, h => by
    unfold splitG
    by_cases hd : d = e
    · subst hd
      rw [if_neg hcd]
      obtain ⟨x, r, h2⟩ := splitG_cur c l (cur ++ [d])
      exact ⟨_, by rw [h2]; exact List.mem_cons_self, by simp⟩
    · have hl : d ∈ l := by
        rcases List.mem_cons.1 h with h | h
        · exact absurd h hd
        · exact h
      split
      · obtain ⟨x, hx, h3⟩ := splitG_has hcd l [] hl
        exact ⟨x, List.mem_cons_of_mem _ hx, h3⟩
      · exact splitG_has hcd l _ hl
/-- Pieces hold nothing that the text doesn't. -/
theorem splitG_sub {c d : UInt8} : ∀ (l cur x : List UInt8), x ∈ splitG c cur l → d ∈ x → d ∈ cur ∨ d ∈ l
  | [], cur, x, h, hd => by
    simp [splitG] at h
    subst h
    exact .inl hd
  | e :: l, cur, x, h, hd => by
    unfold splitG at h
    split at h
    · rcases List.mem_cons.1 h with h | h
      · subst h; exact .inl hd
      · rcases splitG_sub l [] x h hd with h | h
        · cases h
        · exact .inr (List.mem_cons_of_mem _ h)
    · rcases splitG_sub l _ x h hd with h | h
      · rcases List.mem_append.1 h with h | h
        · exact .inl h
        · rw [List.mem_singleton] at h; subst h; exact .inr List.mem_cons_self
      · exact .inr (List.mem_cons_of_mem _ h)
theorem splitG_none {c : UInt8} : ∀ (l cur : List UInt8), ¬ c ∈ l → splitG c cur l = [cur ++ l]
  | [], cur, _ => by simp [splitG]
  | e :: l, cur, h => by
    simp only [List.mem_cons, not_or] at h
    unfold splitG
    rw [if_neg (fun x => h.1 x.symm), splitG_none l _ h.2]
    simp
theorem splitL_none {c : UInt8} (l : List UInt8) (h : ¬ c ∈ l) : splitL c l = [l] := by rw [splitL, splitG_none l [] h]; simp
/-! ### Digits and groups that are none -/
theorem okN_dig {l : List UInt8} (h : okN l = true) : l.all dig = true := by
  cases ha : l.all dig with
  | true => rfl
  | false =>
    have := numRes_no l 255 ha
    unfold okN at h
    rw [this] at h
    cases h
theorem okN_has {l : List UInt8} {d : UInt8} (hd : dig d = false) (h : d ∈ l) : okN l = false := by
  cases ho : okN l with
  | false => rfl
  | true =>
    have := okN_dig ho
    rw [List.all_eq_true] at this
    rw [this d h] at hd
    cases hd
theorem four_has {s : List UInt8} {d : UInt8} (hd : dig d = false) (h46 : d ≠ 46) (h : d ∈ s) : fourP (splitL 46 s) = none := by
  obtain ⟨x, hx, h2⟩ := splitG_has h46 s [] h
  unfold fourP
  rw [if_neg]
  rintro ⟨_, h3⟩
  rw [List.all_eq_true] at h3
  have := h3 x hx
  rw [okN_has hd h2] at this
  cases this
theorem four_nodot {s : List UInt8} (h : ¬ 46 ∈ s) : fourP (splitL 46 s) = none := by
  rw [splitL_none s h]
  unfold fourP
  rw [if_neg]
  rintro ⟨h2, _⟩
  simp at h2
theorem hexG_has {l : List UInt8} {d : UInt8} (hd : hexV d < 0) (h : d ∈ l) : hexG l = none := by
  obtain ⟨k, hk, e⟩ := List.getElem_of_mem h
  exact hexG_bad (k := k) (c := d) (by rw [List.getElem?_eq_getElem hk, e]) hd
theorem hexG_two {l x : List UInt8} (h : hexG l = some x) : x.length = 2 := by
  unfold hexG at h
  split at h
  · cases h
  · split at h
    · cases h; rfl
    · cases h
theorem fourP_len {p : List (List UInt8)} {x : List UInt8} (h : fourP p = some x) : x.length = 4 := by
  unfold fourP at h
  split at h
  · rename_i h4
    cases h
    rw [List.length_map]; exact h4.1
  · cases h
theorem partG_two {t : Bool} {l x : List UInt8} (h : partG t l = some x) : 2 ≤ x.length := by
  unfold partG at h
  split at h
  · cases e : fourP (splitL 46 l) with
    | some f => rw [e] at h; cases h; rw [fourP_len e]; decide
    | none => rw [e] at h; rw [hexG_two h]; exact Nat.le_refl _
  · rw [hexG_two h]; exact Nat.le_refl _
theorem accG_two {last : Bool} {P : List (List UInt8)} : ∀ {k : Nat} {a : List UInt8}, accG last P k = some a → 2 * k ≤ a.length
  | 0, a, h => by simp
  | k + 1, a, h => by
    unfold accG at h
    split at h
    · cases h
    · rename_i b hb
      split at h
      · cases h
      · rename_i x hx
        cases h
        have := accG_two hb
        have := partG_two hx
        simp
        omega
/-! ### Groups, the program's way -/
def hexAll : List (List UInt8) → Option (List UInt8)
  | [] => some []
  | l :: r => match hexG l, hexAll r with
    | some a, some b => some (a ++ b)
    | _, _ => none
theorem hexAll_snoc (l : List UInt8) : ∀ P : List (List UInt8), hexAll (P ++ [l]) = match hexAll P, hexG l with
    | some a, some b => some (a ++ b)
    | _, _ => none
  | [] => by simp only [hexAll, List.nil_append]; cases hexG l <;> simp
  | q :: P => by
    simp only [List.cons_append, hexAll, hexAll_snoc l P]
    cases hexG q <;> cases hexAll P <;> cases hexG l <;> simp
theorem hexAll_no {P : List (List UInt8)} {l : List UInt8} (h : l ∈ P) (hl : hexG l = none) : hexAll P = none := by
  induction P with
  | nil => cases h
  | cons q P ih =>
    rcases List.mem_cons.1 h with h | h
    · subst h; simp [hexAll, hl]
    · simp only [hexAll, ih h]; cases hexG q <;> rfl
theorem hexAll_len {P : List (List UInt8)} : ∀ {a : List UInt8}, hexAll P = some a → a.length = 2 * P.length := by
  induction P with
  | nil => intro a h; cases h; rfl
  | cons q P ih =>
    intro a h
    unfold hexAll at h
    split at h
    · rename_i x y hx hy
      cases h
      have := hexG_two hx
      have := ih hy
      simp
      omega
    · cases h
/-- What parseGroups answers. -/
def pgP (s : List UInt8) : Option (List UInt8) :=
  if s = [] then some [] else
  match fourP (splitL 46 ((cutN 58 9 s).getLastD [])) with
  | some f => (hexAll (cutN 58 9 s).dropLast).map (· ++ f)
  | none => hexAll (cutN 58 9 s)
theorem accG_hex {last : Bool} {P : List (List UInt8)} : ∀ k, k ≤ P.length → (last = true → k + 1 ≤ P.length) → accG last P k = hexAll (P.take k)
  | 0, _, _ => by simp [accG, hexAll]
  | k + 1, h, h2 => by
    have ih := accG_hex (last := last) (P := P) k (by omega) (fun e => by have := h2 e; omega)
    have hk : k < P.length := by omega
    have ht : P.take (k + 1) = P.take k ++ [P[k]] := List.take_succ_eq_append_getElem hk
    have hf : (last && decide (k + 1 = P.length)) = false := by
      cases last with
      | false => rfl
      | true => have := h2 rfl; simp; omega
    have hg : P.getD k [] = P[k] := by simp [List.getD_eq_getElem?_getD, List.getElem?_eq_getElem hk]
    have hpf : ∀ l, partG false l = hexG l := fun l => rfl
    rw [accG, ih, ht, hexAll_snoc, hf, hg, hpf]
    cases hexAll (P.take k) <;> simp
    cases hexG P[k] <;> simp
theorem accG_full (P : List (List UInt8)) (h : 1 ≤ P.length) : accG true P P.length = match fourP (splitL 46 (P.getLastD [])) with
    | some f => (hexAll P.dropLast).map (· ++ f)
    | none => hexAll P := by
  obtain ⟨k, hk⟩ : ∃ k, P.length = k + 1 := ⟨P.length - 1, by omega⟩
  have hlt : k < P.length := by omega
  have hg : P.getD k [] = P[k] := by simp [List.getD_eq_getElem?_getD, List.getElem?_eq_getElem hlt]
  have hl : P.getLastD [] = P[k] := by
    rw [List.getLastD_eq_getLast?, List.getLast?_eq_getElem?, hk]
    simp [List.getElem?_eq_getElem hlt]
  have hd : P.dropLast = P.take k := by rw [List.dropLast_eq_take, hk]; rfl
  have hall : P = P.take k ++ [P[k]] := by
    have := List.take_succ_eq_append_getElem hlt
    rw [← this, ← hk, List.take_length]
  have ha := accG_hex (last := true) (P := P) k (by omega) (fun _ => by omega)
  have hf : (true && decide (k + 1 = P.length)) = true := by simp; omega
  have e1 : accG true P P.length = match accG true P k with
      | none => none
      | some a => match partG true P[k] with
        | none => none
        | some x => some (a ++ x) := by
    rw [hk, accG, hf, hg]
    cases accG true P k with
    | none => rfl
    | some a => simp only []; cases partG true P[k] <;> rfl
  rw [e1, ha, hl, hd]
  cases h4 : fourP (splitL 46 P[k]) with
  | some f =>
    rw [partG_four h4]
    cases hexAll (P.take k) <;> rfl
  | none =>
    rw [partG_hex fun _ => h4]
    have := hexAll_snoc P[k] (P.take k)
    rw [← hall] at this
    rw [this]
    cases hexAll (P.take k) <;> simp
    cases hexG P[k] <;> simp
theorem pgP_few {s : List UInt8} (h : (splitL 58 s).length ≤ 9) : pgP s = groupsP true s := by
  unfold pgP groupsP
  split
  · rfl
  · rw [cutN_few 58 9 s h, accG_full _ (splitL_len 58 s).1]
theorem hexV_58 : hexV 58 < 0 := by decide
theorem hexV_46 : hexV 46 < 0 := by decide
theorem pgP_many {s : List UInt8} (h : 9 < (splitL 58 s).length) : pgP s = none := by
  unfold pgP
  have hne : s ≠ [] := by rintro rfl; simp [splitL, splitG] at h
  obtain ⟨h1, q, x, h2, h3⟩ := cutN_many 58 9 s (by omega) h
  have hl : (cutN 58 9 s).getLastD [] = x := by rw [h2]; simp
  rw [if_neg hne, hl, four_has (d := 58) (by decide) (by decide) h3, h2]
  exact hexAll_no (l := x) (by simp) (hexG_has hexV_58 h3)
theorem groupsP_many {last : Bool} {s b : List UInt8} (h : 9 < (splitL 58 s).length) (hb : groupsP last s = some b) : 16 < b.length := by
  unfold groupsP at hb
  have hne : s ≠ [] := by rintro rfl; simp [splitL, splitG] at h
  rw [if_neg hne] at hb
  have := accG_two hb
  omega
theorem groupsP_nodot {s : List UInt8} (h : ¬ 46 ∈ s) : groupsP true s = groupsP false s := by
  unfold groupsP
  split
  · rfl
  · have hl := (splitL_len 58 s).1
    rw [accG_full _ hl, accG_hex (last := false) _ (Nat.le_refl _) (fun h => by cases h), List.take_length]
    have : ¬ 46 ∈ (splitL 58 s).getLastD [] := by
      intro h3
      obtain ⟨x, r, hx⟩ : ∃ x r, splitL 58 s = r ++ [x] := ⟨_, _, (List.dropLast_concat_getLast (l := splitL 58 s) (by intro e; rw [e] at hl; simp at hl)).symm⟩
      rw [hx] at h3
      simp at h3
      rcases splitG_sub (c := 58) (d := 46) s [] x (by show x ∈ splitL 58 s; rw [hx]; simp) h3 with h4 | h4
      · cases h4
      · exact h h4
    rw [four_nodot this]
theorem groupsP_dot {s : List UInt8} (h : 46 ∈ s) : groupsP false s = none := by
  have hne : s ≠ [] := by rintro rfl; cases h
  unfold groupsP
  rw [if_neg hne, accG_hex (last := false) _ (Nat.le_refl _) (fun h => by cases h), List.take_length]
  obtain ⟨x, hx, h2⟩ := splitG_has (c := 58) (d := 46) (by decide) s [] h
  exact hexAll_no hx (hexG_has hexV_46 h2)
/-! ### An address, the program's way -/
def full16 (r : Option (List UInt8)) : Option (List UInt8) := match r with
  | some b => if b.length = 16 then some b else none
  | none => none
def bothP (a b : Option (List UInt8)) : Option (List UInt8) := match a, b with
  | some x, some y => if 14 < x.length + y.length then none else some (x ++ List.replicate (16 - x.length - y.length) 0 ++ y)
  | _, _ => none
def longP (s : List UInt8) : Option (List UInt8) :=
  if (Lib.cut s [58, 58]).2.2 = true then
    (if 46 ∈ (Lib.cut s [58, 58]).1 then none else bothP (pgP (Lib.cut s [58, 58]).1) (pgP (Lib.cut s [58, 58]).2.1))
  else full16 (pgP s)
def addrP (s : List UInt8) : Option (List UInt8) := if 58 ∈ s then longP s else fourP (splitL 46 s)
theorem full16_pg (s : List UInt8) : full16 (pgP s) = full16 (groupsP true s) := by
  by_cases h : (splitL 58 s).length ≤ 9
  · rw [pgP_few h]
  · rw [pgP_many (by omega)]
    cases hb : groupsP true s with
    | none => rfl
    | some b =>
      have := groupsP_many (by omega) hb
      unfold full16
      simp only
      rw [if_neg (by omega)]
theorem both_pg (a b : List UInt8) (ha : ¬ 46 ∈ a) : bothP (pgP a) (pgP b) = bothP (groupsP false a) (groupsP true b) := by
  rw [← groupsP_nodot ha]
  have big : ∀ x y : List UInt8, 16 < x.length ∨ 16 < y.length → bothP (some x) (some y) = none := fun x y h => by
    unfold bothP
    simp only
    rw [if_pos (by omega)]
  have n1 : ∀ r, bothP none r = none := fun r => by cases r <;> rfl
  have n2 : ∀ r, bothP r none = none := fun r => by cases r <;> rfl
  by_cases h1 : (splitL 58 a).length ≤ 9
  · rw [pgP_few h1]
    by_cases h2 : (splitL 58 b).length ≤ 9
    · rw [pgP_few h2]
    · rw [pgP_many (s := b) (by omega), n2]
      cases hb : groupsP true b with
      | none => rw [n2]
      | some y =>
        cases hx : groupsP true a with
        | none => rw [n1]
        | some x => rw [big x y (.inr (groupsP_many (by omega) hb))]
  · rw [pgP_many (s := a) (by omega), n1]
    cases hx : groupsP true a with
    | none => rw [n1]
    | some x =>
      cases hb : groupsP true b with
      | none => rw [n2]
      | some y => rw [big x y (.inl (groupsP_many (by omega) hx))]
theorem cc_occ (s : List UInt8) (k : Nat) : ccAt s k = Lib.occAt s [58, 58] k := by
  unfold ccAt Lib.occAt
  have e0 : s[k]? = (s.drop k)[0]? := by simp
  have e1 : s[k + 1]? = (s.drop k)[1]? := by simp
  rw [e0, e1]
  generalize s.drop k = t
  match t with
  | [] => rfl
  | [x] => simp [List.isPrefixOf]
  | x :: y :: t =>
    simp only [List.getElem?_cons_zero, List.getElem?_cons_succ, Option.some.injEq, List.isPrefixOf, Bool.and_true]
    have : ∀ z : UInt8, decide (z = 58) = (58 == z) := fun z => by
      by_cases h : z = 58
      · subst h; rfl
      · have h' : ¬ 58 = z := fun e => h e.symm
        simp [h, h']
    rw [this, this]
theorem addrP_parse (s : List UInt8) : addrP s = parseP s := by
  unfold addrP
  by_cases h58 : 58 ∈ s
  · rw [if_pos h58]
    have hf : fourP (splitL 46 s) = none := four_has (d := 58) (by decide) (by decide) h58
    unfold parseP
    rw [hf]
    simp only
    unfold longP
    rcases Lib.index_spec s [58, 58] with ⟨hi, hno⟩ | ⟨i, hi, hle, hocc, hno⟩
    · have hc : Lib.cut s [58, 58] = (s, [], false) := by unfold Lib.cut; rw [hi, if_neg (by decide)]
      have hfind : (List.range s.length).find? (ccAt s) = none := cc_none (k := s.length) (fun j hj => by rw [cc_occ]; exact hno j (by omega)) (by omega)
      rw [hc, hfind, if_neg (by simp)]
      rw [full16_pg]
      rfl
    · have hc : Lib.cut s [58, 58] = (s.take i, s.drop (i + 2), true) := by unfold Lib.cut; rw [hi, if_pos (by omega)]; simp
      have hfind : (List.range s.length).find? (ccAt s) = some i := cc_some (k := i) (fun j hj => by rw [cc_occ]; exact hno j hj) (by rw [cc_occ]; exact hocc)
      rw [hc, hfind, if_pos rfl]
      simp only
      unfold dblP
      by_cases hd : 46 ∈ s.take i
      · rw [if_pos hd, groupsP_dot hd]
      · rw [if_neg hd, both_pg _ _ hd]
        rfl
  · rw [if_neg h58]
    unfold parseP
    cases hf : fourP (splitL 46 s) with
    | some f => rfl
    | none =>
      have hfind : (List.range s.length).find? (ccAt s) = none := cc_none (k := s.length) (fun j hj => by
        unfold ccAt
        have : ¬ s[j]? = some 58 := fun e => h58 (List.mem_of_getElem? e)
        simp [this]) (by omega)
      rw [hfind]
      simp only
      cases hg : groupsP true s with
      | none => rfl
      | some b =>
        simp only
        rw [if_neg]
        intro h16
        unfold groupsP at hg
        split at hg
        · cases hg; simp at h16
        · rw [splitL_none s h58] at hg
          have := accG_len hg
          simp at this
          omega
end Go.Tx

namespace Go.Proofs.YtdfapebggghfdaaGreatDoor
open Go.RowKit Go.Lib Go.Tx Go.Rb
def lowerN (c : UInt8) : UInt8 := c ||| 32
theorem bits_all : ∀ i : Fin 256, bits .or .u8 (i.1 : Int) 32 = ((lowerN (UInt8.ofNat i.1)).toNat : Int) := by decide +kernel
theorem lower_any (c : UInt8) (w : World) : Calls Tryz.prog 96 #[.int .u8 (c.toNat : Int)] w fun e w' => e = .returned (.int .u8 ((lowerN c).toNat : Int)) ∧ w' = w := by
  have hb : bits .or .u8 (c.toNat : Int) 32 = ((lowerN c).toNat : Int) := by
    have := bits_all ⟨c.toNat, c.toNat_lt⟩
    simpa using this
  go_enter Tryz.func96, Tryz.ntmps96
  go_wp2
  go_ret
  exact ⟨by rw [← hb]; rfl, rfl⟩
theorem low_all : ∀ i : Fin 256, (65 ≤ i.1 ∧ i.1 ≤ 90 → (lowerN (UInt8.ofNat i.1)).toNat = i.1 + 32) ∧ (97 ≤ i.1 ∧ i.1 ≤ 122 → (lowerN (UInt8.ofNat i.1)).toNat = i.1) ∧ (¬ (65 ≤ i.1 ∧ i.1 ≤ 90) → ¬ (97 ≤ i.1 ∧ i.1 ≤ 122) → (lowerN (UInt8.ofNat i.1)).toNat < 97 ∨ 122 < (lowerN (UInt8.ofNat i.1)).toNat) := by decide +kernel
theorem low_cls (c : UInt8) : (65 ≤ c.toNat ∧ c.toNat ≤ 90 → (lowerN c).toNat = c.toNat + 32) ∧ (97 ≤ c.toNat ∧ c.toNat ≤ 122 → (lowerN c).toNat = c.toNat) ∧ (¬ (65 ≤ c.toNat ∧ c.toNat ≤ 90) → ¬ (97 ≤ c.toNat ∧ c.toNat ≤ 122) → (lowerN c).toNat < 97 ∨ 122 < (lowerN c).toNat) := by
  have := low_all ⟨c.toNat, c.toNat_lt⟩
  simpa using this
theorem lower95 (w : World) : Calls Tryz.prog 96 #[.int .u8 95] w fun e w' => e = .returned (.int .u8 127) ∧ w' = w := by
  have := lower_any 95 w
  have e1 : ((95 : UInt8).toNat : Int) = 95 := by decide
  have e2 : ((lowerN 95).toNat : Int) = 127 := by decide
  rw [e1, e2] at this
  exact this
theorem lower96 (w : World) : Calls Tryz.prog 96 #[.int .u8 96] w fun e w' => e = .returned (.int .u8 96) ∧ w' = w := by
  have := lower_any 96 w
  have e1 : ((96 : UInt8).toNat : Int) = 96 := by decide
  have e2 : ((lowerN 96).toNat : Int) = 96 := by decide
  rw [e1, e2] at this
  exact this
/-- What a text of digits says, or that it says nothing. -/
def hex16 (l : List UInt8) : Bool := decide (l ≠ []) && hexOk l && decide (hexA l ≤ 65535)
def PuR (l : List UInt8) (w : World) (e : Ending) (w' : World) : Prop :=
  Below w.heap.size w w' ∧ (if hex16 l = true then e = .returned (.tuple #[.int .u64 (hexA l), .nilIface]) else ∃ x n : Int, (n = 1 ∨ n = 2) ∧ e = .returned (.tuple #[.int .u64 x, .iface 121 (.int .i64 n)]))
theorem hexA_from (l : List UInt8) : ∀ a, (∀ c ∈ l, 0 ≤ hexV c) → 0 ≤ a → a ≤ l.foldl (fun n c => 16 * n + hexV c) a := by
  induction l with
  | nil => intro a _ h; exact Int.le_refl _
  | cons c l ih =>
    intro a h h0
    have hc := h c (by simp)
    have := ih (16 * a + hexV c) (fun d hd => h d (by simp [hd])) (by omega)
    simp only [List.foldl_cons]
    omega
theorem hexA_big (l : List UInt8) (k : Nat) (hok : hexOk l = true) (h : 65535 < hexA (l.take k)) : 65535 < hexA l := by
  have e : hexA l = (l.drop k).foldl (fun n c => 16 * n + hexV c) (hexA (l.take k)) := by
    unfold hexA
    rw [← List.foldl_append, List.take_append_drop]
  unfold hexOk at hok
  rw [List.all_eq_true] at hok
  have := hexA_from (l.drop k) (hexA (l.take k)) (fun c hc => by simpa using hok c (List.mem_of_mem_drop hc)) (by omega)
  omega
theorem hex16_bad {l : List UInt8} {k : Nat} {c : UInt8} (h : l[k]? = some c) (hc : hexV c < 0) : hex16 l = false := by
  unfold hex16
  have : hexOk l = false := by
    unfold hexOk
    rw [List.all_eq_false]
    exact ⟨c, List.mem_of_getElem? h, by simp; omega⟩
  rw [this]; simp
theorem hex16_big {l : List UInt8} {k : Nat} (h : 65535 < hexA (l.take k)) : hex16 l = false := by
  unfold hex16
  cases hok : hexOk l with
  | false => simp
  | true =>
    have := hexA_big l k hok h
    have e : decide (hexA l ≤ 65535) = false := decide_eq_false (by omega)
    rw [e]; simp
theorem hexA_step (l : List UInt8) (k : Nat) (c : UInt8) (h : l[k]? = some c) : hexA (l.take (k + 1)) = 16 * hexA (l.take k) + hexV c := by
  rw [List.take_add_one, h]
  exact hexA_snoc _ _
set_option maxHeartbeats 4000000 in
set_option maxRecDepth 100000 in
theorem pu16_any (s : ByteArray) (w : World) (hs : s.size ≤ 1000000) : Calls Tryz.prog 79 #[.string s, .int .i64 16, .int .i64 16] w (PuR s.data.toList w) := by
  by_cases h0 : s = ⟨#[]⟩
  · subst h0
    go_enter Tryz.func79, Tryz.ntmps79
    go_wp2
    go_ret2
    exact ⟨Below.refl _ _, by rw [if_neg (by decide)]; exact ⟨0, 2, .inr rfl, rfl⟩⟩
  · have hne : s.data.toList ≠ [] := fun h => h0 (by cases s; simp at h; simp [h])
    have e2 : s.toList.isEmpty = false := by
      rw [Go.Lib.toList_data]
      cases hh : s.data.toList with
      | nil => exact absurd hh hne
      | cons x y => rfl
    obtain ⟨cap, o, hconv, hcap, hrow⟩ := RowB.made (P := Tryz.prog) s w Tryz.underlying9 Tryz.underlying22 Tryz.underlying5
    have hr2 : RowB 5 (w.alloc o).drew w.heap.size cap s.data.toList := hrow
    have HR := Lib.hid hr2
    have HNe := Lib.hid hne
    have HB : Hid (Below w.heap.size w (w.alloc o).drew) := Lib.hid (((Below.refl _ _).alloc (Nat.le_refl _) _).drew)
    clear hrow hr2 hne h0
    go_enter Tryz.func79, Tryz.ntmps79
    go_wp2
    go_loop [12, 13, 101] (fun us nv i => ∃ (k : Nat) (n : Int), k ≤ s.size ∧ i = .int .i64 k ∧ us = .bool false ∧ nv = .int .u64 n ∧ 0 ≤ n ∧ n ≤ 65535 ∧ Hid (n = hexA (s.data.toList.take k)) ∧ Hid (∀ j c, j < k → s.data.toList[j]? = some c → 0 ≤ hexV c)) (fun _ _ i => s.size - (intOf i).toNat)
    case atStart => exact ⟨0, 0, Nat.zero_le _, rfl, rfl, rfl, by omega, by omega, Lib.hid rfl, Lib.hid (by omega)⟩
    case round =>
      obtain ⟨k, n, hk, rfl, rfl, rfl, hn0, hn1, hn, hall⟩ := hrel
      by_cases hlt : k < s.size
      · have HK : Hid (s.data.toList[k]? = some s[k]) := Lib.hid (List.getElem?_eq_getElem hlt)
        have hcell := HR.out.cell HK.out
        have hu := s[k].toNat_lt
        generalize s[k] = c at HK hcell hu
        have hc : (48 ≤ c.toNat ∧ c.toNat ≤ 57) ∨ (97 ≤ c.toNat ∧ c.toNat ≤ 102) ∨ (65 ≤ c.toNat ∧ c.toNat ≤ 70) ∨ (103 ≤ c.toNat ∧ c.toNat ≤ 122) ∨ (71 ≤ c.toNat ∧ c.toNat ≤ 90) ∨ (c.toNat < 48) ∨ (57 < c.toNat ∧ c.toNat < 65) ∨ (90 < c.toNat ∧ c.toNat < 95) ∨ c.toNat = 96 ∨ c.toNat = 95 ∨ 122 < c.toNat := by omega
        rcases hc with ⟨b1, b2⟩ | ⟨b1, b2⟩ | ⟨b1, b2⟩ | ⟨b1, b2⟩ | ⟨b1, b2⟩ | b1 | ⟨b1, b2⟩ | ⟨b1, b2⟩ | b1 | b1 | b1
        · skip
          have a1 : (48 : Int) ≤ (c.toNat : Int) := by omega
          have a2 : (c.toNat : Int) ≤ 57 := by omega
          have hv : hexV c = (c.toNat : Int) - 48 := by unfold hexV; rw [if_pos ⟨by omega, by omega⟩]
          have HV := Lib.hid hv
          have hv2 := hexV_bd c
          have HS := Lib.hid (hexA_step s.data.toList k c HK.out)
          by_cases hbig : 65535 < n * 16 + hexV c
          · have hb1 : 65535 < n * 16 + ((c.toNat : Int) - 48) := by omega
            have HBig : Hid (hex16 s.data.toList = false) := Lib.hid (hex16_big (k := k + 1) (by rw [HS.out, ← hn.out]; omega))
            clear hv hv2 hbig
            go_wp2
            go_ret2
            exact ⟨HB.out, by rw [if_neg (by rw [HBig.out]; decide)]; exact ⟨_, 1, .inl rfl, rfl⟩⟩
          · have hb1 : ¬ 65535 < n * 16 + ((c.toNat : Int) - 48) := by omega
            clear hv hv2 hbig
            go_wp2
            go_round
            case rel => exact ⟨k + 1, n * 16 + ((c.toNat : Int) - 48), hlt, by go_num, rfl, by first | rfl | (congr 1; omega), by omega, by omega, Lib.hid (by rw [HS.out, ← hn.out, HV.out]; omega), Lib.hid (by
              intro j d hj hd
              by_cases e : j = k
              · subst e
                have := HK.out
                rw [this] at hd
                cases hd
                rw [HV.out]; omega
              · exact hall.out j d (by omega) hd)⟩
            case measure => simp [intOf]; omega
        · skip
          have a1 : (97 : Int) ≤ (c.toNat : Int) := by omega
          have a2 : (c.toNat : Int) ≤ 102 := by omega
          have HLow : Hid (((lowerN c).toNat : Int) = (c.toNat : Int)) := Lib.hid (by have := (low_cls c).2.1 ⟨by omega, by omega⟩; omega)
          have hv : hexV c = (c.toNat : Int) - 87 := by unfold hexV; rw [if_neg (by omega), if_pos ⟨by omega, by omega⟩]
          have HV := Lib.hid hv
          have hv2 := hexV_bd c
          have HS := Lib.hid (hexA_step s.data.toList k c HK.out)
          by_cases hbig : 65535 < n * 16 + hexV c
          · have hb1 : 65535 < n * 16 + ((c.toNat : Int) - 87) := by omega
            have HBig : Hid (hex16 s.data.toList = false) := Lib.hid (hex16_big (k := k + 1) (by rw [HS.out, ← hn.out]; omega))
            clear hv hv2 hbig
            go_wp2_with (go_at_call 96; refine (lower_any c _).mono ?_; rw [HLow.out]; rintro e w3 ⟨rfl, rfl⟩)
            go_ret2
            exact ⟨HB.out, by rw [if_neg (by rw [HBig.out]; decide)]; exact ⟨_, 1, .inl rfl, rfl⟩⟩
          · have hb1 : ¬ 65535 < n * 16 + ((c.toNat : Int) - 87) := by omega
            clear hv hv2 hbig
            go_wp2_with (go_at_call 96; refine (lower_any c _).mono ?_; rw [HLow.out]; rintro e w3 ⟨rfl, rfl⟩)
            go_round
            case rel => exact ⟨k + 1, n * 16 + ((c.toNat : Int) - 87), hlt, by go_num, rfl, by first | rfl | (congr 1; omega), by omega, by omega, Lib.hid (by rw [HS.out, ← hn.out, HV.out]; omega), Lib.hid (by
              intro j d hj hd
              by_cases e : j = k
              · subst e
                have := HK.out
                rw [this] at hd
                cases hd
                rw [HV.out]; omega
              · exact hall.out j d (by omega) hd)⟩
            case measure => simp [intOf]; omega
        · skip
          have a1 : (65 : Int) ≤ (c.toNat : Int) := by omega
          have a2 : (c.toNat : Int) ≤ 70 := by omega
          have HLow : Hid (((lowerN c).toNat : Int) = (c.toNat : Int) + 32) := Lib.hid (by have := (low_cls c).1 ⟨by omega, by omega⟩; omega)
          have hv : hexV c = (c.toNat : Int) - 55 := by unfold hexV; rw [if_neg (by omega), if_neg (by omega), if_pos ⟨by omega, by omega⟩]
          have HV := Lib.hid hv
          have hv2 := hexV_bd c
          have HS := Lib.hid (hexA_step s.data.toList k c HK.out)
          by_cases hbig : 65535 < n * 16 + hexV c
          · have hb1 : 65535 < n * 16 + ((c.toNat : Int) - 55) := by omega
            have HBig : Hid (hex16 s.data.toList = false) := Lib.hid (hex16_big (k := k + 1) (by rw [HS.out, ← hn.out]; omega))
            clear hv hv2 hbig
            go_wp2_with (go_at_call 96; refine (lower_any c _).mono ?_; rw [HLow.out]; rintro e w3 ⟨rfl, rfl⟩)
            go_ret2
            exact ⟨HB.out, by rw [if_neg (by rw [HBig.out]; decide)]; exact ⟨_, 1, .inl rfl, rfl⟩⟩
          · have hb1 : ¬ 65535 < n * 16 + ((c.toNat : Int) - 55) := by omega
            clear hv hv2 hbig
            go_wp2_with (go_at_call 96; refine (lower_any c _).mono ?_; rw [HLow.out]; rintro e w3 ⟨rfl, rfl⟩)
            go_round
            case rel => exact ⟨k + 1, n * 16 + ((c.toNat : Int) - 55), hlt, by go_num, rfl, by first | rfl | (congr 1; omega), by omega, by omega, Lib.hid (by rw [HS.out, ← hn.out, HV.out]; omega), Lib.hid (by
              intro j d hj hd
              by_cases e : j = k
              · subst e
                have := HK.out
                rw [this] at hd
                cases hd
                rw [HV.out]; omega
              · exact hall.out j d (by omega) hd)⟩
            case measure => simp [intOf]; omega
        · skip
          have a1 : (103 : Int) ≤ (c.toNat : Int) := by omega
          have a2 : (c.toNat : Int) ≤ 122 := by omega
          have HLow : Hid (((lowerN c).toNat : Int) = (c.toNat : Int)) := Lib.hid (by have := (low_cls c).2.1 ⟨by omega, by omega⟩; omega)
          have hv : hexV c < 0 := by unfold hexV; repeat' split
                                     all_goals omega
          have HBad : Hid (hex16 s.data.toList = false) := Lib.hid (hex16_bad HK.out hv)
          clear hv
          go_wp2_with (go_at_call 96; refine (lower_any c _).mono ?_; rw [HLow.out]; rintro e w3 ⟨rfl, rfl⟩)
          all_goals (go_ret2; exact ⟨HB.out, by rw [if_neg (by rw [HBad.out]; decide)]; exact ⟨_, 2, .inr rfl, rfl⟩⟩)
        · skip
          have a1 : (71 : Int) ≤ (c.toNat : Int) := by omega
          have a2 : (c.toNat : Int) ≤ 90 := by omega
          have HLow : Hid (((lowerN c).toNat : Int) = (c.toNat : Int) + 32) := Lib.hid (by have := (low_cls c).1 ⟨by omega, by omega⟩; omega)
          have hv : hexV c < 0 := by unfold hexV; repeat' split
                                     all_goals omega
          have HBad : Hid (hex16 s.data.toList = false) := Lib.hid (hex16_bad HK.out hv)
          clear hv
          go_wp2_with (go_at_call 96; refine (lower_any c _).mono ?_; rw [HLow.out]; rintro e w3 ⟨rfl, rfl⟩)
          all_goals (go_ret2; exact ⟨HB.out, by rw [if_neg (by rw [HBad.out]; decide)]; exact ⟨_, 2, .inr rfl, rfl⟩⟩)
        · skip
          have a1 : (c.toNat : Int) < 48 := by omega
          have hL := (low_cls c).2.2 (by omega) (by omega)
          obtain ⟨y, hy⟩ : ∃ y : Nat, (lowerN c).toNat = y := ⟨_, rfl⟩
          have HLow : Hid (((lowerN c).toNat : Int) = (y : Int)) := Lib.hid (by omega)
          have hy2 := (lowerN c).toNat_lt
          rw [hy] at hL hy2
          clear hy
          have hv : hexV c < 0 := by unfold hexV; repeat' split
                                     all_goals omega
          have HBad : Hid (hex16 s.data.toList = false) := Lib.hid (hex16_bad HK.out hv)
          clear hv
          rcases hL with hL | hL
          · have hy3 : (y : Int) < 97 := by omega
            go_wp2_with (go_at_call 96; refine (lower_any c _).mono ?_; rw [HLow.out]; rintro e w3 ⟨rfl, rfl⟩)
            all_goals (go_ret2; exact ⟨HB.out, by rw [if_neg (by rw [HBad.out]; decide)]; exact ⟨_, 2, .inr rfl, rfl⟩⟩)

          · have hy3 : (122 : Int) < (y : Int) := by omega
            have hy4 : (97 : Int) ≤ (y : Int) := by omega
            go_wp2_with (go_at_call 96; refine (lower_any c _).mono ?_; rw [HLow.out]; rintro e w3 ⟨rfl, rfl⟩)
            all_goals (go_ret2; exact ⟨HB.out, by rw [if_neg (by rw [HBad.out]; decide)]; exact ⟨_, 2, .inr rfl, rfl⟩⟩)

        · skip
          have a1 : (57 : Int) < (c.toNat : Int) := by omega
          have a2 : (c.toNat : Int) < 65 := by omega
          have hL := (low_cls c).2.2 (by omega) (by omega)
          obtain ⟨y, hy⟩ : ∃ y : Nat, (lowerN c).toNat = y := ⟨_, rfl⟩
          have HLow : Hid (((lowerN c).toNat : Int) = (y : Int)) := Lib.hid (by omega)
          have hy2 := (lowerN c).toNat_lt
          rw [hy] at hL hy2
          clear hy
          have hv : hexV c < 0 := by unfold hexV; repeat' split
                                     all_goals omega
          have HBad : Hid (hex16 s.data.toList = false) := Lib.hid (hex16_bad HK.out hv)
          clear hv
          rcases hL with hL | hL
          · have hy3 : (y : Int) < 97 := by omega
            go_wp2_with (go_at_call 96; refine (lower_any c _).mono ?_; rw [HLow.out]; rintro e w3 ⟨rfl, rfl⟩)
            all_goals (go_ret2; exact ⟨HB.out, by rw [if_neg (by rw [HBad.out]; decide)]; exact ⟨_, 2, .inr rfl, rfl⟩⟩)

          · have hy3 : (122 : Int) < (y : Int) := by omega
            have hy4 : (97 : Int) ≤ (y : Int) := by omega
            go_wp2_with (go_at_call 96; refine (lower_any c _).mono ?_; rw [HLow.out]; rintro e w3 ⟨rfl, rfl⟩)
            all_goals (go_ret2; exact ⟨HB.out, by rw [if_neg (by rw [HBad.out]; decide)]; exact ⟨_, 2, .inr rfl, rfl⟩⟩)

        · skip
          have a1 : (90 : Int) < (c.toNat : Int) := by omega
          have a2 : (c.toNat : Int) < 95 := by omega
          have hL := (low_cls c).2.2 (by omega) (by omega)
          obtain ⟨y, hy⟩ : ∃ y : Nat, (lowerN c).toNat = y := ⟨_, rfl⟩
          have HLow : Hid (((lowerN c).toNat : Int) = (y : Int)) := Lib.hid (by omega)
          have hy2 := (lowerN c).toNat_lt
          rw [hy] at hL hy2
          clear hy
          have hv : hexV c < 0 := by unfold hexV; repeat' split
                                     all_goals omega
          have HBad : Hid (hex16 s.data.toList = false) := Lib.hid (hex16_bad HK.out hv)
          clear hv
          rcases hL with hL | hL
          · have hy3 : (y : Int) < 97 := by omega
            go_wp2_with (go_at_call 96; refine (lower_any c _).mono ?_; rw [HLow.out]; rintro e w3 ⟨rfl, rfl⟩)
            all_goals (go_ret2; exact ⟨HB.out, by rw [if_neg (by rw [HBad.out]; decide)]; exact ⟨_, 2, .inr rfl, rfl⟩⟩)

          · have hy3 : (122 : Int) < (y : Int) := by omega
            have hy4 : (97 : Int) ≤ (y : Int) := by omega
            go_wp2_with (go_at_call 96; refine (lower_any c _).mono ?_; rw [HLow.out]; rintro e w3 ⟨rfl, rfl⟩)
            all_goals (go_ret2; exact ⟨HB.out, by rw [if_neg (by rw [HBad.out]; decide)]; exact ⟨_, 2, .inr rfl, rfl⟩⟩)

        · obtain rfl : c = 96 := UInt8.toNat_inj.1 b1
          have HBad : Hid (hex16 s.data.toList = false) := Lib.hid (hex16_bad HK.out (by decide))
          have e5 : ((96 : UInt8).toNat : Int) = 96 := by decide
          rw [e5] at hcell
          clear e5
          go_wp2_with (go_at_call 96; refine (lower96 _).mono ?_; rintro e w3 ⟨rfl, rfl⟩)
          all_goals (go_ret2; exact ⟨HB.out, by rw [if_neg (by rw [HBad.out]; decide)]; exact ⟨_, 2, .inr rfl, rfl⟩⟩)
        · obtain rfl : c = 95 := UInt8.toNat_inj.1 b1
          have HBad : Hid (hex16 s.data.toList = false) := Lib.hid (hex16_bad HK.out (by decide))
          have e5 : ((95 : UInt8).toNat : Int) = 95 := by decide
          rw [e5] at hcell
          clear e5
          go_wp2_with (go_at_call 96; refine (lower95 _).mono ?_; rintro e w3 ⟨rfl, rfl⟩)
          all_goals (go_ret2; exact ⟨HB.out, by rw [if_neg (by rw [HBad.out]; decide)]; exact ⟨_, 2, .inr rfl, rfl⟩⟩)
        · skip
          have a1 : (122 : Int) < (c.toNat : Int) := by omega
          have hL := (low_cls c).2.2 (by omega) (by omega)
          obtain ⟨y, hy⟩ : ∃ y : Nat, (lowerN c).toNat = y := ⟨_, rfl⟩
          have HLow : Hid (((lowerN c).toNat : Int) = (y : Int)) := Lib.hid (by omega)
          have hy2 := (lowerN c).toNat_lt
          rw [hy] at hL hy2
          clear hy
          have hv : hexV c < 0 := by unfold hexV; repeat' split
                                     all_goals omega
          have HBad : Hid (hex16 s.data.toList = false) := Lib.hid (hex16_bad HK.out hv)
          clear hv
          rcases hL with hL | hL
          · have hy3 : (y : Int) < 97 := by omega
            go_wp2_with (go_at_call 96; refine (lower_any c _).mono ?_; rw [HLow.out]; rintro e w3 ⟨rfl, rfl⟩)
            all_goals (go_ret2; exact ⟨HB.out, by rw [if_neg (by rw [HBad.out]; decide)]; exact ⟨_, 2, .inr rfl, rfl⟩⟩)

          · have hy3 : (122 : Int) < (y : Int) := by omega
            have hy4 : (97 : Int) ≤ (y : Int) := by omega
            go_wp2_with (go_at_call 96; refine (lower_any c _).mono ?_; rw [HLow.out]; rintro e w3 ⟨rfl, rfl⟩)
            all_goals (go_ret2; exact ⟨HB.out, by rw [if_neg (by rw [HBad.out]; decide)]; exact ⟨_, 2, .inr rfl, rfl⟩⟩)

      · obtain rfl : k = s.size := by omega
        have HOk : Hid (hex16 s.data.toList = true) := Lib.hid (by
          have ht : s.data.toList.take s.size = s.data.toList := List.take_of_length_le (Nat.le_refl _)
          have h1 := hn.out
          rw [ht] at h1
          have h2 : hexOk s.data.toList = true := by
            unfold hexOk
            rw [List.all_eq_true]
            intro c hc
            obtain ⟨j, hj, rfl⟩ := List.getElem_of_mem hc
            exact decide_eq_true (hall.out j _ (by simpa using hj) (List.getElem?_eq_getElem hj))
          unfold hex16
          rw [h2, ← h1, decide_eq_true HNe.out, decide_eq_true (by omega)]
          rfl)
        have HN : Hid (n = hexA s.data.toList) := Lib.hid (by
          have ht : s.data.toList.take s.size = s.data.toList := List.take_of_length_le (Nat.le_refl _)
          have h1 := hn.out
          rw [ht] at h1
          exact h1)
        go_wp2
        go_ret2
        exact ⟨HB.out, by rw [if_pos HOk.out, ← HN.out]; rfl⟩
end Go.Proofs.YtdfapebggghfdaaGreatDoor

namespace Go.Tx
open Go.Lib
/-! ### A decimal number of eight bits -/
theorem valF_ge : ∀ (l : List UInt8) (n : Nat), n * 10 ^ l.length ≤ valF n l
  | [], n => by simp [valF]
  | c :: l, n => by
    have h := valF_ge l (10 * n + (c.toNat - 48))
    have e : valF n (c :: l) = valF (10 * n + (c.toNat - 48)) l := rfl
    rw [e, List.length_cons, Nat.pow_succ, Nat.mul_comm (10 ^ l.length) 10, ← Nat.mul_assoc]
    exact Nat.le_trans (Nat.mul_le_mul_right _ (by omega)) h
theorem valF_le (l : List UInt8) (n : Nat) : n ≤ valF n l :=
  Nat.le_trans (Nat.le_mul_of_pos_right n (Nat.pow_pos (by omega))) (valF_ge l n)
theorem pum_cases : ∀ (l : List UInt8) (acc : Nat), acc ≤ 255 →
    (parseUintM 255 acc l = .ok (valF acc l) ∧ l.all dig = true ∧ valF acc l ≤ 255) ∨ ((∀ u, parseUintM 255 acc l ≠ .ok u) ∧ (l.all dig = false ∨ 255 < valF acc l))
  | [], acc, h => .inl ⟨rfl, rfl, h⟩
  | c :: l, acc, h => by
    unfold parseUintM
    by_cases hc : 48 ≤ c.toNat ∧ c.toNat ≤ 57
    · have hd : dig c = true := dig_of c (by omega) (by omega)
      rw [if_pos hc, if_neg (by omega)]
      have e : valF acc (c :: l) = valF (acc * 10 + (c.toNat - 48)) l := by rw [Nat.mul_comm]; rfl
      by_cases hm : 255 < acc * 10 + (c.toNat - 48)
      · rw [if_pos hm]
        refine .inr ⟨fun u h => by (cases h), .inr ?_⟩
        have := valF_le l (acc * 10 + (c.toNat - 48))
        rw [e]; omega
      · rw [if_neg hm, e]
        rcases pum_cases l (acc * 10 + (c.toNat - 48)) (by omega) with ⟨h1, h2, h3⟩ | ⟨h1, h2⟩
        · exact .inl ⟨h1, by rw [List.all_cons, hd, h2]; rfl, h3⟩
        · refine .inr ⟨h1, ?_⟩
          rcases h2 with h2 | h2
          · exact .inl (by rw [List.all_cons, h2, Bool.and_false])
          · exact .inr h2
    · rw [if_neg hc]
      refine .inr ⟨fun u h => by (cases h), .inl ?_⟩
      have : dig c = false := by
        by_cases h1 : (c.toNat : Int) < 48
        · exact dig_lo c h1
        · exact dig_hi c (by omega)
      rw [List.all_cons, this]; rfl
/-- strconv.ParseUint at base 10, 8 bits: the number, or none. -/
def short8 (l : List UInt8) : Option Nat := match parseUintB 8 l with
  | .ok u => some u
  | _ => none
theorem short8_some {l : List UInt8} {u : Nat} (h : short8 l = some u) : l ≠ [] ∧ l.all dig = true ∧ u = val l ∧ u ≤ 255 := by
  unfold short8 parseUintB at h
  by_cases hn : l = []
  · rw [if_pos hn] at h; cases h
  · rw [if_neg hn] at h
    rcases pum_cases l 0 (by omega) with ⟨h1, h2, h3⟩ | ⟨h1, h2⟩
    · rw [show (2 ^ 8 - 1 : Nat) = 255 from rfl, h1] at h
      cases h
      exact ⟨hn, h2, rfl, h3⟩
    · rw [show (2 ^ 8 - 1 : Nat) = 255 from rfl] at h
      cases hp : parseUintM 255 0 l
      case ok u => exact absurd hp (h1 u)
      all_goals (rw [hp] at h; cases h)
theorem short8_none {l : List UInt8} (h : short8 l = none) : okN l = false := by
  cases ho : okN l with
  | false => rfl
  | true =>
    have hd := okN_dig ho
    unfold okN numRes at ho
    split at ho
    · cases ho
    · split at ho
      · cases ho
      · rename_i hb hm
        have hn : l ≠ [] := by rintro rfl; exact hb rfl
        unfold short8 parseUintB at h
        rw [if_neg hn, show (2 ^ 8 - 1 : Nat) = 255 from rfl] at h
        rcases pum_cases l 0 (by omega) with ⟨h1, h2, h3⟩ | ⟨h1, h2⟩
        · rw [h1] at h; cases h
        · rcases h2 with h2 | h2
          · rw [hd] at h2; cases h2
          · have : (val l : Int) = ((valF 0 l : Nat) : Int) := rfl
            omega
theorem short8_ok {l : List UInt8} {u : Nat} (h : short8 l = some u) (hz : ¬ (l.head? = some 48 ∧ 1 < l.length)) : okN l = true ∧ ((byN l).toNat : Int) = u ∧ u ≤ 255 := by
  obtain ⟨hn, hd, hu, hb⟩ := short8_some h
  have h9 : l.length ≤ 9 := by
    cases l with
    | nil => exact absurd rfl hn
    | cons c r =>
      by_cases hr : r = []
      · subst hr; simp
      · have hrl : 1 ≤ r.length := List.length_pos_iff.2 hr
        have hc : dig c = true := by rw [List.all_cons, Bool.and_eq_true] at hd; exact hd.1
        have hc48 : c ≠ 48 := fun e => hz ⟨by rw [e]; rfl, by simp; omega⟩
        have hc2 : 49 ≤ c.toNat := by
          simp only [dig, Bool.and_eq_true, decide_eq_true_eq] at hc
          have : c.toNat ≠ 48 := fun e => hc48 (UInt8.toNat_inj.1 e)
          omega
        have hv := valF_ge r (10 * 0 + (c.toNat - 48))
        have e : val (c :: r) = valF (10 * 0 + (c.toNat - 48)) r := rfl
        rw [← e, ← hu] at hv
        by_cases h3 : r.length ≤ 8
        · simp; omega
        · have h10 : 10 ^ 3 ≤ 10 ^ r.length := Nat.pow_le_pow_right (by omega) (by omega)
          have : 1 * 10 ^ r.length ≤ (10 * 0 + (c.toNat - 48)) * 10 ^ r.length := Nat.mul_le_mul_right _ (by omega)
          omega
  have hl : 1 ≤ l.length := List.length_pos_iff.2 hn
  have hres := numRes_ok l 255 hl h9 hz hd
  rw [if_neg (by omega)] at hres
  have ho : okN l = true := by unfold okN; rw [hres]
  refine ⟨ho, ?_, hb⟩
  rw [byN_int l ho, hres, hu]
theorem okN_zero {l : List UInt8} (h1 : l.head? = some 48) (h2 : 1 < l.length) : okN l = false := by
  unfold okN; rw [numRes_zero l 255 h2 h1]
/-! ### Groups once more: one more piece -/
open Go.Proofs.YtdfapebggghfdaaGreatDoor
theorem hexG_16 {l : List UInt8} (h : hex16 l = true) (h4 : l.length ≤ 4) : hexG l = some [UInt8.ofNat ((hexA l).toNat / 256), UInt8.ofNat ((hexA l).toNat % 256)] := by
  unfold hex16 at h
  simp only [Bool.and_eq_true, decide_eq_true_eq] at h
  have : 1 ≤ l.length := List.length_pos_iff.2 h.1.1
  exact hexG_ok (by omega) h.1.2
theorem hexG_no16 {l : List UInt8} (h : hex16 l = false) : hexG l = none := by
  unfold hexG
  split
  · rfl
  · rename_i h2
    split
    · rename_i h3
      have hb := hexA_bd4 l (by omega) h3
      have hn : l ≠ [] := by rintro rfl; simp at h2
      unfold hex16 at h
      rw [h3, decide_eq_true hn, decide_eq_true hb.2] at h
      cases h
    · rfl
theorem hexG_long {l : List UInt8} (h : 4 < l.length) : hexG l = none := hexG_len (.inr h)
theorem hexAll_step {P : List (List UInt8)} {k : Nat} {l a x : List UInt8} (hl : P[k]? = some l) (h : hexAll (P.take k) = some a) (hx : hexG l = some x) : hexAll (P.take (k + 1)) = some (a ++ x) := by
  have hk := (List.getElem?_eq_some_iff.1 hl).1
  have e : P[k] = l := by rw [List.getElem?_eq_getElem hk] at hl; exact Option.some.inj hl
  rw [List.take_succ_eq_append_getElem hk, e, hexAll_snoc, h, hx]
end Go.Tx

