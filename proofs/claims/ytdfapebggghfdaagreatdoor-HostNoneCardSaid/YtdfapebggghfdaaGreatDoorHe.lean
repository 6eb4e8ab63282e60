/- Contract of add. -/
import Derived.Test.YtdfapebggghfdaaGreatDoorHd
import Derived.Deep.RegionHeld3
namespace Go.Tx
open Go.RowKit Go.Mp
theorem TB.cast {L : Nat} {w : World} {p m1 m2 n : Nat} {A A' : List UInt8 → List (List UInt8)} {C : List UInt8 → Option (List (List UInt8))} {F G : ByteArray → Option Value} (h : TB L w p m1 m2 n A C F G) (e : ∀ j, A' j = A j) : TB L w p m1 m2 n A' C F G := by
  obtain rfl : A' = A := funext e
  exact h
/-- A region that draws its order, of which the first n operations read alone: they are walked in the text's order. -/
theorem region_tail' {P : Program} {id : Nat} {Q : Exit → Act → World → Prop} {a : Act} {w : World} {l : List Oper} (n : Nat) (hm : P.follows .mixedOrders = true) (hB : Region.lexTailB .any l.toArray n = true)
    (h : wpStill P l.toArray w.drew (fun a' => wpList P l.toArray Q (l.drop n) a' w.drew) (l.take n) a) : (Code.region id l.toArray true).wp P Q a w :=
  wp_region_still_tail n hm hB h
theorem cell_new (w : World) (o : Array Value) (e : TypeId) (j : Nat) : (w.alloc (.cells o e)).cell? ⟨w.heap.size, j, none⟩ = o[j]? := World.cell?_alloc_new ..
theorem own_drew {B : Nat} {e : TypeId} {size n : Nat} {v : Value} {xs : List Value} {w : World} (h : w.ownsRow B e size v n xs) : w.drew.ownsRow B e size v n xs := own_same h (fun _ _ => rfl)
theorem putN_take {a k : List UInt8} {l f : List (List UInt8)} {i : Nat} {x : List UInt8} (h : f[i]? = some x) : putN a k l (f.take (i + 1)) = if k = x then put32 a (putN a k l (f.take i)) else putN a k l (f.take i) := by
  rw [takeH h, putN_snoc]
  by_cases e : x = k
  · rw [if_pos e, if_pos e.symm]
  · rw [if_neg e, if_neg (fun h => e h.symm)]
theorem update_run {P : Program} {w : World} {b t key elem : Nat} {F : ByteArray → Option Value} (h : MapAt w b F) (ht : P.underlying t = some (.map key elem)) (hk : P.underlying key = some .string) (k : ByteArray) (v : Value) :
    ∃ w', (Instr.mapUpdate t (.map (some b)) (.string k) v).run P w = .ok () w' ∧ MapAt w' b (upd F k v) ∧ w'.heap.size = w.heap.size ∧ (∀ j, j ≠ b → w'.heap[j]? = w.heap[j]?) ∧ w'.os = w.os ∧ w'.tape = w.tape ∧ w'.output = w.output := by
  obtain ⟨O, hrun, r1⟩ := h.update ht hk k v
  refine ⟨_, hrun, r1, by simp, fun j hj => ?_, rfl, rfl, rfl⟩
  simp only [Array.getElem?_setIfInBounds]
  rw [if_neg (fun e => hj e.symm)]
end Go.Tx
namespace Go.Proofs.YtdfapebggghfdaaGreatDoor
open Go.RowKit Go.Lib Go.Tx Go.Mp
theorem step_append_run {ops : Array Oper} {o : Oper} {a : Act} {K : Act → World → Prop} {Q : Exit → Act → World → Prop} {E : Prop} {w : World} (hgd : o.guard = none) (s x : Operand)
    (ho : o.op = .call { callee := .builtin .append, args := #[s, x], argTypes := #[32, 32] }) {v y v' : Value} {w' : World} (hs : a.eval s = v) (hx : a.eval x = y)
    (hr : (Builtin.append_ #[32, 32] o.type #[v, y]).run Tryz.prog w = .ok v' w') (h : K (a.put o.dst v') w') :
    if Region.wanted o (yielded ops a.tmps) = true then Oper.wp Tryz.prog o a w K Q else E := by
  have hw : Region.wanted o (yielded ops a.tmps) = true := by simp [Region.wanted, hgd]
  rw [if_pos hw]
  unfold Oper.wp execOp
  simp only [ho, resolve, invoke, builtin, Sem.run_bind, Sem.run_pure, Result.andThen_ok, List.map_toArray, List.map_cons, List.map_nil, hs, hx, hr]
  exact h
def AddR (L : Nat) (w : World) (p m1 m2 n : Nat) (A : List UInt8 → List (List UInt8)) (C : List UInt8 → Option (List (List UInt8))) (a : List UInt8) (f : List (List UInt8)) (e : Ending) (w' : World) : Prop :=
  e = .returned (.tuple #[]) ∧ (∃ F G, TB L w' p m1 m2 (n + 1) (fun k => putN a k (A k) f) (setC C a f) F G) ∧ Out L w w' p m1 m2
set_option maxHeartbeats 1000000 in
set_option maxRecDepth 100000 in
theorem add_any (L p m1 m2 n : Nat) (A : List UInt8 → List (List UInt8)) (C : List UInt8 → Option (List (List UInt8))) (F G : ByteArray → Option Value) (w : World) (a : ByteArray) (v : Value) (f : List (List UInt8))
    (h : TB L w p m1 m2 n A C F G) (hv : StrC L w v f) (hap : Apart F v) (hn : n ≤ 1000000) (hA : ∀ k, (A k).length ≤ 32) (hf : f.length ≤ 1000) :
    Calls Tryz.prog 22 #[.pointer (some ⟨p, 0, none⟩), .string a, v] w (AddR L w p m1 m2 n A C a.data.toList f) := by
  obtain ⟨c0, c1, c2, f0⟩ := h.cells
  have hb : TB L (w.setCell ⟨p, 0, none⟩ (.int .i64 ((n : Int) + 1))) p m1 m2 (n + 1) A C F G := h.bump
  have hv2 : StrC L (w.setCell ⟨p, 0, none⟩ (.int .i64 ((n : Int) + 1))) v f := own_same hv (fun j hj => heap_setCell_ne _ _ _ _ _ (by have := h.pl; omega))
  have ho : Out L w (w.setCell ⟨p, 0, none⟩ (.int .i64 ((n : Int) + 1))) p m1 m2 := Out.bump h.pl (Out.refl _ _ _ _ _) _ _
  obtain ⟨pv, c, rfl⟩ := hv.shape
  have HB := Lib.hid hb
  have HV := Lib.hid hv2
  have HO := Lib.hid ho
  have HA := Lib.hid hA
  have HAP := Lib.hid hap
  have hGa := hb.hG a.data.toList
  rw [bk a] at hGa
  have hlk0 := MapAt.lookup2 hb.g Tryz.underlying41 Tryz.underlying9 (zeroS _) a
  clear h hb hv hv2 ho hA hap
  go_enter Tryz.func22, Tryz.ntmps22
  go_upto_region 1 with (fail)
  generalize (w.setCell ⟨p, 0, none⟩ (.int .i64 ((n : Int) + 1))) = w1 at *
  clear c0 c1 c2 f0
  obtain ⟨c0, c1, c2, f0⟩ := HB.out.cells
  cases hc : C a.data.toList with
  | some ws =>
    rw [hc] at hGa
    obtain ⟨va, hva, _⟩ := hGa
    rw [hva] at hlk0
    have hset : setC C a.data.toList f = C := by
      funext k
      unfold setC
      cases hk : C k with
      | some y => rfl
      | none => simp only; rw [if_neg (fun e => by rw [e, hc] at hk; cases hk)]
    rw [← hset] at HB
    obtain ⟨GG, hGG⟩ : ∃ GG, G = GG := ⟨_, rfl⟩
    rw [hGG] at HB
    clear hset hGG hva hc
    go_wp2
    go_loopw [37] (fun i wr => ∃ (k : Nat) (FF : ByteArray → Option Value), k ≤ f.length ∧ i = .int .i64 k ∧ TB L wr p m1 m2 (n + 1) (fun j => putN a.data.toList j (A j) (f.take k)) (setC C a.data.toList f) FF GG ∧ StrC L wr (.slice pv f.length c) f ∧ Apart FF (.slice pv f.length c) ∧ Out L w wr p m1 m2) (fun i _ => f.length - (intOf i).toNat)
    case atStart => exact ⟨0, F, Nat.zero_le _, rfl, HB.out, HV.out, HAP.out, HO.out⟩
    case round =>
      obtain ⟨k, FF, hk, rfl, hT, hS, hAp, hOut⟩ := hrel
      by_cases hlt : k < f.length
      · obtain ⟨x, hx⟩ : ∃ x, f[k]? = some x := ⟨_, List.getElem?_eq_getElem hlt⟩
        obtain ⟨pv', c', e', _, hcm, hr⟩ := hS.read
        cases e'
        obtain ⟨g, rfl, hg, hcell⟩ := hr k x hx
        obtain ⟨d0, d1, d2, _⟩ := hT.cells
        have hAk := hT.hF x
        obtain ⟨pa, ca, hva⟩ := hAk.shape
        rw [hva] at hAk
        have hlk : (Instr.lookup 41 (.map (some m1)) (.string ⟨x.toArray⟩) false).run Tryz.prog wr = .ok (.slice pa (putN a.data.toList x (A x) (f.take k)).length ca) wr := by
          rw [MapAt.lookup hT.f Tryz.underlying41 Tryz.underlying9 (zeroS wr) ⟨x.toArray⟩]
          exact congrArg (fun q => Result.ok q wr) hva
        have hl32 : (putN a.data.toList x (A x) (f.take k)).length ≤ 32 := putN_len _ _ _ _ (HA.out x)
        have HST := Lib.hid (fun j => (putN_take (a := a.data.toList) (k := j) (l := A j) hx))
        have hblk : Go.Tx.blk FF x = (Value.slice pa (putN a.data.toList x (A x) (f.take k)).length ca).ownBlock := by unfold Go.Tx.blk; rw [← hva]
        have HT := Lib.hid hT
        have HS2 := Lib.hid hS
        have HAk := Lib.hid hAk
        have HBl := Lib.hid hblk
        obtain ⟨T, hTT⟩ : ∃ T, putN a.data.toList x (A x) (f.take k) = T := ⟨_, rfl⟩
        rw [hTT] at hlk hl32 HAk HBl hva
        have HTT := Lib.hid hTT
        have HVA := Lib.hid hva
        clear hr hT hS hAk hTT hblk hva
        by_cases h32 : T.length < 32 ∧ a.data.toList ∉ T
        · obtain ⟨h1, h2⟩ := h32
          have h1' : (T.length : Int) < 32 := by omega
          have h2' : decide (a.data.toList ∈ T) = false := decide_eq_false h2
          go_wp2_with (go_at_call 34; refine (contains_any a _ HAk.out (by omega)).mono ?_; rintro e w2 ⟨rfl, hw⟩; obtain rfl : wr = w2 := hw.symm)
          have hB0 : Below wr.heap.size wr (wr.drew.alloc (.cells #[.string a] 9)) := ((Below.refl _ wr).drew).alloc (Nat.le_refl _) _
          have hT2 := HT.out.below hB0
          have hS2 := own_below HS2.out hB0
          obtain ⟨v', w5, hrun, hv5, hg5, hb5⟩ := append_one (w := wr.drew.alloc (.cells #[.string a] 9)) (B := L) a.data.toList ⟨wr.heap.size, 0, none⟩ (by have := cell_new wr.drew #[.string a] 9 0; exact this) (own_below HAk.out hB0) (by omega) hT2.size 32
          rw [← HBl.out] at hg5 hb5
          obtain ⟨q1, q2, q3, q4, _, _⟩ := hT2.grown (k := x) (r := Go.Tx.blk FF x) (.inr rfl) hg5
          obtain ⟨w9, hup, hm9, hs9, hh9, ho9, ht9, hu9⟩ := update_run (hT2.f.same q3) Tryz.underlying41 Tryz.underlying9 ⟨x.toArray⟩ v'
          have HC5 : Hid (w5.cell? ⟨p, 1, none⟩ = some (.map (some m1))) := Lib.hid (by rw [World.cell?_of_block (w := wr.drew.alloc (.cells #[.string a] 9)) (a := ⟨p, 1, none⟩) q2]; exact hT2.cells.2.1)
          have HP := Lib.hid (hT2.putF (x := x) (a := a.data.toList) (by rw [HTT.out]; exact hv5) hg5 hb5 hm9 hs9 hh9)
          have HO5 : Hid (Out L w w9 p m1 m2) := Lib.hid ((hOut.below HT.out.size hB0).trans ⟨ho9.trans hg5.os, ht9.trans hg5.tape, hu9.trans hg5.output, by rw [hs9]; exact hg5.size, fun j a1 _ a3 _ => by
            rw [hh9 j a3]
            exact hg5.block j (Nat.lt_of_lt_of_le a1 hT2.size) (fun e => by have := (hT2.lt e.symm).1; omega)⟩)
          have HC9 := Lib.hid HP.out.1.cells.2.1
          have HS5 := Lib.hid (HP.out.2 hS2 hAp)
          have HPut : Hid (put32 a.data.toList T = T ++ [a.data.toList]) := Lib.hid (by unfold put32; rw [if_pos ⟨h1, h2⟩])
          clear hT2 hS2 hv5 hg5 hb5 hm9 hs9 hh9 ho9 ht9 hu9 q1 q2 q3 q4 hOut hAp hB0
          go_region_held3 (fun w' => w'.cell? ⟨p, 1, none⟩ = some (.map (some m1))) (first | exact HC5.out | exact HC9.out | go_keep) (refine step_append_run (v' := v') (w' := w5) (by rfl) _ _ (by rfl) (by rfl) (by rfl) (by exact hrun) ?_)
          go_wp2
          go_roundw
          case rel => exact ⟨k + 1, _, hlt, by go_num, HP.out.1.cast (fun j => by
              rw [HST.out j]
              by_cases e : j = x
              · subst e; rw [if_pos rfl, if_pos rfl, HTT.out, HPut.out]
              · rw [if_neg e, if_neg e]), HS5.out.1, HS5.out.2, HO5.out⟩
          case measure => simp [intOf]; omega
        · have HN : Hid (put32 a.data.toList T = T) := Lib.hid (by unfold put32; rw [if_neg h32])
          have HP : Hid (Calls Tryz.prog 34 #[.slice pa T.length ca, .string a] wr fun e w' => e = .returned (.bool (decide (a.data.toList ∈ T))) ∧ w' = wr) := Lib.hid (contains_any a _ HAk.out (by omega))
          by_cases h1 : T.length < 32
          · have h1' : (T.length : Int) < 32 := by omega
            have h2 : decide (a.data.toList ∈ T) = true := decide_eq_true (Classical.byContradiction fun h2 => h32 ⟨h1, h2⟩)
            go_wp2_with (go_at_call 34; refine HP.out.mono ?_; rintro e w2 ⟨rfl, hw⟩; obtain rfl : wr = w2 := hw.symm)
            go_roundw
            case rel => exact ⟨k + 1, FF, hlt, by go_num, HT.out.cast (fun j => by rw [HST.out j]; split; · rename_i e; subst e; rw [HTT.out, HN.out]
                                                                                   · rfl), HS2.out, hAp, hOut⟩
            case measure => simp [intOf]; omega
          · have h1' : ¬ (T.length : Int) < 32 := by omega
            go_wp2_with (go_at_call 34; refine HP.out.mono ?_; rintro e w2 ⟨rfl, hw⟩; obtain rfl : wr = w2 := hw.symm)
            go_roundw
            case rel => exact ⟨k + 1, FF, hlt, by go_num, HT.out.cast (fun j => by rw [HST.out j]; split; · rename_i e; subst e; rw [HTT.out, HN.out]
                                                                                   · rfl), HS2.out, hAp, hOut⟩
            case measure => simp [intOf]; omega
      · obtain rfl : k = f.length := by omega
        rw [List.take_length] at hT
        have HT := Lib.hid hT
        clear hT hS
        go_wp2
        go_end0
        exact ⟨rfl, ⟨FF, GG, HT.out⟩, hOut⟩
  | none =>
    rw [hc] at hGa
    simp only at hGa
    rw [hGa] at hlk0
    have HC := Lib.hid hc
    clear hc
    obtain ⟨w9, hup, hm9, hs9, hh9, ho9, ht9, hu9⟩ := update_run HB.out.g Tryz.underlying41 Tryz.underlying9 a (.slice pv f.length c)
    have HB9 := Lib.hid (HB.out.putG HC.out HV.out HAP.out hm9 hs9 hh9)
    have HV9 : Hid (StrC L w9 (.slice pv f.length c) f) := Lib.hid (own_same HV.out (fun j hj => hh9 j (by have := HB.out.l2; omega)))
    have HO9 : Hid (Out L w w9 p m1 m2) := Lib.hid (HO.out.trans ⟨ho9, ht9, hu9, by rw [hs9]; exact Nat.le_refl _, fun j _ _ _ a4 => hh9 j a4⟩)
    obtain ⟨GG, hGG⟩ : ∃ GG, upd G a (.slice pv f.length c) = GG := ⟨_, rfl⟩
    rw [hGG] at HB9
    clear hm9 hs9 hh9 ho9 ht9 hu9 hGG hGa HB HV HO
    have HB := HB9
    have HV := HV9
    have HO := HO9
    clear HB9 HV9 HO9
    obtain ⟨y0, y1, y2, _⟩ := HB.out.cells
    go_wp2
    go_loopw [37] (fun i wr => ∃ (k : Nat) (FF : ByteArray → Option Value), k ≤ f.length ∧ i = .int .i64 k ∧ TB L wr p m1 m2 (n + 1) (fun j => putN a.data.toList j (A j) (f.take k)) (setC C a.data.toList f) FF GG ∧ StrC L wr (.slice pv f.length c) f ∧ Apart FF (.slice pv f.length c) ∧ Out L w wr p m1 m2) (fun i _ => f.length - (intOf i).toNat)
    case atStart => exact ⟨0, F, Nat.zero_le _, rfl, HB.out, HV.out, HAP.out, HO.out⟩
    case round =>
      obtain ⟨k, FF, hk, rfl, hT, hS, hAp, hOut⟩ := hrel
      by_cases hlt : k < f.length
      · obtain ⟨x, hx⟩ : ∃ x, f[k]? = some x := ⟨_, List.getElem?_eq_getElem hlt⟩
        obtain ⟨pv', c', e', _, hcm, hr⟩ := hS.read
        cases e'
        obtain ⟨g, rfl, hg, hcell⟩ := hr k x hx
        obtain ⟨d0, d1, d2, _⟩ := hT.cells
        have hAk := hT.hF x
        obtain ⟨pa, ca, hva⟩ := hAk.shape
        rw [hva] at hAk
        have hlk : (Instr.lookup 41 (.map (some m1)) (.string ⟨x.toArray⟩) false).run Tryz.prog wr = .ok (.slice pa (putN a.data.toList x (A x) (f.take k)).length ca) wr := by
          rw [MapAt.lookup hT.f Tryz.underlying41 Tryz.underlying9 (zeroS wr) ⟨x.toArray⟩]
          exact congrArg (fun q => Result.ok q wr) hva
        have hl32 : (putN a.data.toList x (A x) (f.take k)).length ≤ 32 := putN_len _ _ _ _ (HA.out x)
        have HST := Lib.hid (fun j => (putN_take (a := a.data.toList) (k := j) (l := A j) hx))
        have hblk : Go.Tx.blk FF x = (Value.slice pa (putN a.data.toList x (A x) (f.take k)).length ca).ownBlock := by unfold Go.Tx.blk; rw [← hva]
        have HT := Lib.hid hT
        have HS2 := Lib.hid hS
        have HAk := Lib.hid hAk
        have HBl := Lib.hid hblk
        obtain ⟨T, hTT⟩ : ∃ T, putN a.data.toList x (A x) (f.take k) = T := ⟨_, rfl⟩
        rw [hTT] at hlk hl32 HAk HBl hva
        have HTT := Lib.hid hTT
        have HVA := Lib.hid hva
        clear hr hT hS hAk hTT hblk hva
        by_cases h32 : T.length < 32 ∧ a.data.toList ∉ T
        · obtain ⟨h1, h2⟩ := h32
          have h1' : (T.length : Int) < 32 := by omega
          have h2' : decide (a.data.toList ∈ T) = false := decide_eq_false h2
          go_wp2_with (go_at_call 34; refine (contains_any a _ HAk.out (by omega)).mono ?_; rintro e w2 ⟨rfl, hw⟩; obtain rfl : wr = w2 := hw.symm)
          have hB0 : Below wr.heap.size wr (wr.drew.alloc (.cells #[.string a] 9)) := ((Below.refl _ wr).drew).alloc (Nat.le_refl _) _
          have hT2 := HT.out.below hB0
          have hS2 := own_below HS2.out hB0
          obtain ⟨v', w5, hrun, hv5, hg5, hb5⟩ := append_one (w := wr.drew.alloc (.cells #[.string a] 9)) (B := L) a.data.toList ⟨wr.heap.size, 0, none⟩ (by have := cell_new wr.drew #[.string a] 9 0; exact this) (own_below HAk.out hB0) (by omega) hT2.size 32
          rw [← HBl.out] at hg5 hb5
          obtain ⟨q1, q2, q3, q4, _, _⟩ := hT2.grown (k := x) (r := Go.Tx.blk FF x) (.inr rfl) hg5
          obtain ⟨w9, hup, hm9, hs9, hh9, ho9, ht9, hu9⟩ := update_run (hT2.f.same q3) Tryz.underlying41 Tryz.underlying9 ⟨x.toArray⟩ v'
          have HC5 : Hid (w5.cell? ⟨p, 1, none⟩ = some (.map (some m1))) := Lib.hid (by rw [World.cell?_of_block (w := wr.drew.alloc (.cells #[.string a] 9)) (a := ⟨p, 1, none⟩) q2]; exact hT2.cells.2.1)
          have HP := Lib.hid (hT2.putF (x := x) (a := a.data.toList) (by rw [HTT.out]; exact hv5) hg5 hb5 hm9 hs9 hh9)
          have HO5 : Hid (Out L w w9 p m1 m2) := Lib.hid ((hOut.below HT.out.size hB0).trans ⟨ho9.trans hg5.os, ht9.trans hg5.tape, hu9.trans hg5.output, by rw [hs9]; exact hg5.size, fun j a1 _ a3 _ => by
            rw [hh9 j a3]
            exact hg5.block j (Nat.lt_of_lt_of_le a1 hT2.size) (fun e => by have := (hT2.lt e.symm).1; omega)⟩)
          have HC9 := Lib.hid HP.out.1.cells.2.1
          have HS5 := Lib.hid (HP.out.2 hS2 hAp)
          have HPut : Hid (put32 a.data.toList T = T ++ [a.data.toList]) := Lib.hid (by unfold put32; rw [if_pos ⟨h1, h2⟩])
          clear hT2 hS2 hv5 hg5 hb5 hm9 hs9 hh9 ho9 ht9 hu9 q1 q2 q3 q4 hOut hAp hB0
          go_region_held3 (fun w' => w'.cell? ⟨p, 1, none⟩ = some (.map (some m1))) (first | exact HC5.out | exact HC9.out | go_keep) (refine step_append_run (v' := v') (w' := w5) (by rfl) _ _ (by rfl) (by rfl) (by rfl) (by exact hrun) ?_)
          go_wp2
          go_roundw
          case rel => exact ⟨k + 1, _, hlt, by go_num, HP.out.1.cast (fun j => by
              rw [HST.out j]
              by_cases e : j = x
              · subst e; rw [if_pos rfl, if_pos rfl, HTT.out, HPut.out]
              · rw [if_neg e, if_neg e]), HS5.out.1, HS5.out.2, HO5.out⟩
          case measure => simp [intOf]; omega
        · have HN : Hid (put32 a.data.toList T = T) := Lib.hid (by unfold put32; rw [if_neg h32])
          have HP : Hid (Calls Tryz.prog 34 #[.slice pa T.length ca, .string a] wr fun e w' => e = .returned (.bool (decide (a.data.toList ∈ T))) ∧ w' = wr) := Lib.hid (contains_any a _ HAk.out (by omega))
          by_cases h1 : T.length < 32
          · have h1' : (T.length : Int) < 32 := by omega
            have h2 : decide (a.data.toList ∈ T) = true := decide_eq_true (Classical.byContradiction fun h2 => h32 ⟨h1, h2⟩)
            go_wp2_with (go_at_call 34; refine HP.out.mono ?_; rintro e w2 ⟨rfl, hw⟩; obtain rfl : wr = w2 := hw.symm)
            go_roundw
            case rel => exact ⟨k + 1, FF, hlt, by go_num, HT.out.cast (fun j => by rw [HST.out j]; split; · rename_i e; subst e; rw [HTT.out, HN.out]
                                                                                   · rfl), HS2.out, hAp, hOut⟩
            case measure => simp [intOf]; omega
          · have h1' : ¬ (T.length : Int) < 32 := by omega
            go_wp2_with (go_at_call 34; refine HP.out.mono ?_; rintro e w2 ⟨rfl, hw⟩; obtain rfl : wr = w2 := hw.symm)
            go_roundw
            case rel => exact ⟨k + 1, FF, hlt, by go_num, HT.out.cast (fun j => by rw [HST.out j]; split; · rename_i e; subst e; rw [HTT.out, HN.out]
                                                                                   · rfl), HS2.out, hAp, hOut⟩
            case measure => simp [intOf]; omega
      · obtain rfl : k = f.length := by omega
        rw [List.take_length] at hT
        have HT := Lib.hid hT
        clear hT hS
        go_wp2
        go_end0
        exact ⟨rfl, ⟨FF, GG, HT.out⟩, hOut⟩
end Go.Proofs.YtdfapebggghfdaaGreatDoor
