/- Contracts of a service table's fill and add. -/
import Derived.Test.YtmnahgeledddhaaVe
namespace Go.Tx
open Go.RowKit Go.Mk
theorem SB.drewS {L : Nat} {w : World} {p m1 m2 n : Nat} {A : List UInt8 × List UInt8 → Option Int} {C : Int × List UInt8 → Option (List (List UInt8))} {G : Int × List UInt8 → Option Value} (h : SB L w p m1 m2 n A C G) : SB L w.drew p m1 m2 n A C G := h.below (Below.refl _ w).drew
theorem own_drewS {B : Nat} {e : TypeId} {size n : Nat} {v : Value} {xs : List Value} {w : World} (h : w.ownsRow B e size v n xs) : w.drew.ownsRow B e size v n xs := own_same h (fun _ _ => rfl)
theorem R2.drewS {w : World} {b : Nat} {x y : Value} (h : R2 w b x y) : R2 w.drew b x y := h.below (Below.refl _ w).drew
theorem Out.drewS {L : Nat} {w w' : World} {p m1 m2 : Nat} (h : Out L w w' p m1 m2) : Out L w w'.drew p m1 m2 := h.below (Below.refl _ w').drew
end Go.Tx
namespace Go.Proofs.Ytmnahgeledddhaa
open Go.RowKit Go.Lib Go.Tx Go.Mk
def FillR (L : Nat) (w : World) (p m1 m2 n : Nat) (A : List UInt8 × List UInt8 → Option Int) (C : Int × List UInt8 → Option (List (List UInt8))) (port : Int) (pl : List UInt8) (f : List (List UInt8)) (e : Ending) (w' : World) : Prop :=
  e = .returned (.tuple #[]) ∧ (∃ G, SB L w' p m1 m2 n (fillA A port pl f) (fillC C (port, pl) f) G) ∧ Out L w w' p m1 m2
set_option maxHeartbeats 2000000 in
set_option maxRecDepth 100000 in
theorem fill_any (L p m1 m2 n : Nat) (A : List UInt8 × List UInt8 → Option Int) (C : Int × List UInt8 → Option (List (List UInt8))) (G : Int × List UInt8 → Option Value) (w : World) (port : Int) (pl : List UInt8) (v : Value) (f : List (List UInt8))
    (h : SB L w p m1 m2 n A C G) (hv : StrC L w v f) (hf : f.length ≤ 1000) :
    Calls Try.prog 36 #[.pointer (some ⟨p, 0, none⟩), .agg #[.int .i64 port, .string ⟨pl.toArray⟩], v] w (FillR L w p m1 m2 n A C port pl f) := by
  obtain ⟨pv, c, rfl⟩ := hv.shape
  have hLs : L ≤ w.heap.size := h.size
  have hbl : Below w.heap.size w (w.alloc (.cells #[.int .i64 port, .string ⟨pl.toArray⟩] 53)) := (Below.refl _ w).alloc (Nat.le_refl _) _
  have HB := Lib.hid (h.below hbl)
  have HV := Lib.hid (own_below hv hbl)
  have HR := Lib.hid (R2.new w (.int .i64 port) (.string ⟨pl.toArray⟩) 53)
  have HO := Lib.hid ((Out.refl L w p m1 m2).below hbl)
  clear h hv hbl
  go_enter Try.func36, Try.ntmps36
  go_upto_region 1 with (fail)
  generalize (w.alloc (.cells #[.int .i64 port, .string ⟨pl.toArray⟩] 53)) = w1 at *
  obtain ⟨c0, c1, c2, f0⟩ := HB.out.cells
  have r0 := HR.out.c0
  have r1 := HR.out.c1
  have hGa := HB.out.hG (port, pl)
  have hlk0 : (Instr.lookup 45 (.map (some m2)) (.agg #[.int .i64 port, .string ⟨pl.toArray⟩]) true).run Try.prog w1.drew = .ok (.tuple #[(G (port, pl)).getD (.slice none 0 0), .bool (G (port, pl)).isSome]) w1.drew := HB.out.drewS.g.lookup2 keyP Try.underlying45 (zeroS w1.drew) (port, pl)
  cases hc : C (port, pl) with
  | some ws =>
    rw [hc] at hGa
    obtain ⟨va, hva, _⟩ := hGa
    rw [hva] at hlk0
    simp only [Option.getD_some, Option.isSome_some] at hlk0
    have hset : fillC C (port, pl) f = C := by
      funext k
      unfold fillC
      cases hk : C k with
      | some y => rfl
      | none => simp only; rw [if_neg (fun e => by rw [e, hc] at hk; cases hk)]
    rw [← hset] at HB
    obtain ⟨GG, hGG⟩ : ∃ GG, G = GG := ⟨_, rfl⟩
    rw [hGG] at HB
    have HB := Lib.hid HB.out.drewS
    have HV := Lib.hid (own_drewS HV.out)
    have HR := Lib.hid HR.out.drewS
    have HO := Lib.hid HO.out.drewS
    clear hset hGG hva hc
    go_region
    go_wp2
    go_loopw [32] (fun iv wr => ∃ k : Nat, k ≤ f.length ∧ iv = .int .i64 k ∧ SB L wr p m1 m2 n (fillA A port pl (f.take k)) (fillC C (port, pl) f) GG ∧ StrC L wr (.slice pv f.length c) f ∧ R2 wr w.heap.size (.int .i64 port) (.string ⟨pl.toArray⟩) ∧ Out L w wr p m1 m2) (fun iv _ => f.length - (intOf iv).toNat)
    case atStart => exact ⟨0, Nat.zero_le _, rfl, by rw [List.take_zero, fillA_nil]; exact HB.out, HV.out, HR.out, HO.out⟩
    case round =>
      obtain ⟨k, hk, rfl, hT, hS, hR, hOut⟩ := hrel
      have q0 := hR.c0
      have q1 := hR.c1
      by_cases hlt : k < f.length
      · obtain ⟨x, hx⟩ : ∃ x, f[k]? = some x := ⟨_, List.getElem?_eq_getElem hlt⟩
        obtain ⟨pv', c', e', _, hcm, hr⟩ := hS.read
        cases e'
        obtain ⟨g, rfl, hg, hcell⟩ := hr k x hx
        have HTk : Hid (fillA A port pl (f.take (k + 1)) = oneA (fillA A port pl (f.take k)) (x, pl) port) := Lib.hid (by rw [takeH hx, fillA_snoc])
        have HT := Lib.hid hT
        have HS := Lib.hid hS
        have HR2 := Lib.hid hR
        have HOut := Lib.hid hOut
        clear hr hT hS hx hR hOut
        generalize fillA A port pl (f.take k) = AA at HT HTk
        go_upto_region 8 with (fail)
        have hbl : Below wr.heap.size wr (wr.alloc (.cells #[.string ⟨x.toArray⟩, .string ⟨pl.toArray⟩] 66)) := (Below.refl _ wr).alloc (Nat.le_refl _) _
        have hrr := R2.new wr (.string ⟨x.toArray⟩) (.string ⟨pl.toArray⟩) 66
        generalize (wr.alloc (.cells #[.string ⟨x.toArray⟩, .string ⟨pl.toArray⟩] 66)) = W7 at *
        have HB7 := Lib.hid hbl
        have hT7 := HT.out.below hbl
        have HT7 := Lib.hid hT7
        have HS7 := Lib.hid (own_below HS.out hbl)
        have HR7 := Lib.hid (HR2.out.below hbl)
        have HO7 := Lib.hid (HOut.out.below hbl)
        obtain ⟨_, d1, _, _⟩ := hT7.cells
        have s0 := hrr.c0
        have s1 := hrr.c1
        have r0 := HR7.out.c0
        have hlk : (Instr.lookup 44 (.map (some m1)) (.agg #[.string ⟨x.toArray⟩, .string ⟨pl.toArray⟩]) true).run Try.prog W7.drew = .ok (.tuple #[(((AA (x, pl)).map (Value.int .i64)).getD (.int .i64 0)), .bool ((AA (x, pl)).map (Value.int .i64)).isSome]) W7.drew := hT7.drewS.f.lookup2 keyS Try.underlying44 (zeroI W7.drew) (x, pl)
        cases ha : AA (x, pl) with
        | some y =>
          rw [ha] at hlk
          simp only [Option.map_some, Option.getD_some, Option.isSome_some] at hlk
          have HE : Hid (oneA AA (x, pl) port = AA) := Lib.hid (by
            funext j
            unfold oneA
            cases hj : AA j with
            | some z => rfl
            | none => simp only; rw [if_neg (fun e => by rw [e, ha] at hj; cases hj)])
          clear hbl hT7 hrr ha
          go_region
          go_wp2
          go_roundw
          case rel => exact ⟨k + 1, hlt, by go_num, by rw [HTk.out, HE.out]; exact HT7.out.drewS, own_drewS HS7.out, HR7.out.drewS, HO7.out.drewS⟩
          case measure => simp [intOf]; omega
        | none =>
          rw [ha] at hlk
          simp only [Option.map_none, Option.getD_none, Option.isSome_none] at hlk
          obtain ⟨w9, hup, hm9, hs9, hh9, ho9, ht9, hu9⟩ := (hT7.drewS.drewS.f).update keyS Try.underlying44 (x, pl) (.int .i64 port)
          have hup : (Instr.mapUpdate 44 (.map (some m1)) (.agg #[.string ⟨x.toArray⟩, .string ⟨pl.toArray⟩]) (.int .i64 port)).run Try.prog W7.drew.drew = .ok () w9 := hup
          have HB9 := Lib.hid (HT7.out.drewS.drewS.putF ha hm9 hs9 hh9)
          have HS9 : Hid (StrC L w9 (.slice (some ⟨g, 0, none⟩) f.length c) f) := Lib.hid (own_same (own_drewS (own_drewS HS7.out)) (fun j hj => hh9 j (by have := HT7.out.l1; omega)))
          have HR9 : Hid (R2 w9 w.heap.size (.int .i64 port) (.string ⟨pl.toArray⟩)) := Lib.hid (by
            obtain ⟨e, hb⟩ := HR7.out.blk
            exact ⟨e, by rw [hh9 _ (by have := HT7.out.l1; omega)]; exact hb⟩)
          have HO9 : Hid (Out L w w9 p m1 m2) := Lib.hid (HO7.out.drewS.drewS.trans ⟨ho9, ht9, hu9, by rw [hs9]; exact Nat.le_refl _, fun j _ _ a3 _ => hh9 j a3⟩)
          clear hbl hT7 hrr ha hm9 hs9 hh9 ho9 ht9 hu9
          go_region
          go_wp2
          go_region
          go_wp2
          go_roundw
          case rel => exact ⟨k + 1, hlt, by go_num, by rw [HTk.out]; exact HB9.out, HS9.out, HR9.out, HO9.out⟩
          case measure => simp [intOf]; omega
      · obtain rfl : k = f.length := by omega
        rw [List.take_length] at hT
        have HT := Lib.hid hT
        clear hT hS
        go_wp2
        go_end0
        exact ⟨rfl, ⟨GG, HT.out⟩, hOut⟩
  | none =>
    rw [hc] at hGa
    simp only at hGa
    rw [hGa] at hlk0
    simp only [Option.getD_none, Option.isSome_none] at hlk0
    have HC := Lib.hid hc
    clear hc
    obtain ⟨w9, hup, hm9, hs9, hh9, ho9, ht9, hu9⟩ := (HB.out.drewS.drewS.g).update keyP Try.underlying45 (port, pl) (.slice pv f.length c)
    have hup : (Instr.mapUpdate 45 (.map (some m2)) (.agg #[.int .i64 port, .string ⟨pl.toArray⟩]) (.slice pv f.length c)).run Try.prog w1.drew.drew = .ok () w9 := hup
    have HB9 := Lib.hid (HB.out.drewS.drewS.putG HC.out (own_drewS (own_drewS HV.out)) hm9 hs9 hh9)
    have HV9 : Hid (StrC L w9 (.slice pv f.length c) f) := Lib.hid (own_same (own_drewS (own_drewS HV.out)) (fun j hj => hh9 j (by have := HB.out.l2; omega)))
    have HR9 : Hid (R2 w9 w.heap.size (.int .i64 port) (.string ⟨pl.toArray⟩)) := Lib.hid (by
      obtain ⟨e, hb⟩ := HR.out.blk
      exact ⟨e, by rw [hh9 _ (by have := HB.out.l2; omega)]; exact hb⟩)
    have HO9 : Hid (Out L w w9 p m1 m2) := Lib.hid (HO.out.drewS.drewS.trans ⟨ho9, ht9, hu9, by rw [hs9]; exact Nat.le_refl _, fun j _ _ _ a4 => hh9 j a4⟩)
    obtain ⟨GG, hGG⟩ : ∃ GG, updK G (port, pl) (.slice pv f.length c) = GG := ⟨_, rfl⟩
    rw [hGG] at HB9
    clear hm9 hs9 hh9 ho9 ht9 hu9 hGG hGa HB HV HO HR
    have HB := HB9
    have HV := HV9
    have HR := HR9
    have HO := HO9
    clear HB9 HV9 HO9 HR9
    go_region
    go_wp2
    go_region
    go_wp2
    go_loopw [32] (fun iv wr => ∃ k : Nat, k ≤ f.length ∧ iv = .int .i64 k ∧ SB L wr p m1 m2 n (fillA A port pl (f.take k)) (fillC C (port, pl) f) GG ∧ StrC L wr (.slice pv f.length c) f ∧ R2 wr w.heap.size (.int .i64 port) (.string ⟨pl.toArray⟩) ∧ Out L w wr p m1 m2) (fun iv _ => f.length - (intOf iv).toNat)
    case atStart => exact ⟨0, Nat.zero_le _, rfl, by rw [List.take_zero, fillA_nil]; exact HB.out, HV.out, HR.out, HO.out⟩
    case round =>
      obtain ⟨k, hk, rfl, hT, hS, hR, hOut⟩ := hrel
      have q0 := hR.c0
      have q1 := hR.c1
      by_cases hlt : k < f.length
      · obtain ⟨x, hx⟩ : ∃ x, f[k]? = some x := ⟨_, List.getElem?_eq_getElem hlt⟩
        obtain ⟨pv', c', e', _, hcm, hr⟩ := hS.read
        cases e'
        obtain ⟨g, rfl, hg, hcell⟩ := hr k x hx
        have HTk : Hid (fillA A port pl (f.take (k + 1)) = oneA (fillA A port pl (f.take k)) (x, pl) port) := Lib.hid (by rw [takeH hx, fillA_snoc])
        have HT := Lib.hid hT
        have HS := Lib.hid hS
        have HR2 := Lib.hid hR
        have HOut := Lib.hid hOut
        clear hr hT hS hx hR hOut
        generalize fillA A port pl (f.take k) = AA at HT HTk
        go_upto_region 8 with (fail)
        have hbl : Below wr.heap.size wr (wr.alloc (.cells #[.string ⟨x.toArray⟩, .string ⟨pl.toArray⟩] 66)) := (Below.refl _ wr).alloc (Nat.le_refl _) _
        have hrr := R2.new wr (.string ⟨x.toArray⟩) (.string ⟨pl.toArray⟩) 66
        generalize (wr.alloc (.cells #[.string ⟨x.toArray⟩, .string ⟨pl.toArray⟩] 66)) = W7 at *
        have HB7 := Lib.hid hbl
        have hT7 := HT.out.below hbl
        have HT7 := Lib.hid hT7
        have HS7 := Lib.hid (own_below HS.out hbl)
        have HR7 := Lib.hid (HR2.out.below hbl)
        have HO7 := Lib.hid (HOut.out.below hbl)
        obtain ⟨_, d1, _, _⟩ := hT7.cells
        have s0 := hrr.c0
        have s1 := hrr.c1
        have r0 := HR7.out.c0
        have hlk : (Instr.lookup 44 (.map (some m1)) (.agg #[.string ⟨x.toArray⟩, .string ⟨pl.toArray⟩]) true).run Try.prog W7.drew = .ok (.tuple #[(((AA (x, pl)).map (Value.int .i64)).getD (.int .i64 0)), .bool ((AA (x, pl)).map (Value.int .i64)).isSome]) W7.drew := hT7.drewS.f.lookup2 keyS Try.underlying44 (zeroI W7.drew) (x, pl)
        cases ha : AA (x, pl) with
        | some y =>
          rw [ha] at hlk
          simp only [Option.map_some, Option.getD_some, Option.isSome_some] at hlk
          have HE : Hid (oneA AA (x, pl) port = AA) := Lib.hid (by
            funext j
            unfold oneA
            cases hj : AA j with
            | some z => rfl
            | none => simp only; rw [if_neg (fun e => by rw [e, ha] at hj; cases hj)])
          clear hbl hT7 hrr ha
          go_region
          go_wp2
          go_roundw
          case rel => exact ⟨k + 1, hlt, by go_num, by rw [HTk.out, HE.out]; exact HT7.out.drewS, own_drewS HS7.out, HR7.out.drewS, HO7.out.drewS⟩
          case measure => simp [intOf]; omega
        | none =>
          rw [ha] at hlk
          simp only [Option.map_none, Option.getD_none, Option.isSome_none] at hlk
          obtain ⟨w9, hup, hm9, hs9, hh9, ho9, ht9, hu9⟩ := (hT7.drewS.drewS.f).update keyS Try.underlying44 (x, pl) (.int .i64 port)
          have hup : (Instr.mapUpdate 44 (.map (some m1)) (.agg #[.string ⟨x.toArray⟩, .string ⟨pl.toArray⟩]) (.int .i64 port)).run Try.prog W7.drew.drew = .ok () w9 := hup
          have HB9 := Lib.hid (HT7.out.drewS.drewS.putF ha hm9 hs9 hh9)
          have HS9 : Hid (StrC L w9 (.slice (some ⟨g, 0, none⟩) f.length c) f) := Lib.hid (own_same (own_drewS (own_drewS HS7.out)) (fun j hj => hh9 j (by have := HT7.out.l1; omega)))
          have HR9 : Hid (R2 w9 w.heap.size (.int .i64 port) (.string ⟨pl.toArray⟩)) := Lib.hid (by
            obtain ⟨e, hb⟩ := HR7.out.blk
            exact ⟨e, by rw [hh9 _ (by have := HT7.out.l1; omega)]; exact hb⟩)
          have HO9 : Hid (Out L w w9 p m1 m2) := Lib.hid (HO7.out.drewS.drewS.trans ⟨ho9, ht9, hu9, by rw [hs9]; exact Nat.le_refl _, fun j _ _ a3 _ => hh9 j a3⟩)
          clear hbl hT7 hrr ha hm9 hs9 hh9 ho9 ht9 hu9
          go_region
          go_wp2
          go_region
          go_wp2
          go_roundw
          case rel => exact ⟨k + 1, hlt, by go_num, by rw [HTk.out]; exact HB9.out, HS9.out, HR9.out, HO9.out⟩
          case measure => simp [intOf]; omega
      · obtain rfl : k = f.length := by omega
        rw [List.take_length] at hT
        have HT := Lib.hid hT
        clear hT hS
        go_wp2
        go_end0
        exact ⟨rfl, ⟨GG, HT.out⟩, hOut⟩
end Go.Proofs.Ytmnahgeledddhaa
