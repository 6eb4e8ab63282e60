/- Contracts and plain facts that the law leans on. -/
import Derived.WalkKit
import Derived.ProofKit
import Derived.Test.YtdfapebggghfdaaGreatDoorHtCc
import Derived.Test.YtdfapebggghfdaaGreatDoorHtCa
import Derived.Deep.RegionHeld3
namespace Go.Proofs.YtdfapebggghfdaaGreatDoor
open Go.ChangeShapes Go.WideShapes Go.ChangeAt Go.RowKit Go.Ev Go.Fr
open Go.Tx Go.Lib
theorem _root_.Go.Tx.BA.heap {w w' : World} {a : Option Addr} {n c : Nat} {l : List UInt8} (h : BA w a n c l) (e : w'.heap = w.heap) : BA w' a n c l :=
  ⟨h.len, h.cap, h.max, h.none, fun x hx j b hj => by rw [World.cell?_of_block (w := w) (by rw [e])]; exact h.cell x hx j b hj⟩
def rowF (k : Nat) : List UInt8 := [49, 48, 46, 48, 46, 48, 46, 49, 32, 110] ++ [UInt8.ofNat (97 + k)] ++ [32, 97, 108, 108, 10, 49, 48, 46, 48, 46, 49, 46] ++ [UInt8.ofNat (48 + k % 10)] ++ [32, 97, 108, 108, 10]
def textF : Nat → List UInt8
  | 0 => []
  | k + 1 => textF k ++ rowF k
theorem textF_len : ∀ k, (textF k).length = 29 * k
  | 0 => rfl
  | k + 1 => by unfold textF rowF; rw [List.length_append, textF_len k]; simp; omega
theorem plainF : ∀ n : Fin 21, 1 ≤ n.1 → byA (rowsOf (toldG 1 [] (textF n.1))) [10, 0, 0, 1] = [[110, 97], [97, 108, 108]] ∧ (byNm (rowsOf (toldG 1 [] (textF n.1))) [65, 76, 76]).length = min n.1 10 + 1 ∧ (byNm (rowsOf (toldG 1 [] (textF n.1))) [110, 98]).length = min (n.1 - 1) 1 := by decide +kernel
set_option maxHeartbeats 1000000 in
set_option maxRecDepth 100000 in
theorem hostFirst_walk (a0 : Int) (W : World) (w0 : (Lit.int .i64 a0).wf = true) (hL : laidMetH Tryz.prog laidL W) (hsh : W.ShapedOpen Tryz.prog) :
    Calls Tryz.prog 6 #[.int .i64 a0] W fun e w' => e = .returned (.bool true) ∧ Below W.heap.size W w' := by
  obtain ⟨hg, hm⟩ := glo_only W hL hsh
  have HB := Lib.hid (begun_any W hg hm)
  have HM := Lib.hid hm
  have HG := Lib.hid hg
  clear hg hm hL hsh w0
  by_cases hin : 1 ≤ a0 ∧ a0 ≤ 20
  · obtain ⟨h1, h20⟩ := hin
    obtain ⟨n, rfl⟩ : ∃ n : Nat, a0 = n := ⟨a0.toNat, by omega⟩
    obtain ⟨p1, p2, p3⟩ := plainF ⟨n, by omega⟩ (by show 1 ≤ n; omega)
    have hB1 : ∀ (W : World) (k : Nat), k < 20 → (convert 22 9 (.slice (some ⟨W.heap.size, 0, none⟩) 1 1)).run Tryz.prog (W.alloc (.cells #[.int .u8 (97 + (k : Int))] 5)) = .ok (.string ⟨#[UInt8.ofNat (97 + k)]⟩) (W.alloc (.cells #[.int .u8 (97 + (k : Int))] 5)) := fun W k hk => by
      have := byte_str W (UInt8.ofNat (97 + k))
      have e : ((UInt8.ofNat (97 + k)).toNat : Int) = 97 + (k : Int) := by rw [UInt8.toNat_ofNat_of_lt' (by show 97 + k < 256; omega)]; omega
      rw [e] at this
      exact this
    have hB2 : ∀ (W : World) (k : Nat), (convert 22 9 (.slice (some ⟨W.heap.size, 0, none⟩) 1 1)).run Tryz.prog (W.alloc (.cells #[.int .u8 (48 + (k : Int) % 10)] 5)) = .ok (.string ⟨#[UInt8.ofNat (48 + k % 10)]⟩) (W.alloc (.cells #[.int .u8 (48 + (k : Int) % 10)] 5)) := fun W k => by
      have := byte_str W (UInt8.ofNat (48 + k % 10))
      have e : ((UInt8.ofNat (48 + k % 10)).toNat : Int) = 48 + (k : Int) % 10 := by rw [UInt8.toNat_ofNat_of_lt' (by show 48 + k % 10 < 256; omega)]; omega
      rw [e] at this
      exact this
    have HB1 := Lib.hid hB1
    have HB2 := Lib.hid hB2
    clear hB1 hB2
    go_enter Tryz.func6, Tryz.ntmps6
    go_wp2_with (go_at_call 7; refine HB.out.mono ?_; rintro e w2 ⟨rfl, hb⟩)
    go_loopw [4, 5] (fun sv iv wr => ∃ (k : Nat) (S : ByteArray), k ≤ n ∧ iv = .int .i64 k ∧ sv = .string S ∧ S.data.toList = textF k ∧ Below W.heap.size W wr) (fun _ iv _ => n - (intOf iv).toNat)
    case atStart => exact ⟨0, _, Nat.zero_le _, rfl, rfl, rfl, hb⟩
    case round =>
      obtain ⟨k, S, hk, rfl, rfl, hS, hbr⟩ := hrel
      have hSz : S.size ≤ 600 := by
        have h2 := textF_len k
        rw [← hS] at h2
        have h3 : S.data.toList.length = S.size := rfl
        omega
      by_cases hlt : k < n
      · obtain ⟨x, hx⟩ : ∃ x, UInt8.ofNat (97 + k) = x := ⟨_, rfl⟩
        obtain ⟨y, hy⟩ : ∃ y, UInt8.ofNat (48 + k % 10) = y := ⟨_, rfl⟩
        have hc1 := HB1.out wr k (by omega)
        have hc2 : (convert 22 9 (.slice (some ⟨wr.heap.size + 1, 0, none⟩) 1 1)).run Tryz.prog ((wr.alloc (.cells #[.int .u8 (97 + (k : Int))] 5)).alloc (.cells #[.int .u8 (48 + (k : Int) % 10)] 5)) = .ok (.string ⟨#[y]⟩) ((wr.alloc (.cells #[.int .u8 (97 + (k : Int))] 5)).alloc (.cells #[.int .u8 (48 + (k : Int) % 10)] 5)) := by
          have := HB2.out (wr.alloc (.cells #[.int .u8 (97 + (k : Int))] 5)) k
          have e : (wr.alloc (.cells #[.int .u8 (97 + (k : Int))] 5)).heap.size = wr.heap.size + 1 := by show (wr.heap.push _).size = _; simp
          rw [e, hy] at this
          exact this
        rw [hx] at hc1
        have HX : Hid (textF (k + 1) = S.data.toList ++ ([49, 48, 46, 48, 46, 48, 46, 49, 32, 110] ++ [x] ++ [32, 97, 108, 108, 10, 49, 48, 46, 48, 46, 49, 46] ++ [y] ++ [32, 97, 108, 108, 10])) := Lib.hid (by rw [hS]; show textF k ++ rowF k = _; unfold rowF; rw [hx, hy])
        clear hx hy hS
        go_wp2
        go_roundw
        case rel =>
          refine ⟨k + 1, _, hlt, by go_num, rfl, ?_, (hbr.alloc hbr.size _).alloc (by have := hbr.size; show W.heap.size ≤ (wr.heap.push _).size; simp; omega) _⟩
          rw [HX.out]
          simp
        case measure => simp [intOf]; omega
      · obtain rfl : k = n := by omega
        have hlen := textF_len k
        rw [← hS] at p1 p2 p3 hlen
        have hSl : S.data.toList.length = S.size := rfl
        obtain ⟨cap, o, hconv, hcp, hcm, hrow⟩ := row_made (P := Tryz.prog) (src := 9) (dst := 22) S wr (by unfold maxLen; omega) Tryz.underlying9 Tryz.underlying22 Tryz.underlying5
        have hba : BA (wr.drew.alloc o) (some ⟨wr.heap.size, 0, none⟩) S.size cap S.data.toList := (ba_row hrow hcm).heap rfl
        have hb3 : Below W.heap.size W (wr.drew.alloc o) := hbr.drew.alloc hbr.size o
        have hls : wr.heap.size < (wr.drew.alloc o).heap.size := by show wr.heap.size < (Array.push _ _).size; simp
        have HP := Lib.hid (parse_any _ _ _ _ (wr.drew.alloc o) hba (fun x hx => by cases hx; exact hls) (by omega) (HG.out.below hb3) (HM.out.below hb3))
        generalize rowsOf (toldG 1 [] S.data.toList) = R at *
        have HN : ∀ r1 r2 : Nat, r1 = min k 10 + 1 → r2 = min (k - 1) 1 → Hid (∀ W p s r, Tab (wr.drew.alloc o).heap.size W p R → MaxAt W → (s = ⟨#[65, 76, 76]⟩ ∧ r = r1) ∨ (s = ⟨#[110, 98]⟩ ∧ r = r2) → Calls Tryz.prog 14 #[.pointer (some ⟨p, 0, none⟩), .string s] W fun e w' => (∃ q c, e = .returned (.slice q r c)) ∧ Below W.heap.size W w') := fun r1 r2 q1 q2 => Lib.hid (fun W p s r hT hM hs => (byName_any s W hT (by rcases hs with ⟨rfl, _⟩ | ⟨rfl, _⟩ <;> decide) hM).mono (by
          rintro e w' ⟨v, rfl, hv, hb⟩
          obtain ⟨q, c, rfl⟩ := hv.shape
          have e2 : (byNm R s.data.toList).length = r := by
            rcases hs with ⟨rfl, rfl⟩ | ⟨rfl, rfl⟩
            · rw [q1]; exact p2
            · rw [q2]; exact p3
          rw [e2]
          exact ⟨⟨q, c, rfl⟩, hb⟩))
        have HA : Hid (∀ W p, Tab (wr.drew.alloc o).heap.size W p R → Calls Tryz.prog 16 #[.pointer (some ⟨p, 0, none⟩), .string ⟨#[10, 0, 0, 1]⟩] W fun e w' => (∃ g c, e = .returned (.slice (some ⟨g, 0, none⟩) 2 c) ∧ 2 ≤ c ∧ g < w'.heap.size ∧ w'.cell? ⟨g, 0, none⟩ = some (.string ⟨#[110, 97]⟩) ∧ w'.cell? ⟨g, 1, none⟩ = some (.string ⟨#[97, 108, 108]⟩)) ∧ Below W.heap.size W w') := Lib.hid (fun W p hT => by
          have e3 : byA R (ByteArray.data ⟨#[10, 0, 0, 1]⟩).toList = [[110, 97], [97, 108, 108]] := p1
          have := byAddr_any ⟨#[10, 0, 0, 1]⟩ W hT (by rw [e3]; decide)
          rw [e3] at this
          refine this.mono ?_
          rintro e w' ⟨v, rfl, hv, hb⟩
          obtain ⟨q, c, rfl, hc, _, hr⟩ := hv.read
          obtain ⟨g, rfl, hg, hcell⟩ := hr 1 [97, 108, 108] rfl
          obtain ⟨g', e', _, hcell0⟩ := hr 0 [110, 97] rfl
          cases e'
          exact ⟨⟨g, c, rfl, hc, hg, hcell0, hcell⟩, hb⟩)
        have HB3 := Lib.hid hb3
        clear p1 p2 p3 hlen hSl hS hba hb3 hls hrow hcm hcp hSz
        go_upto_region 12 with (go_at_call 10; refine HP.out.mono ?_; rintro e w3 ⟨p, rfl, hT, hb4⟩; have HT := Lib.hid hT; have HBW := Lib.hid (HB3.out.trans (hb4.mono HB3.out.size)); clear hT hb4)
        by_cases hk10 : k ≤ 10
        · have hk10' : ¬ (10 : Int) < (k : Int) := by omega
          have e1 : min k 10 = k := by omega
          by_cases hk1 : k = 1
          · subst hk1
            have HN := HN 2 0 rfl rfl
            go_wp2_with (first | (go_at_call 16; refine (HA.out _ _ HT.out).mono ?_; rintro e w4 ⟨⟨g4, c4, rfl, hc4, hg4, hx4, hy4⟩, hb4⟩; have HT4 := Lib.hid (HT.out.below hb4); have HBW4 := Lib.hid (HBW.out.trans (hb4.mono HBW.out.size))) | (go_at_call 14; refine (HN.out _ _ _ _ (by first | exact HT5.out | exact HT4.out) (by first | exact HM.out.below HBW5.out | exact HM.out.below HBW4.out) (by first | exact .inl ⟨rfl, rfl⟩ | exact .inr ⟨rfl, rfl⟩)).mono ?_; rintro e w5 ⟨⟨q5, c5, rfl⟩, hb5⟩; have HT5 := Lib.hid ((by first | exact HT5.out | exact HT4.out : Tab _ _ _ _).below hb5); have HBW5 := Lib.hid ((by first | exact HBW5.out | exact HBW4.out : Below W.heap.size W _).trans (hb5.mono (by first | exact HBW5.out.size | exact HBW4.out.size)))))
            go_ret
            exact ⟨by simp <;> omega, HBW5.out⟩
          · have e2 : min (k - 1) 1 = 1 := by omega
            have e3 : (1 : Int) ≤ (k : Int) - 1 := by omega
            have HN := HN (k + 1) 1 (by omega) e2.symm
            go_wp2_with (first | (go_at_call 16; refine (HA.out _ _ HT.out).mono ?_; rintro e w4 ⟨⟨g4, c4, rfl, hc4, hg4, hx4, hy4⟩, hb4⟩; have HT4 := Lib.hid (HT.out.below hb4); have HBW4 := Lib.hid (HBW.out.trans (hb4.mono HBW.out.size))) | (go_at_call 14; refine (HN.out _ _ _ _ (by first | exact HT5.out | exact HT4.out) (by first | exact HM.out.below HBW5.out | exact HM.out.below HBW4.out) (by first | exact .inl ⟨rfl, rfl⟩ | exact .inr ⟨rfl, rfl⟩)).mono ?_; rintro e w5 ⟨⟨q5, c5, rfl⟩, hb5⟩; have HT5 := Lib.hid ((by first | exact HT5.out | exact HT4.out : Tab _ _ _ _).below hb5); have HBW5 := Lib.hid ((by first | exact HBW5.out | exact HBW4.out : Below W.heap.size W _).trans (hb5.mono (by first | exact HBW5.out.size | exact HBW4.out.size)))))
            go_ret
            exact ⟨by simp <;> omega, HBW5.out⟩
        · have hk10' : (10 : Int) < (k : Int) := by omega
          have e1 : min k 10 = 10 := by omega
          have e2 : min (k - 1) 1 = 1 := by omega
          have e3 : (1 : Int) ≤ (k : Int) - 1 := by omega
          have HN := HN 11 1 (by omega) e2.symm
          go_wp2_with (first | (go_at_call 16; refine (HA.out _ _ HT.out).mono ?_; rintro e w4 ⟨⟨g4, c4, rfl, hc4, hg4, hx4, hy4⟩, hb4⟩; have HT4 := Lib.hid (HT.out.below hb4); have HBW4 := Lib.hid (HBW.out.trans (hb4.mono HBW.out.size))) | (go_at_call 14; refine (HN.out _ _ _ _ (by first | exact HT5.out | exact HT4.out) (by first | exact HM.out.below HBW5.out | exact HM.out.below HBW4.out) (by first | exact .inl ⟨rfl, rfl⟩ | exact .inr ⟨rfl, rfl⟩)).mono ?_; rintro e w5 ⟨⟨q5, c5, rfl⟩, hb5⟩; have HT5 := Lib.hid ((by first | exact HT5.out | exact HT4.out : Tab _ _ _ _).below hb5); have HBW5 := Lib.hid ((by first | exact HBW5.out | exact HBW4.out : Below W.heap.size W _).trans (hb5.mono (by first | exact HBW5.out.size | exact HBW4.out.size)))))
          go_ret
          exact ⟨by simp <;> omega, HBW5.out⟩
  · by_cases hlo : a0 < 1
    · go_enter Tryz.func6, Tryz.ntmps6
      go_wp2_with (go_at_call 7; refine HB.out.mono ?_; rintro e w2 ⟨rfl, hb⟩)
      go_ret
      exact ⟨rfl, hb⟩
    · have hhi : 20 < a0 := by omega
      go_enter Tryz.func6, Tryz.ntmps6
      go_wp2_with (go_at_call 7; refine HB.out.mono ?_; rintro e w2 ⟨rfl, hb⟩)
      go_ret
      exact ⟨rfl, hb⟩
end Go.Proofs.YtdfapebggghfdaaGreatDoor

namespace Go.Tx
open Go.RowKit
theorem rowOf_fine {ws : List (List UInt8)} (h : FineL ws) {t : List UInt8 × List (List UInt8)} (ht : rowOf ws = some t) : t.2 ≠ [] ∧ t.2.length ≤ 512 ∧ ∀ y ∈ t.2, y.length ≤ 512 := by
  obtain ⟨x, r, rfl⟩ : ∃ x r, ws = x :: r := by cases ws with | nil => exact absurd rfl h.ne | cons x r => exact ⟨x, r, rfl⟩
  cases hp : parseP x with
  | none => rw [rowOf_cons_none hp] at ht; cases ht
  | some a =>
    rw [rowOf_cons_some hp] at ht
    split at ht
    · cases ht
    · rename_i hne
      cases ht
      have h1 := List.length_filterMap_le nm r
      have h2 := h.few
      simp only [List.length_cons] at h2
      refine ⟨hne, by simp only; omega, fun y hy => ?_⟩
      obtain ⟨z, hz, e⟩ := List.mem_filterMap.1 hy
      unfold nm at e
      split at e
      · cases e
        rw [List.length_map]
        have h3 := bare_len z
        have h4 := h.word z (List.mem_cons_of_mem _ hz)
        omega
      · cases e
theorem rowsOf_fine {T : List (Nat × List (List UInt8))} (h : ∀ t ∈ T, FineL t.2) : ∀ t ∈ rowsOf T, t.2 ≠ [] ∧ t.2.length ≤ 512 ∧ ∀ y ∈ t.2, y.length ≤ 512 := fun t ht => by
  obtain ⟨x, hx, e⟩ := List.mem_filterMap.1 ht
  exact rowOf_fine (h x hx) e
theorem byA_len {R : List (List UInt8 × List (List UInt8))} (h : ∀ t ∈ R, t.2.length ≤ 512) (a : List UInt8) : (byA R a).length ≤ 512 := by
  unfold byA namesAt
  cases hf : R.find? fun r => decide (r.1 = a) with
  | none => simp
  | some t => simp only [Option.map_some, Option.getD_some]; exact h t (List.mem_of_find?_eq_some hf)
end Go.Tx
namespace Go.Proofs.YtdfapebggghfdaaGreatDoor
open Go.ChangeShapes Go.WideShapes Go.ChangeAt Go.RowKit Go.Ev Go.Fr
open Go.Tx Go.Lib
theorem cutA_any (s : ByteArray) (n : Nat) (hs : s.size ≤ maxLen) (hn : n ≤ 1000) : ∃ t : ByteArray, t.size ≤ n ∧ ∀ w : World, Calls Tryz.prog 9 #[.string s, .int .i64 n] w fun e w' => e = .returned (.string t) ∧ w = w' := by
  unfold maxLen at hs
  by_cases h : s.size ≤ n
  · refine ⟨s, h, fun w => ?_⟩
    have h1 : ¬ (n : Int) < (s.size : Int) := by omega
    go_enter Tryz.func9, Tryz.ntmps9
    go_wp2
    all_goals (go_ret; exact ⟨rfl, rfl⟩)
  · refine ⟨s.extract 0 n, by rw [ByteArray.size_extract]; omega, fun w => ?_⟩
    have h1 : (n : Int) < (s.size : Int) := by omega
    go_enter Tryz.func9, Tryz.ntmps9
    go_wp2
    all_goals (go_ret; exact ⟨rfl, rfl⟩)
/-- Bytes that came in. -/
theorem ba_ints {W : World} {a : Option Addr} {n0 n c : Nat} {zs : List Int} (h : Go.Sl.IsInts .u8 W a n0 c zs) (hn : n ≤ n0) : BA W a n c ((zs.take n).map fun z => UInt8.ofNat z.toNat) ∧ n0 ≤ c ∧ c ≤ maxLen ∧ (0 < c → ∀ x, a = some x → x.block < W.heap.size) := by
  rcases h with ⟨rfl, rfl, rfl, rfl⟩ | ⟨x, rfl, h1, h2, h3, h4, h5⟩
  · obtain rfl : n = 0 := by omega
    exact ⟨⟨rfl, Nat.le_refl _, by omega, fun _ => rfl, fun x hx => by cases hx⟩, Nat.le_refl _, by unfold maxLen; omega, fun h => by omega⟩
  · refine ⟨⟨by simp; omega, by omega, by unfold maxLen at h2; omega, (fun h => by cases h), fun y hy j b hj => ?_⟩, h1, h2, fun h0 y hy => ?_⟩
    · cases hy
      rw [List.getElem?_map] at hj
      obtain ⟨z, hz, rfl⟩ := Option.map_eq_some_iff.1 hj
      rw [List.getElem?_take] at hz
      split at hz
      · rename_i hjn
        have hjl := (List.getElem?_eq_some_iff.1 hz).1
        have hc := h4 j hjl
        rw [List.getD_eq_getElem?_getD, hz] at hc
        have hw := h5 z (List.mem_of_getElem? hz)
        have hw2 : 0 ≤ z ∧ z ≤ 255 := by simpa [Lit.wf, IntKind.wrap, IntKind.bits, IntKind.signed, IntKind.min, IntKind.max] using hw
        rw [hc]
        simp only [Option.getD_some]
        rw [UInt8.toNat_ofNat_of_lt' (by show z.toNat < 256; omega)]
        congr 2
        omega
      · cases hz
    · cases hy
      have hc := h4 0 (by omega)
      unfold World.cell? at hc
      have ha : (x.add 0).block = x.block := by unfold Addr.add; split <;> rfl
      split at hc
      · rename_i hh; rw [← ha]; exact (Array.getElem?_eq_some_iff.1 hh).1
      · cases hc
theorem told_nil : toldG 1 [] [] = [] := by decide
/-- What both sides' Lines say of bytes that came in. -/
theorem lines_in {W : World} {a : Option Addr} {n0 n c : Nat} (h : ∃ zs, Go.Sl.IsInts .u8 W a n0 c zs) (hn : n ≤ n0) (hn2 : n ≤ 1500) : ∃ T : List (Nat × List (List UInt8)), (∀ t ∈ T, FineL t.2) ∧ T.length ≤ 100001 ∧
    (∀ W', Below W.heap.size W W' → Calls Tryz.prog 19 #[.slice a n c] W' (LinesR W' T)) ∧ (∀ W', Below W.heap.size W W' → Calls Tryz.prog 23 #[.slice a n c] W' (RLinesR W' T)) := by
  obtain ⟨zs, hz⟩ := h
  obtain ⟨hba, hnc, hcm, hold⟩ := ba_ints hz hn
  by_cases hc : c = 0
  · subst hc
    obtain rfl : n = 0 := by omega
    refine ⟨[], fun t ht => by (cases ht), by simp, fun W' _ => (lines_zero a W').mono ?_, fun W' _ => (rlines_zero a W').mono ?_⟩
    · rintro e w ⟨rfl, rfl⟩; exact ⟨_, rfl, LinesAt.nil _ _, Below.refl _ _⟩
    · rintro e w ⟨rfl, rfl⟩; exact ⟨_, rfl, LinesC.nil _ _ _, Below.refl _ _⟩
  · have ho := hold (by omega)
    obtain ⟨hf, hfew⟩ := toldG_fine ((zs.take n).map fun z => UInt8.ofNat z.toNat) 1 []
    have hl := hba.len
    exact ⟨_, hf, by omega, fun W' hb => lines_any a n c _ W' (hba.below hb ho) (fun x hx => Nat.lt_of_lt_of_le (ho x hx) hb.size) (by omega), fun W' hb => rlines_any a n c _ W' (hba.below hb ho) (fun x hx => Nat.lt_of_lt_of_le (ho x hx) hb.size) (by omega)⟩
set_option maxHeartbeats 4000000 in
set_option maxRecDepth 100000 in
theorem hostTable_walk (a0 : Option Addr) (n0 c0 : Nat) (a1 a2 : ByteArray) (W : World) (w0 : ∃ zs, Go.Sl.IsInts .u8 W a0 n0 c0 zs) (w1 : a1.size ≤ maxLen) (w2 : a2.size ≤ maxLen) (hL : laidMetH Tryz.prog laidL W) (hsh : W.ShapedOpen Tryz.prog) :
    Calls Tryz.prog 3 #[.slice a0 n0 c0, .string a1, .string a2] W fun e w' => e = .returned (.bool true) ∧ Below W.heap.size W w' := by
  obtain ⟨hg, hm⟩ := glo_only W hL hsh
  have HB := Lib.hid (begun_any W hg hm)
  have HM := Lib.hid hm
  have HG := Lib.hid hg
  obtain ⟨n, hn0, hn1, hShort⟩ : ∃ n, n ≤ n0 ∧ n ≤ 1500 ∧ ∀ w : World, Calls Tryz.prog 8 #[.slice a0 n0 c0, .int .i64 1500] w fun e w' => e = .returned (.slice a0 n c0) ∧ w = w' := by
    obtain ⟨zs, hz⟩ := w0
    obtain ⟨_, hnc, hcm, _⟩ := ba_ints hz (Nat.le_refl _)
    unfold maxLen at hcm
    by_cases h : n0 ≤ 1500
    · exact ⟨n0, Nat.le_refl _, h, fun w => short_le a0 n0 c0 1500 w hnc (by omega) h⟩
    · exact ⟨1500, by omega, Nat.le_refl _, fun w => short_gt a0 n0 c0 1500 w hnc (by omega) (by omega)⟩
  have HShort := Lib.hid hShort
  obtain ⟨T, hfine, hfew, hl1, hl2⟩ := lines_in w0 hn0 hn1
  have HP := Lib.hid (fun w' (hb : Below W.heap.size W w') => parse_core a0 n c0 T w' hfine hfew (fun W2 hb2 => hl1 W2 (hb.trans (hb2.mono hb.size))) (hg.below hb) (hm.below hb))
  have HH := Lib.hid (fun w' (hb : Below W.heap.size W w') => hosts_core a0 n c0 T w' hfine hfew (hl2 w' hb))
  have hRf := rowsOf_fine hfine
  have hRl : (rowsOf T).length ≤ 100001 := Nat.le_trans (rowsOf_few T) hfew
  obtain ⟨s1, hs1, hcut1⟩ := cutA_any a1 300 w1 (by omega)
  obtain ⟨s2, hs2, hcut2⟩ := cutA_any a2 20 w2 (by omega)
  have HCut : Hid (∀ w q m r, (q = a1 ∧ m = (300 : Int) ∧ r = s1) ∨ (q = a2 ∧ m = (20 : Int) ∧ r = s2) → Calls Tryz.prog 9 #[.string q, .int .i64 m] w fun e w' => e = .returned (.string r) ∧ w = w') := Lib.hid (fun w q m r h => by
    rcases h with ⟨rfl, rfl, rfl⟩ | ⟨rfl, rfl, rfl⟩
    · exact hcut1 w
    · exact hcut2 w)
  have HRf := Lib.hid hRf
  clear hShort hfine hl1 hl2 hRf hcut1 hcut2 hfew hg hm hL hsh w0 w1 w2 hn0 hn1
  generalize rowsOf T = R at *
  have HbyA := Lib.hid (fun a => byA_len (fun t ht => (HRf.out t ht).2.1) a : ∀ a, (byA R a).length ≤ 512)
  go_enter Tryz.func3, Tryz.ntmps3
  go_upto_region 6 with (first | (go_at_call 7; refine HB.out.mono ?_; rintro e w3 ⟨rfl, hb3⟩) | (go_at_call 8; refine (HShort.out _).mono ?_; rintro e w4 ⟨rfl, hw⟩; obtain rfl := hw) | (go_at_call 9; refine (HCut.out _ _ _ _ (by first | exact .inl ⟨rfl, rfl, rfl⟩ | exact .inr ⟨rfl, rfl, rfl⟩)).mono ?_; rintro e w4 ⟨rfl, hw⟩; obtain rfl := hw))
  go_upto_region 8 with (first | (go_at_call 10; refine (HP.out _ hb3).mono ?_; rintro e w5 ⟨p, rfl, hT5, hb5⟩; have HT5 := Lib.hid hT5; have hbW5 := hb3.trans (hb5.mono hb3.size)) | (go_at_call 11; refine (HH.out _ hbW5).mono ?_; rintro e w6 ⟨v6, rfl, hR6, hb6⟩; obtain ⟨p6, c6, rfl⟩ := hR6.shape; have HT := Lib.hid (HT5.out.below hb6); have HV := Lib.hid hR6; have HWh := Lib.hid (hbW5.trans (hb6.mono hbW5.size))))
  have HMh := Lib.hid (HM.out.below HWh.out)
  have HW := Lib.hid (Below.refl w6.heap.size w6)
  have hRl6 : R.length ≤ 1000000 := by omega
  have HRn : Hid (∀ t ∈ R, t.2.length ≤ 1000) := Lib.hid (fun t ht => Nat.le_trans (HRf.out t ht).2.1 (by decide))
  have HL1 : Hid (StrC w6.heap.size w6 (.slice none 0 0) []) := Lib.hid (World.ownsRow_nil _ _ _ _)
  have HL2 : Hid (StrC w6.heap.size w6 (.slice none 0 0) []) := Lib.hid (World.ownsRow_nil _ _ _ _)
  have HSZ : Hid (s1.size ≤ maxLen) := Lib.hid (by unfold maxLen; omega)
  have HSZ6 : Hid (s1.size ≤ 1000000) := Lib.hid (by omega)
  clear hT5 hR6 HP HH HT5 HShort HCut HB hbW5 hb5 hb6 hb3
  go_wp2_with (first | (go_at_call 12; refine (len_any _ (HT.out.below HW.out)).mono ?_; rintro e w7 ⟨rfl, hw⟩; obtain rfl := hw) | (go_at_call 14; refine (byName_any _ _ (HT.out.below HW.out) HSZ.out (HMh.out.below HW.out)).mono ?_; rintro e w7 ⟨v7, rfl, hv7, hb7⟩; have HL2 := Lib.hid (own_below HL2.out hb7); have HL1 := Lib.hid hv7; have HW := Lib.hid (HW.out.trans (hb7.mono HW.out.size)); clear hv7 hb7) | (go_at_call 15; refine (rbyName_any _ _ (HV.out.below HW.out) hRl6 HRn.out HSZ6.out).mono ?_; rintro e w7 ⟨v7, rfl, hv7, hb7⟩; have HL1 := Lib.hid (own_below HL1.out hb7); have HL2 := Lib.hid hv7; have HW := Lib.hid (HW.out.trans (hb7.mono HW.out.size)); clear hv7 hb7) | (go_at_call 16; refine (byAddr_any _ _ (HT.out.below HW.out) (Nat.le_trans (HbyA.out _) (by decide))).mono ?_; rintro e w7 ⟨v7, rfl, hv7, hb7⟩; have HL2 := Lib.hid (own_below HL2.out hb7); have HL1 := Lib.hid hv7; have HW := Lib.hid (HW.out.trans (hb7.mono HW.out.size)); clear hv7 hb7) | (go_at_call 17; refine (rbyAddr_any _ _ (HV.out.below HW.out) hRl6).mono ?_; rintro e w7 ⟨v7, rfl, hv7, hw⟩; obtain rfl := hw; have HL2 := Lib.hid hv7; clear hv7) | (go_at_call 13; refine (eqtexts_any _ _ _ _ _ _ HL1.out HL2.out).mono ?_; rintro e w7 ⟨rfl, q, rfl⟩; have HL1 := Lib.hid (own_drewN HL1.out q); have HL2 := Lib.hid (own_drewN HL2.out q); have HW := Lib.hid (bdN HW.out q)))
  go_loopw [10] (fun iv wq => ∃ k : Nat, k ≤ R.length ∧ k ≤ 20 ∧ iv = .int .i64 k ∧ Below w6.heap.size w6 wq) (fun iv _ => R.length - (intOf iv).toNat)
  case atStart => exact ⟨0, Nat.zero_le _, Nat.zero_le _, rfl, HW.out⟩
  case round =>
    obtain ⟨k, hk, hk20, rfl, hbr⟩ := hrel
    clear HW HL1 HL2 HSZ HSZ6
    by_cases hlt : k < R.length ∧ k < 20
    · obtain ⟨hl1, hl2⟩ := hlt
      have hl2i : (k : Int) < 20 := by omega
      have hki : (0 : Int) ≤ (k : Int) := by omega
      have hki2 : (k : Int) < (R.length : Int) := by omega
      obtain ⟨⟨a, f⟩, hx⟩ : ∃ x, R[k]? = some x := ⟨_, List.getElem?_eq_getElem hl1⟩
      obtain ⟨hfne, hf512, hfy⟩ := HRf.out (a, f) (List.mem_of_getElem? hx)
      obtain ⟨_, cap', e', _, _, hrd⟩ := (HV.out.below hbr).read
      cases e'
      obtain ⟨g, rfl, hgl, hc0, q, c, hc1, hst⟩ := hrd k a f hx
      rw [Nat.mul_comm] at hc0 hc1
      obtain ⟨_, c', e', hfc, hfm, hrf⟩ := hst.read
      cases e'
      obtain ⟨y, r, rfl⟩ : ∃ y r, f = y :: r := by cases f with | nil => exact absurd rfl hfne | cons y r => exact ⟨y, r, rfl⟩
      obtain ⟨A, rfl, hAl, hcy⟩ := hrf 0 y rfl
      have hyl := hfy y (by simp)
      obtain ⟨ab, hab⟩ : ∃ q : ByteArray, (⟨a.toArray⟩ : ByteArray) = q := ⟨_, rfl⟩
      obtain ⟨yb, hyb⟩ : ∃ q : ByteArray, (⟨y.toArray⟩ : ByteArray) = q := ⟨_, rfl⟩
      rw [hab] at hc0
      rw [hyb] at hcy
      have hybs : yb.size ≤ 512 := by rw [← hyb]; show y.toArray.size ≤ 512; simpa using hyl
      have HS : Hid (∀ W, Below wr.heap.size wr W → (W.cell? ⟨g, k * 2, none⟩ = some (.string ab) ∧ W.cell? ⟨g, k * 2 + 1, none⟩ = some (.slice (some ⟨A, 0, none⟩) (y :: r).length c) ∧ W.cell? ⟨A, 0, none⟩ = some (.string yb)) ∧ Below wr.heap.size wr W) := Lib.hid (fun W hW => ⟨⟨by rw [hW.cell (p := ⟨g, k * 2, none⟩) hgl]; exact hc0, by rw [hW.cell (p := ⟨g, k * 2 + 1, none⟩) hgl]; exact hc1, by rw [hW.cell (p := ⟨A, 0, none⟩) hAl]; exact hcy⟩, hW⟩)
      have HT2 := Lib.hid (HT.out.below hbr)
      have HV2 := Lib.hid (HV.out.below hbr)
      have HMh2 := Lib.hid (HMh.out.below hbr)
      have HT := HT2
      have HV := HV2
      have HMh := HMh2
      have HW := Lib.hid (Below.refl wr.heap.size wr).drew
      have HL1 : Hid (StrC wr.heap.size wr.drew (.slice none 0 0) []) := Lib.hid (World.ownsRow_nil _ _ _ _)
      have HL2 : Hid (StrC wr.heap.size wr.drew (.slice none 0 0) []) := Lib.hid (World.ownsRow_nil _ _ _ _)
      have HSZ : Hid (yb.size ≤ maxLen) := Lib.hid (by unfold maxLen; omega)
      have HSZ6 : Hid (yb.size ≤ 1000000) := Lib.hid (by omega)
      have HBr := Lib.hid hbr
      clear hrd hrf hst hx hfy hf512 hfne hyl hab hyb HT2 HV2 HMh2 hbr
      go_wp2
      go_region_held3 (fun w' => (w'.cell? ⟨g, k * 2, none⟩ = some (.string ab) ∧ w'.cell? ⟨g, k * 2 + 1, none⟩ = some (.slice (some ⟨A, 0, none⟩) (y :: r).length c) ∧ w'.cell? ⟨A, 0, none⟩ = some (.string yb)) ∧ Below wr.heap.size wr w') (first | exact HS.out _ HW.out | exact HS.out _ HW.out.drew) (first | (go_at_call 12; refine (len_any _ (HT.out.below HW.out)).mono ?_; rintro e w7 ⟨rfl, hw⟩; obtain rfl := hw) | (go_at_call 14; refine (byName_any _ _ (HT.out.below HW.out) HSZ.out (HMh.out.below HW.out)).mono ?_; rintro e w7 ⟨v7, rfl, hv7, hb7⟩; have HL2 := Lib.hid (own_below HL2.out hb7); have HL1 := Lib.hid hv7; have HW := Lib.hid (HW.out.trans (hb7.mono HW.out.size)); clear hv7 hb7) | (go_at_call 15; refine (rbyName_any _ _ (HV.out.below HW.out) hRl6 HRn.out HSZ6.out).mono ?_; rintro e w7 ⟨v7, rfl, hv7, hb7⟩; have HL1 := Lib.hid (own_below HL1.out hb7); have HL2 := Lib.hid hv7; have HW := Lib.hid (HW.out.trans (hb7.mono HW.out.size)); clear hv7 hb7) | (go_at_call 16; refine (byAddr_any _ _ (HT.out.below HW.out) (Nat.le_trans (HbyA.out _) (by decide))).mono ?_; rintro e w7 ⟨v7, rfl, hv7, hb7⟩; have HL2 := Lib.hid (own_below HL2.out hb7); have HL1 := Lib.hid hv7; have HW := Lib.hid (HW.out.trans (hb7.mono HW.out.size)); clear hv7 hb7) | (go_at_call 17; refine (rbyAddr_any _ _ (HV.out.below HW.out) hRl6).mono ?_; rintro e w7 ⟨v7, rfl, hv7, hw⟩; obtain rfl := hw; have HL2 := Lib.hid hv7; clear hv7) | (go_at_call 13; refine (eqtexts_any _ _ _ _ _ _ HL1.out HL2.out).mono ?_; rintro e w7 ⟨rfl, q, rfl⟩; have HL1 := Lib.hid (own_drewN HL1.out q); have HL2 := Lib.hid (own_drewN HL2.out q); have HW := Lib.hid (bdN HW.out q)))
      all_goals
        go_wp2
        go_roundw
        case rel => exact ⟨k + 1, hl1, hl2, by go_num, HBr.out.trans (HW.out.mono HBr.out.size)⟩
        case measure => simp [intOf]; omega
    · have HBr := Lib.hid hbr
      clear hbr
      by_cases h1 : k < R.length
      · have h2 : ¬ (k : Int) < 20 := by omega
        have h1i : (k : Int) < (R.length : Int) := by omega
        go_wp2
        go_ret
        exact ⟨rfl, HWh.out.trans (HBr.out.mono HWh.out.size)⟩
      · have h1i : ¬ (k : Int) < (R.length : Int) := by omega
        go_wp2
        go_ret
        exact ⟨rfl, HWh.out.trans (HBr.out.mono HWh.out.size)⟩
end Go.Proofs.YtdfapebggghfdaaGreatDoor

