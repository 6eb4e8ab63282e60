/- Contracts: sixteen bytes printed, Print. -/
import Derived.Test.YtbhmmdkipmddlaaDoorPy
import Derived.BigQuiet
import Derived.Deep.RegionHeld3
import Derived.Laws.BitsAllLaws
namespace Go.Proofs.YtbhmmdkipmddlaaDoor
open Go.RowKit Go.Lib Go.Tx Go.Rb
def hexVl (l : List UInt8) (j : Nat) : Value := .string ⟨(hexT (grp l j)).toArray⟩
theorem or16 (a b : UInt8) : bits .or .u64 (IntKind.u64.wrap (IntKind.u64.wrap (a.toNat : Int) * 256)) (IntKind.u64.wrap (b.toNat : Int)) = ((a.toNat * 256 + b.toNat : Nat) : Int) := by
  have ha := a.toNat_lt
  have hb := b.toNat_lt
  have h1 : IntKind.u64.wrap (IntKind.u64.wrap (a.toNat : Int) * 256) = ((a.toNat * 256 : Nat) : Int) := by
    rw [IntKind.wrap_u64, IntKind.wrap_u64]; omega
  have h2 : IntKind.u64.wrap (b.toNat : Int) = ((b.toNat : Nat) : Int) := by rw [IntKind.wrap_u64]; omega
  rw [h1, h2, u64_or_nat _ _ (by omega) (by omega)]
  have h3 := Nat.two_pow_add_eq_or_of_lt (i := 8) hb a.toNat
  rw [show a.toNat * 256 = 2 ^ 8 * a.toNat by omega, h3]
theorem fuint_grp (s : ByteArray) (k : Nat) (h1 : 2 * k < s.size) (h2 : 2 * k + 1 < s.size) (w : World) (hT : Tz w) :
    Calls Tryd.prog 34 #[.int .u64 (bits .or .u64 (IntKind.u64.wrap (IntKind.u64.wrap (s[2 * k].toNat : Int) * 256)) (IntKind.u64.wrap (s[2 * k + 1].toNat : Int))), .int .i64 16] w fun e w' => e = .returned (.string ⟨(hexT (grp s.data.toList k)).toArray⟩) ∧ Below w.heap.size w w' := by
  have hg : grp s.data.toList k = s[2 * k].toNat * 256 + s[2 * k + 1].toNat := by
    unfold grp
    rw [List.getD_eq_getElem?_getD, List.getD_eq_getElem?_getD, List.getElem?_eq_getElem (show 2 * k < s.data.toList.length from h1), List.getElem?_eq_getElem (show 2 * k + 1 < s.data.toList.length from h2)]
    rfl
  rw [or16, hg]
  exact fuint_any _ w (by have := s[2 * k].toNat_lt; have := s[2 * k + 1].toNat_lt; omega) hT
theorem zeros_grp (l : List UInt8) : zerosOf ((List.range 8).map fun j => (⟨(hexT (grp l j)).toArray⟩ : ByteArray)) = grpZ l := by
  unfold zerosOf grpZ
  rw [List.map_map]
  apply List.map_congr_left
  intro j _
  simp only [Function.comp]
  have := hexT_zero (grp l j)
  by_cases h : grp l j = 0
  · rw [decide_eq_true h, decide_eq_true (by rw [this]; exact h)]
  · rw [decide_eq_false h, decide_eq_false (fun e => h (this.1 e))]
theorem keepB {W w1 w2 : World} (h : Below W.heap.size W w1) (h2 : Below w1.heap.size w1 w2) : Below W.heap.size W w2 := h.trans (h2.mono h.size)
theorem slice_to (b f : Nat) (hf : f ≤ 8) (W : World) : (Instr.sliceAt 52 (.pointer (some ⟨b, 0, none⟩)) none (some (.int .i64 (f : Int))) none).run Tryd.prog W = .ok (.slice (some ⟨b, 0, none⟩) f 8) W := by
  have h8 : Tryd.prog.arrayLen 52 = 8 := by kernel_rfl
  have hel : Tryd.prog.elem 52 = 9 := by kernel_rfl
  have := run_sliceAt_array_h (P := Tryd.prog) W 52 ⟨b, 0, none⟩ (by rw [h8, hel]; exact Tryd.underlying52) .i64 (f : Int) (by omega) (by rw [h8]; omega)
  rw [this, h8, hel, Tryd.sizeOf9]
  simp only [Result.andThen_ok, slicedAt, Int.toNat_natCast]
  rw [if_neg (by omega)]
  congr 3
theorem slice_from (b g : Nat) (hg : g ≤ 8) (W : World) : (Instr.sliceAt 52 (.pointer (some ⟨b, 0, none⟩)) (some (.int .i64 (g : Int))) none none).run Tryd.prog W = .ok (.slice (some ⟨b, if 8 = g then 0 else g, none⟩) (8 - g) (8 - g)) W := by
  have h8 : Tryd.prog.arrayLen 52 = 8 := by kernel_rfl
  have hel : Tryd.prog.elem 52 = 9 := by kernel_rfl
  have := run_sliceAt_array_l (P := Tryd.prog) W 52 ⟨b, 0, none⟩ (by rw [h8, hel]; exact Tryd.underlying52) .i64 (g : Int) (by omega) (by rw [h8]; omega)
  rw [this, h8, hel, Tryd.sizeOf9]
  simp only [Result.andThen_ok, slicedAt, Int.toNat_natCast]
  by_cases h : 8 = g
  · rw [if_pos h, if_pos h]
  · rw [if_neg h, if_neg h]
    have ha : (⟨b, 0, none⟩ : Addr).add (g * 1) = ⟨b, g, none⟩ := by
      rw [Nat.mul_one]
      unfold Addr.add
      simp
      omega
    rw [ha]
set_option maxHeartbeats 4000000 in
set_option maxRecDepth 100000 in
theorem plprint_any (s : ByteArray) (w : World) (hs : s.size = 16) (h : PrAt w) :
    Calls Tryd.prog 19 #[.string s] w (TextR w (print16 s.data.toList)) := by
  have hlen : s.data.toList.length = 16 := hs
  have HP := Lib.hid h
  clear h
  obtain ⟨l, hl⟩ : ∃ l, s.data.toList = l := ⟨_, rfl⟩
  have HJ : Hid (∀ (W : World) (b o c m : Nat), Arr W b 8 8 (hexVl l) → o + m ≤ 8 → m ≤ c → ∀ o', (o' = o ∨ m = 0) → Calls Tryd.prog 33 #[.slice (some ⟨b, o', none⟩) m c, .string ⟨#[58]⟩] W fun e w' => e = .returned (.string ⟨(Lib.join (((grpT l).drop o).take m) [58]).toArray⟩) ∧ Below W.heap.size W w') := Lib.hid (fun W b o c m hA hom hc o' ho => by
    have hlm : (((grpT l).drop o).take m).length = m := by rw [List.length_take, List.length_drop, grpT_len]; omega
    have := join_arr W b o' c (((grpT l).drop o).take m) 58 4 (fun x hx => grpT_few l x (List.mem_of_mem_drop (List.mem_of_mem_take hx))) (by omega) (by omega) (by omega) hA.lt (fun j x hx => by
      have hj := (List.getElem?_eq_some_iff.1 hx).1
      rw [hlm] at hj
      obtain rfl : o' = o := by omega
      rw [List.getElem?_take_of_lt hj, List.getElem?_drop, grpT_at l _ (by omega)] at hx
      cases hx
      exact hA.told _ (by omega))
    rw [hlm] at this
    exact this)
  have hgl : ∀ j, grp l j = grp s.data.toList j := fun j => by rw [hl]
  have HV : Hid (∀ j, hexVl l j = .string ⟨(hexT (grp s.data.toList j)).toArray⟩) := Lib.hid (fun j => by unfold hexVl; rw [hgl])
  rw [hl]
  clear hgl hlen
  go_enter Tryd.func19, Tryd.ntmps19
  go_wp2
  go_loopw [8] (fun i wr => ∃ k : Nat, k ≤ 8 ∧ i = .int .i64 k ∧ Hid (Arr wr w.heap.size 8 k (hexVl l)) ∧ Below w.heap.size w wr) (fun i _ => 8 - (RowKit.intOf i).toNat)
  case atStart => exact ⟨0, by omega, rfl, Lib.hid (Arr.new _ _ _ _ rfl _), (Below.refl _ _).alloc (Nat.le_refl _) _⟩
  case round =>
    obtain ⟨k, hk, rfl, hf, hbel⟩ := hrel
    by_cases hlt : k < 8
    · have h1 : 2 * k < s.size := by omega
      have h2 : 2 * k + 1 < s.size := by omega
      have h1' : 2 * (k : Int) < 16 := by omega
      have h2' : 2 * (k : Int) + 1 < 16 := by omega
      have h3' : 0 ≤ 2 * (k : Int) := by omega
      have h4' : 0 ≤ 2 * (k : Int) + 1 := by omega
      have HF : Hid (∀ W, Tz W → Calls Tryd.prog 34 #[.int .u64 (bits .or .u64 (IntKind.u64.wrap (IntKind.u64.wrap (s[2 * k].toNat : Int) * 256)) (IntKind.u64.wrap (s[2 * k + 1].toNat : Int))), .int .i64 16] W fun e w' => e = .returned (hexVl l k) ∧ Below W.heap.size W w') := Lib.hid (fun W hW => by rw [HV.out]; exact fuint_grp s k h1 h2 W hW)
      have HA := Lib.hid (fun n => hf.out.below (below_drewN wr n))
      have HB := Lib.hid (fun n => hbel.trans ((below_drewN wr n).mono hbel.size))
      obtain ⟨X, hX⟩ : ∃ X, hexVl l k = .string X := ⟨_, rfl⟩
      rw [hX] at HF
      have HX := Lib.hid hX
      clear hX hbel hf
      go_wp2
      go_quiet (fail)
      go_wp2_with (go_at_call 34; refine (HF.out _ (HP.out.below (HB.out _)).tz).mono ?_; rintro e w2 ⟨rfl, hb2⟩; have hA2 := (HA.out _).below hb2; obtain ⟨u, hcell⟩ := hA2.held k hlt; have hfree := hA2.free k hlt; have HA2 := Lib.hid hA2; have HB2 := Lib.hid (keepB (HB.out _) hb2); clear hA2)
      go_roundw
      case rel => exact ⟨k + 1, hlt, by go_num, Lib.hid (HA2.out.step hlt HX.out), HB2.out.setCell (Nat.le_refl _) _⟩
      case measure => simp [RowKit.intOf]; omega
    · obtain rfl : k = 8 := by omega
      have hc0 := hf.out.told 0 (by omega)
      have hc1 := hf.out.told 1 (by omega)
      have hc2 := hf.out.told 2 (by omega)
      have hc3 := hf.out.told 3 (by omega)
      have hc4 := hf.out.told 4 (by omega)
      have hc5 := hf.out.told 5 (by omega)
      have hc6 := hf.out.told 6 (by omega)
      have hc7 := hf.out.told 7 (by omega)
      have hz := zeros_grp l
      unfold hexVl at hc0 hc1 hc2 hc3 hc4 hc5 hc6 hc7
      have hr : (List.range 8).map (fun j => (⟨(hexT (grp l j)).toArray⟩ : ByteArray)) = [⟨(hexT (grp l 0)).toArray⟩, ⟨(hexT (grp l 1)).toArray⟩, ⟨(hexT (grp l 2)).toArray⟩, ⟨(hexT (grp l 3)).toArray⟩, ⟨(hexT (grp l 4)).toArray⟩, ⟨(hexT (grp l 5)).toArray⟩, ⟨(hexT (grp l 6)).toArray⟩, ⟨(hexT (grp l 7)).toArray⟩] := rfl
      rw [hr] at hz
      clear hr
      generalize (⟨(hexT (grp l 0)).toArray⟩ : ByteArray) = x0 at hc0 hz
      generalize (⟨(hexT (grp l 1)).toArray⟩ : ByteArray) = x1 at hc1 hz
      generalize (⟨(hexT (grp l 2)).toArray⟩ : ByteArray) = x2 at hc2 hz
      generalize (⟨(hexT (grp l 3)).toArray⟩ : ByteArray) = x3 at hc3 hz
      generalize (⟨(hexT (grp l 4)).toArray⟩ : ByteArray) = x4 at hc4 hz
      generalize (⟨(hexT (grp l 5)).toArray⟩ : ByteArray) = x5 at hc5 hz
      generalize (⟨(hexT (grp l 6)).toArray⟩ : ByteArray) = x6 at hc6 hz
      generalize (⟨(hexT (grp l 7)).toArray⟩ : ByteArray) = x7 at hc7 hz
      cases hb : best (grpZ l) 8 with
      | none =>
        have HR := Lib.hid (fun W => plrun_any x0 x1 x2 x3 x4 x5 x6 x7 W 0 0 (by rw [hz, hb]; rfl))
        have HE : Hid (print16 l = Lib.join (((grpT l).drop 0).take 8) [58]) := Lib.hid (by
          unfold print16
          rw [hb]
          simp only [List.drop_zero]
          rw [List.take_of_length_le (by rw [grpT_len]; omega)])
        clear hz hb
        go_wp2_with (first | (go_at_call 35; refine (HR.out _).mono ?_; rintro e w2 ⟨rfl, hb2⟩; have HB2 := Lib.hid hb2; clear hb2) | (go_at_call 33; refine (HJ.out _ _ 0 8 8 (hf.out.below HB2.out) (by omega) (by omega) _ (.inl rfl)).mono ?_; rintro e w3 ⟨rfl, hb3⟩))
        go_ret
        exact ⟨by rw [HE.out]; rfl, keepB (keepB hbel HB2.out) hb3⟩
      | some p =>
        obtain ⟨i, m⟩ := p
        have hbo := best_ok _ 8 i m hb
        rw [grpZ_len] at hbo
        obtain ⟨hm2, hi8, him⟩ := hbo
        have HR := Lib.hid (fun W => plrun_any x0 x1 x2 x3 x4 x5 x6 x7 W i (i + m) (by rw [hz, hb]; rfl))
        have HE : Hid (print16 l = Lib.join (((grpT l).drop 0).take i) [58] ++ [58, 58] ++ Lib.join (((grpT l).drop (i + m)).take (8 - (i + m))) [58]) := Lib.hid (by
          unfold print16
          rw [hb]
          simp only [List.drop_zero]
          rw [List.take_of_length_le (l := (grpT l).drop (i + m)) (by rw [List.length_drop, grpT_len]; omega)])
        clear hz hb
        obtain ⟨g, hg⟩ : ∃ g, i + m = g := ⟨_, rfl⟩
        rw [hg] at HR HE him
        have hig : ¬ (i : Int) = (g : Int) := by omega
        have hig2 : ((i : Int) == (g : Int)) = false := by rw [beq_eq_false_iff_ne]; exact hig
        have hs1 := fun W => slice_to w.heap.size i (by omega) W
        have hs2 := fun W => slice_from w.heap.size g (by omega) W
        go_wp2_with (first | (go_at_call 35; refine (HR.out _).mono ?_; rintro e w2 ⟨rfl, hb2⟩; have HB2 := Lib.hid hb2; clear hb2))
        have hwB := HB2.out
        have HJ1 : Hid (∀ W, Below w2.heap.size w2 W → Calls Tryd.prog 33 #[.slice (some ⟨w.heap.size, 0, none⟩) i 8, .string ⟨#[58]⟩] W fun e w' => e = .returned (.string ⟨(Lib.join (((grpT l).drop 0).take i) [58]).toArray⟩) ∧ Below W.heap.size W w') := Lib.hid (fun W hW => HJ.out W _ 0 8 i ((hf.out.below HB2.out).below hW) (by omega) (by omega) 0 (.inl rfl))
        have HJ2 : Hid (∀ W, Below w2.heap.size w2 W → Calls Tryd.prog 33 #[.slice (some ⟨w.heap.size, if 8 = g then 0 else g, none⟩) (8 - g) (8 - g), .string ⟨#[58]⟩] W fun e w' => e = .returned (.string ⟨(Lib.join (((grpT l).drop g).take (8 - g)) [58]).toArray⟩) ∧ Below W.heap.size W w') := Lib.hid (fun W hW => HJ.out W _ g (8 - g) (8 - g) ((hf.out.below HB2.out).below hW) (by omega) (by omega) _ (by by_cases h : 8 = g; exact .inr (by omega); rw [if_neg h]; exact .inl rfl))
        obtain ⟨y1, hy1⟩ : ∃ y : ByteArray, (⟨(Lib.join (((grpT l).drop 0).take i) [58]).toArray⟩ : ByteArray) = y := ⟨_, rfl⟩
        obtain ⟨y2, hy2⟩ : ∃ y : ByteArray, (⟨(Lib.join (((grpT l).drop g).take (8 - g)) [58]).toArray⟩ : ByteArray) = y := ⟨_, rfl⟩
        obtain ⟨v2, hv2⟩ : ∃ v : Value, (Value.slice (some ⟨w.heap.size, if 8 = g then 0 else g, none⟩) (8 - g) (8 - g)) = v := ⟨_, rfl⟩
        rw [hy1] at HJ1
        rw [hy2, hv2] at HJ2
        rw [hv2] at hs2
        have hz1 : y1.size ≤ 40 := by
          rw [← hy1]
          have := join_len [58] (by simp) 4 (((grpT l).drop 0).take i) (fun x hx => grpT_few l x (List.mem_of_mem_drop (List.mem_of_mem_take hx)))
          have h2 : (((grpT l).drop 0).take i).length ≤ 8 := by rw [List.length_take]; omega
          show (Lib.join (((grpT l).drop 0).take i) [58]).toArray.size ≤ 40
          simp only [List.size_toArray]
          omega
        have hz2 : y2.size ≤ 40 := by
          rw [← hy2]
          have := join_len [58] (by simp) 4 (((grpT l).drop g).take (8 - g)) (fun x hx => grpT_few l x (List.mem_of_mem_drop (List.mem_of_mem_take hx)))
          have h2 : (((grpT l).drop g).take (8 - g)).length ≤ 8 := by rw [List.length_take]; omega
          show (Lib.join (((grpT l).drop g).take (8 - g)) [58]).toArray.size ≤ 40
          simp only [List.size_toArray]
          omega
        have HJB : Hid (∀ W v, Below w2.heap.size w2 W → ∀ y, ((v = .slice (some ⟨w.heap.size, 0, none⟩) i 8 ∧ y = y1) ∨ (v = v2 ∧ y = y2)) → Calls Tryd.prog 33 #[v, .string ⟨#[58]⟩] W fun e w' => e = .returned (.string y) ∧ Below W.heap.size W w') := Lib.hid (fun W v hW y h => by
          rcases h with ⟨rfl, rfl⟩ | ⟨rfl, rfl⟩
          · exact HJ1.out W hW
          · exact HJ2.out W hW)
        have HE2 : Hid ((⟨(print16 l).toArray⟩ : ByteArray) = y1 ++ ⟨#[58, 58]⟩ ++ y2) := Lib.hid (by
          rw [HE.out, ← hy1, ← hy2, show (⟨#[58, 58]⟩ : ByteArray) = ⟨([58, 58] : List UInt8).toArray⟩ from rfl, join_str, join_str])
        have HBB := Lib.hid (keepB hbel HB2.out)
        have hS := Below.refl w2.heap.size w2
        have hq1 : ¬ 9223372036854775807 < y1.size + 2 := by omega
        have hq2 : ¬ 9223372036854775807 < y1.size + 2 + y2.size := by omega
        clear hy1 hy2 hv2 HJ1 HJ2 HE hwB hbel hc0 hc1 hc2 hc3 hc4 hc5 hc6 hc7
        go_region_held3 (fun w' => Below w2.heap.size w2 w') (first | assumption | exact Below.drew (by assumption) | (refine keepB ?_ (by assumption); first | assumption | exact Below.drew (by assumption))) (first | (go_at_call 33; refine (HJB.out _ _ (by assumption) _ (by first | exact .inl ⟨rfl, rfl⟩ | exact .inr ⟨rfl, rfl⟩)).mono ?_; rintro e w' ⟨rfl, hbn⟩))
        all_goals
          go_wp2
          go_ret
          exact ⟨by rw [HE2.out]; rfl, keepB HBB.out (by assumption)⟩
theorem pprint_any (s : ByteArray) (w : World) (hs : s.size ≤ 1000000) (h : PrAt w) :
    Calls Tryd.prog 9 #[.string s] w (TextR w (printP s.data.toList)) := by
  have hl : s.data.toList.length = s.size := rfl
  by_cases h4 : s.size = 4
  · have HX : Hid (printP s.data.toList = Lib.join (s.data.toList.map fun c => Lib.decDigits c.toNat) [46]) := Lib.hid (by unfold printP; rw [if_pos (by omega)])
    have HC := Lib.hid (pshow_any s w h4 h)
    have h1 : (s.size : Int) = 4 := by omega
    rw [← HX.out] at HC
    generalize printP s.data.toList = R at *
    clear h hl
    go_enter Tryd.func9, Tryd.ntmps9
    go_wp2_with (go_at_call 18; refine HC.out.mono ?_; rintro e w2 ⟨rfl, hb2⟩)
    go_ret
    exact ⟨rfl, hb2⟩
  by_cases h16 : s.size = 16
  · have HX : Hid (printP s.data.toList = print16 s.data.toList) := Lib.hid (by unfold printP; rw [if_neg (by omega), if_pos (by omega)])
    have HC := Lib.hid (plprint_any s w h16 h)
    have h1 : (s.size : Int) = 16 := by omega
    rw [← HX.out] at HC
    generalize printP s.data.toList = R at *
    clear h hl
    go_enter Tryd.func9, Tryd.ntmps9
    go_wp2_with (go_at_call 19; refine HC.out.mono ?_; rintro e w2 ⟨rfl, hb2⟩)
    go_ret
    exact ⟨rfl, hb2⟩
  · have HX : Hid (printP s.data.toList = []) := Lib.hid (by unfold printP; rw [if_neg (by omega), if_neg (by omega)])
    have e4 : ((s.size : Int) == 4) = false := by rw [beq_eq_false_iff_ne]; omega
    have e16 : ((s.size : Int) == 16) = false := by rw [beq_eq_false_iff_ne]; omega
    clear h hl
    go_enter Tryd.func9, Tryd.ntmps9
    go_wp2
    go_ret
    exact ⟨by rw [HX.out]; rfl, Below.refl _ _⟩
end Go.Proofs.YtbhmmdkipmddlaaDoor
