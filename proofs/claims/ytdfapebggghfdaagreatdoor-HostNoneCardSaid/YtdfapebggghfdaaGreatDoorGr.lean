/- Contract of the document's reading of groups. -/
import Derived.Test.YtdfapebggghfdaaGreatDoorGm
import Derived.Test.YtdfapebggghfdaaGreatDoorRb
import Derived.Test.YtdfapebggghfdaaGreatDoorDe
namespace Go.Rb
open Go.Ev
theorem RB.mono {B B' : Nat} {w : World} {v : Value} {l : List UInt8} (h : RB B w v l) (hB : B' ≤ B) : RB B' w v l := by
  rcases h with h | ⟨b, cap, h1, h2, h3, h4⟩
  · exact .inl h
  · exact .inr ⟨b, cap, h1, Nat.le_trans hB h2, h3, h4⟩
theorem lit2 {P : Program} {x y : Int} {c d : UInt8} (w : World) (ty : Unit) (hx : (c.toNat : Int) = x) (hy : (d.toNat : Int) = y) :
    Src P (w.alloc (.cells #[.int .u8 x, .int .u8 y] 5)) (.slice (some ⟨w.heap.size, 0, none⟩) 2 2) [c, d] := by
  subst hx hy
  exact Src.lit P w [c, d]
theorem src_text (P : Program) (w : World) (l : List UInt8) : Src P w (.string ⟨l.toArray⟩) l := Src.str P w ⟨l.toArray⟩
end Go.Rb
namespace Go.Proofs.YtdfapebggghfdaaGreatDoor
open Go.RowKit Go.Lib Go.Tx Go.Rb Go.Ev
def GroupsR (w : World) (r : Option (List UInt8)) (e : Ending) (w' : World) : Prop :=
  Below w.heap.size w w' ∧ match r with
    | none => e = .returned (.tuple #[.slice none 0 0, .bool false])
    | some l => ∃ v, e = .returned (.tuple #[v, .bool true]) ∧ RB w.heap.size w' v l
theorem four_call (l : List UInt8) (w : World) (hn : l.length ≤ 1000000) : Calls Tryz.prog 36 #[.string ⟨l.toArray⟩] w (FourR w (fourP (splitL 46 l))) := by
  have := four_any ⟨l.toArray⟩ w (by show l.toArray.size ≤ _; simpa using hn)
  simpa using this
theorem groups_nil (last : Bool) (s : ByteArray) (w : World) (h : s.data.toList = []) :
    Calls Tryz.prog 37 #[.string s, .bool last] w (GroupsR w (groupsP last s.data.toList)) := by
  have HG : Hid (groupsP last s.data.toList = some []) := Lib.hid (by unfold groupsP; rw [if_pos h])
  have e1 : s = ⟨#[]⟩ := by apply ByteArray.ext; apply Array.ext'; exact h
  subst e1
  clear h
  go_enter Tryz.func37, Tryz.ntmps37
  go_wp2
  go_ret2
  unfold GroupsR
  rw [HG.out]
  exact ⟨Below.refl _ _, _, rfl, RB.nil _ _⟩
set_option maxHeartbeats 4000000 in
set_option maxRecDepth 100000 in
theorem groups_any (last : Bool) (s : ByteArray) (w : World) (hn : s.size ≤ 100000) :
    Calls Tryz.prog 37 #[.string s, .bool last] w (GroupsR w (groupsP last s.data.toList)) := by
  by_cases h0 : s.data.toList = []
  · exact groups_nil last s w h0
  obtain ⟨i5, hi, hz0, hz1, hz2⟩ := info_parts info5
  have hbnd := splitG_len 58 s.data.toList []
  have hlen : s.data.toList.length = s.size := rfl
  obtain ⟨P, hP⟩ : ∃ P, splitL 58 s.data.toList = P := ⟨_, rfl⟩
  have hP' : splitG 58 [] s.data.toList = P := hP
  rw [hP', hlen] at hbnd
  have HG : Hid (groupsP last s.data.toList = accG last P P.length) := Lib.hid (by unfold groupsP; rw [if_neg h0, hP])
  have hmem : ∀ l ∈ P, l.length ≤ s.size := fun l hl => by
    rw [← hP'] at hl
    have := splitG_mem 58 s.data.toList [] l hl
    rw [hlen] at this
    simpa using this
  have hsplit : ∀ W, Calls Tryz.prog 38 #[.string s, .int .u8 58] W (SplitR W P) := fun W => by
    have := split_any s 58 W (by omega)
    rw [hP] at this
    exact this
  have HS := Lib.hid hsplit
  have HM := Lib.hid hmem
  have e1 : ¬ s.toList = [] := by rw [toList_data]; exact h0
  have e2 : s.toList.isEmpty = false := by cases hh : s.toList with | nil => exact absurd hh e1 | cons x y => rfl
  have H0 := Lib.hid h0
  clear hsplit hmem hP hP' hlen h0
  generalize hN : P.length = N at hbnd
  have HN := Lib.hid hN
  rw [hN] at HG
  clear hN
  go_enter Tryz.func37, Tryz.ntmps37
  go_wp2_with (go_at_call 38; refine (HS.out _).mono ?_; rintro e w2 ⟨v, rfl, hs, hb⟩; obtain ⟨p, c, rfl, hc, hm, hr⟩ := hs.read; rw [HN.out] at hc ⊢; have HR := Lib.hid hr; clear hr hs)
  have HBW := Lib.hid hb
  clear hb
  go_loopw [7, 8] (fun bv i wr => ∃ (k : Nat) (a : List UInt8), k ≤ N ∧ i = .int .i64 k ∧ RB w2.heap.size wr bv a ∧ Hid (accG last P k = some a) ∧ Below w2.heap.size w2 wr) (fun _ i _ => N - (intOf i).toNat)
  case atStart => exact ⟨0, [], Nat.zero_le _, rfl, RB.nil _ _, Lib.hid rfl, Below.refl _ _⟩
  case round =>
    obtain ⟨k, a, hk, rfl, hO, hacc, hbw⟩ := hrel
    have hws := hbw.size
    have HO := Lib.hid hO
    clear hO
    have hal := accG_len hacc.out
    by_cases hlt : k < N
    · obtain ⟨l, hl⟩ : ∃ l, P[k]? = some l := ⟨_, List.getElem?_eq_getElem (by rw [HN.out]; exact hlt)⟩
      obtain ⟨g, rfl, hg, hcell0⟩ := HR.out k l hl
      have hcell : wr.cell? ⟨g, k, none⟩ = some (.string ⟨l.toArray⟩) := (hbw.cell (p := ⟨g, k, none⟩) hg).trans hcell0
      have hll : l.length ≤ 100000 := Nat.le_trans (HM.out l (List.mem_of_getElem? hl)) hn
      have HL := Lib.hid hl
      clear hcell0 hl
      obtain ⟨T, hT⟩ : ∃ T, (last && decide (k + 1 = P.length)) = T := ⟨_, rfl⟩
      rw [HN.out] at hT
      by_cases hfour : T = true ∧ ∃ f, fourP (splitL 46 l) = some f
      · obtain ⟨rfl, f, hf⟩ := hfour
        obtain ⟨rfl, hk1⟩ : last = true ∧ k + 1 = N := by simpa using hT
        have hbq : ((k : Int) == (N : Int) - 1) = true := by simp; omega
        have HF := Lib.hid hf
        have hfl := partG_len (partG_four hf)
        have HA : Hid (accG true P (k + 1) = some (a ++ f)) := Lib.hid (accG_step hacc.out HL.out (by rw [HN.out]; simpa using hk1) (partG_four hf))
        clear hf hT
        go_wp2_with (first | (go_at_call 36; refine (four_call l _ (by omega)).mono ?_; rw [HF.out]; rintro e w3 ⟨rfl, hb3⟩; simp only [Option.getD_some, Option.isSome_some]) | (at_builtin; refine wpList_append_rb rfl _ _ 22 9 rfl Tryz.underlying22 Tryz.underlying9 (by intro k h; cases h) hi hz0 hz1 hz2 (B := w2.heap.size) (l := a) (m := f) rfl rfl (HO.out.below hb3) (src_text _ _ f) (Nat.le_trans hws hb3.size) (by omega) ?_; intro s' w4 hO4 hb4))
        go_roundw
        case rel => exact ⟨k + 1, a ++ f, hlt, by go_num, hO4, HA, (hbw.trans (hb3.mono hws)).trans hb4⟩
        case measure => simp [intOf]; omega
      · have hpg : partG T l = hexG l := partG_hex (fun h => by
          cases e : fourP (splitL 46 l) with
          | none => rfl
          | some f => exact absurd ⟨h, f, e⟩ hfour)
        have HK : Hid (hexG l = none → accG last P N = none) := Lib.hid (fun h => by
          have := accG_stop (last := last) HL.out (by rw [HN.out]; exact hT) (hpg.trans h)
          rwa [HN.out] at this)
        have HY : Hid (∀ x, hexG l = some x → accG last P (k + 1) = some (a ++ x)) := Lib.hid (fun x h => accG_step hacc.out HL.out (by rw [HN.out]; exact hT) (hpg.trans h))
        have hf4 : T = true → fourP (splitL 46 l) = none := fun h => by
          cases e : fourP (splitL 46 l) with
          | none => rfl
          | some f => exact absurd ⟨h, f, e⟩ hfour
        clear hfour hpg
        obtain ⟨q, rfl⟩ : ∃ q : ByteArray, l = q.data.toList := ⟨⟨l.toArray⟩, by simp⟩
        have hqe : (⟨q.data.toList.toArray⟩ : ByteArray) = q := by simp
        rw [hqe] at hcell
        clear hqe
        have hql : q.size ≤ 100000 := hll
        clear hll
        cases last with
        | false =>
          clear hf4 hT
          by_cases hq1 : q.size < 1
          · have HX : Hid (hexG q.data.toList = none) := Lib.hid (hexG_len (.inl hq1))
            go_wp2
            go_ret2
            exact ⟨HBW.out.trans (hbw.mono HBW.out.size), by rw [HG.out, HK.out HX.out]; rfl⟩
          by_cases hq4 : 4 < q.size
          · have HX : Hid (hexG q.data.toList = none) := Lib.hid (hexG_len (.inr hq4))
            go_wp2
            go_ret2
            exact ⟨HBW.out.trans (hbw.mono HBW.out.size), by rw [HG.out, HK.out HX.out]; rfl⟩
          have hq1 : 1 ≤ q.size := by omega
          have hq4 : q.size ≤ 4 := by omega
          go_wp2
          go_loop [11, 12, 13] (fun n j _ => ∃ x : Nat, x ≤ q.size ∧ j = .int .i64 x ∧ n = .int .i64 (hexA (q.data.toList.take x)) ∧ Hid (hexOk (q.data.toList.take x) = true)) (fun _ j _ => q.size - (intOf j).toNat)
          case atStart => exact ⟨0, Nat.zero_le _, rfl, rfl, Lib.hid rfl⟩
          case round =>
            obtain ⟨x, hx, rfl, rfl, hok⟩ := hrel
            have hbd := hexA_bd4 (q.data.toList.take x) (by rw [List.length_take]; omega) hok.out
            by_cases hxl : x < q.size
            · have hc : q.data.toList[x]? = some q[x] := List.getElem?_eq_getElem hxl
              have HC := Lib.hid hc
              have hvb := hexV_bd q[x]
              clear hc
              by_cases hneg : hexV q[x] < 0
              · have HX : Hid (hexG q.data.toList = none) := Lib.hid (hexG_bad HC.out hneg)
                go_wp2_with (go_at_call 59; refine (hex_any _ _).mono ?_; rintro e w5 ⟨rfl, rfl⟩)
                go_ret2
                exact ⟨HBW.out.trans (hbw.mono HBW.out.size), by rw [HG.out, HK.out HX.out]; rfl⟩
              · have hpos : 0 ≤ hexV q[x] := by omega
                have HT : Hid (q.data.toList.take (x + 1) = q.data.toList.take x ++ [q[x]]) := Lib.hid (stake_succ _ _ _ HC.out)
                go_wp2_with (go_at_call 59; refine (hex_any _ _).mono ?_; rintro e w5 ⟨rfl, rfl⟩)
                go_round
                case rel => exact ⟨x + 1, hxl, by go_num, by rw [HT.out, hexA_snoc], Lib.hid (by rw [HT.out, hexOk_snoc, hok.out]; simpa using hpos)⟩
                case measure => simp [intOf]; omega
            · obtain rfl : x = q.size := by omega
              have htk : q.data.toList.take q.size = q.data.toList := List.take_of_length_le (Nat.le_refl q.data.toList.length)
              rw [htk] at hbd hok ⊢
              obtain ⟨m, hm⟩ : ∃ m : Nat, hexA q.data.toList = m := ⟨(hexA q.data.toList).toNat, by omega⟩
              have HX : Hid (hexG q.data.toList = some [UInt8.ofNat (m / 256), UInt8.ofNat (m % 256)]) := Lib.hid (by
                rw [hexG_ok (by show ¬ (q.size < 1 ∨ 4 < q.size); omega) hok.out, hm]; rfl)
              have HY2 := Lib.hid (HY.out _ HX.out)
              rw [hm] at hbd ⊢
              clear htk hm
              go_wp2_with (at_builtin; refine wpList_append_rb rfl _ _ 22 22 rfl Tryz.underlying22 Tryz.underlying22 (by intro k h; cases h) hi hz0 hz1 hz2 (B := w2.heap.size) (l := a) (m := [UInt8.ofNat (m / 256), UInt8.ofNat (m % 256)]) rfl rfl (HO.out.alloc _) (lit2 _ () (by simp; omega) (by simp)) (Nat.le_trans hws (Nat.le_of_lt (by simp))) (by simp; omega) ?_; intro s' w5 hO5 hb5)
              go_roundw
              case rel => exact ⟨k + 1, a ++ [UInt8.ofNat (m / 256), UInt8.ofNat (m % 256)], hlt, by go_num, hO5, HY2, (hbw.alloc hws _).trans hb5⟩
              case measure => simp [intOf]; omega
        | true =>
          by_cases hk1 : k + 1 = N
          · have hbq : ((k : Int) == (N : Int) - 1) = true := by simp; omega
            have HF : Hid (fourP (splitL 46 q.data.toList) = none) := Lib.hid (hf4 (by rw [← hT]; simpa using hk1))
            clear hf4 hT
            by_cases hq1 : q.size < 1
            · have HX : Hid (hexG q.data.toList = none) := Lib.hid (hexG_len (.inl hq1))
              go_wp2_with (go_at_call 36; refine (four_any q _ (by omega)).mono ?_; rw [HF.out]; rintro e w3 ⟨rfl, hb3⟩; simp only [Option.getD_none, Option.isSome_none]; have hc3 := (hb3.cell (p := ⟨g, k, none⟩) (Nat.lt_of_lt_of_le hg hws)).trans hcell)
              go_ret2
              exact ⟨HBW.out.trans ((hbw.trans (hb3.mono hws)).mono HBW.out.size), by rw [HG.out, HK.out HX.out]; rfl⟩
            by_cases hq4 : 4 < q.size
            · have HX : Hid (hexG q.data.toList = none) := Lib.hid (hexG_len (.inr hq4))
              go_wp2_with (go_at_call 36; refine (four_any q _ (by omega)).mono ?_; rw [HF.out]; rintro e w3 ⟨rfl, hb3⟩; simp only [Option.getD_none, Option.isSome_none]; have hc3 := (hb3.cell (p := ⟨g, k, none⟩) (Nat.lt_of_lt_of_le hg hws)).trans hcell)
              go_ret2
              exact ⟨HBW.out.trans ((hbw.trans (hb3.mono hws)).mono HBW.out.size), by rw [HG.out, HK.out HX.out]; rfl⟩
            have hq1 : 1 ≤ q.size := by omega
            have hq4 : q.size ≤ 4 := by omega
            go_wp2_with (go_at_call 36; refine (four_any q _ (by omega)).mono ?_; rw [HF.out]; rintro e w3 ⟨rfl, hb3⟩; simp only [Option.getD_none, Option.isSome_none]; have hc3 := (hb3.cell (p := ⟨g, k, none⟩) (Nat.lt_of_lt_of_le hg hws)).trans hcell)
            go_loop [11, 12, 13] (fun n j _ => ∃ x : Nat, x ≤ q.size ∧ j = .int .i64 x ∧ n = .int .i64 (hexA (q.data.toList.take x)) ∧ Hid (hexOk (q.data.toList.take x) = true)) (fun _ j _ => q.size - (intOf j).toNat)
            case atStart => exact ⟨0, Nat.zero_le _, rfl, rfl, Lib.hid rfl⟩
            case round =>
              obtain ⟨x, hx, rfl, rfl, hok⟩ := hrel
              have hbd := hexA_bd4 (q.data.toList.take x) (by rw [List.length_take]; omega) hok.out
              by_cases hxl : x < q.size
              · have hc : q.data.toList[x]? = some q[x] := List.getElem?_eq_getElem hxl
                have HC := Lib.hid hc
                have hvb := hexV_bd q[x]
                clear hc
                by_cases hneg : hexV q[x] < 0
                · have HX : Hid (hexG q.data.toList = none) := Lib.hid (hexG_bad HC.out hneg)
                  go_wp2_with (go_at_call 59; refine (hex_any _ _).mono ?_; rintro e w5 ⟨rfl, rfl⟩)
                  go_ret2
                  exact ⟨HBW.out.trans ((hbw.trans (hb3.mono hws)).mono HBW.out.size), by rw [HG.out, HK.out HX.out]; rfl⟩
                · have hpos : 0 ≤ hexV q[x] := by omega
                  have HT : Hid (q.data.toList.take (x + 1) = q.data.toList.take x ++ [q[x]]) := Lib.hid (stake_succ _ _ _ HC.out)
                  go_wp2_with (go_at_call 59; refine (hex_any _ _).mono ?_; rintro e w5 ⟨rfl, rfl⟩)
                  go_round
                  case rel => exact ⟨x + 1, hxl, by go_num, by rw [HT.out, hexA_snoc], Lib.hid (by rw [HT.out, hexOk_snoc, hok.out]; simpa using hpos)⟩
                  case measure => simp [intOf]; omega
              · obtain rfl : x = q.size := by omega
                have htk : q.data.toList.take q.size = q.data.toList := List.take_of_length_le (Nat.le_refl q.data.toList.length)
                rw [htk] at hbd hok ⊢
                obtain ⟨m, hm⟩ : ∃ m : Nat, hexA q.data.toList = m := ⟨(hexA q.data.toList).toNat, by omega⟩
                have HX : Hid (hexG q.data.toList = some [UInt8.ofNat (m / 256), UInt8.ofNat (m % 256)]) := Lib.hid (by
                  rw [hexG_ok (by show ¬ (q.size < 1 ∨ 4 < q.size); omega) hok.out, hm]; rfl)
                have HY2 := Lib.hid (HY.out _ HX.out)
                rw [hm] at hbd ⊢
                clear htk hm
                go_wp2_with (at_builtin; refine wpList_append_rb rfl _ _ 22 22 rfl Tryz.underlying22 Tryz.underlying22 (by intro k h; cases h) hi hz0 hz1 hz2 (B := w2.heap.size) (l := a) (m := [UInt8.ofNat (m / 256), UInt8.ofNat (m % 256)]) rfl rfl ((HO.out.below hb3).alloc _) (lit2 _ () (by simp; omega) (by simp)) (Nat.le_trans (Nat.le_trans hws hb3.size) (Nat.le_of_lt (by simp))) (by simp; omega) ?_; intro s' w5 hO5 hb5)
                go_roundw
                case rel => exact ⟨k + 1, a ++ [UInt8.ofNat (m / 256), UInt8.ofNat (m % 256)], hlt, by go_num, hO5, HY2, ((hbw.trans (hb3.mono hws)).alloc (Nat.le_trans hws hb3.size) _).trans hb5⟩
                case measure => simp [intOf]; omega
          · have hbq : ((k : Int) == (N : Int) - 1) = false := by rw [beq_eq_false_iff_ne]; omega
            clear hf4 hT
            by_cases hq1 : q.size < 1
            · have HX : Hid (hexG q.data.toList = none) := Lib.hid (hexG_len (.inl hq1))
              go_wp2
              go_ret2
              exact ⟨HBW.out.trans (hbw.mono HBW.out.size), by rw [HG.out, HK.out HX.out]; rfl⟩
            by_cases hq4 : 4 < q.size
            · have HX : Hid (hexG q.data.toList = none) := Lib.hid (hexG_len (.inr hq4))
              go_wp2
              go_ret2
              exact ⟨HBW.out.trans (hbw.mono HBW.out.size), by rw [HG.out, HK.out HX.out]; rfl⟩
            have hq1 : 1 ≤ q.size := by omega
            have hq4 : q.size ≤ 4 := by omega
            go_wp2
            go_loop [11, 12, 13] (fun n j _ => ∃ x : Nat, x ≤ q.size ∧ j = .int .i64 x ∧ n = .int .i64 (hexA (q.data.toList.take x)) ∧ Hid (hexOk (q.data.toList.take x) = true)) (fun _ j _ => q.size - (intOf j).toNat)
            case atStart => exact ⟨0, Nat.zero_le _, rfl, rfl, Lib.hid rfl⟩
            case round =>
              obtain ⟨x, hx, rfl, rfl, hok⟩ := hrel
              have hbd := hexA_bd4 (q.data.toList.take x) (by rw [List.length_take]; omega) hok.out
              by_cases hxl : x < q.size
              · have hc : q.data.toList[x]? = some q[x] := List.getElem?_eq_getElem hxl
                have HC := Lib.hid hc
                have hvb := hexV_bd q[x]
                clear hc
                by_cases hneg : hexV q[x] < 0
                · have HX : Hid (hexG q.data.toList = none) := Lib.hid (hexG_bad HC.out hneg)
                  go_wp2_with (go_at_call 59; refine (hex_any _ _).mono ?_; rintro e w5 ⟨rfl, rfl⟩)
                  go_ret2
                  exact ⟨HBW.out.trans (hbw.mono HBW.out.size), by rw [HG.out, HK.out HX.out]; rfl⟩
                · have hpos : 0 ≤ hexV q[x] := by omega
                  have HT : Hid (q.data.toList.take (x + 1) = q.data.toList.take x ++ [q[x]]) := Lib.hid (stake_succ _ _ _ HC.out)
                  go_wp2_with (go_at_call 59; refine (hex_any _ _).mono ?_; rintro e w5 ⟨rfl, rfl⟩)
                  go_round
                  case rel => exact ⟨x + 1, hxl, by go_num, by rw [HT.out, hexA_snoc], Lib.hid (by rw [HT.out, hexOk_snoc, hok.out]; simpa using hpos)⟩
                  case measure => simp [intOf]; omega
              · obtain rfl : x = q.size := by omega
                have htk : q.data.toList.take q.size = q.data.toList := List.take_of_length_le (Nat.le_refl q.data.toList.length)
                rw [htk] at hbd hok ⊢
                obtain ⟨m, hm⟩ : ∃ m : Nat, hexA q.data.toList = m := ⟨(hexA q.data.toList).toNat, by omega⟩
                have HX : Hid (hexG q.data.toList = some [UInt8.ofNat (m / 256), UInt8.ofNat (m % 256)]) := Lib.hid (by
                  rw [hexG_ok (by show ¬ (q.size < 1 ∨ 4 < q.size); omega) hok.out, hm]; rfl)
                have HY2 := Lib.hid (HY.out _ HX.out)
                rw [hm] at hbd ⊢
                clear htk hm
                go_wp2_with (at_builtin; refine wpList_append_rb rfl _ _ 22 22 rfl Tryz.underlying22 Tryz.underlying22 (by intro k h; cases h) hi hz0 hz1 hz2 (B := w2.heap.size) (l := a) (m := [UInt8.ofNat (m / 256), UInt8.ofNat (m % 256)]) rfl rfl (HO.out.alloc _) (lit2 _ () (by simp; omega) (by simp)) (Nat.le_trans hws (Nat.le_of_lt (by simp))) (by simp; omega) ?_; intro s' w5 hO5 hb5)
                go_roundw
                case rel => exact ⟨k + 1, a ++ [UInt8.ofNat (m / 256), UInt8.ofNat (m % 256)], hlt, by go_num, hO5, HY2, (hbw.alloc hws _).trans hb5⟩
                case measure => simp [intOf]; omega
    · obtain rfl : k = N := by omega
      go_wp2
      go_ret2
      unfold GroupsR
      rw [HG.out, hacc.out]
      exact ⟨HBW.out.trans (hbw.mono HBW.out.size), _, rfl, HO.out.mono HBW.out.size⟩
end Go.Proofs.YtdfapebggghfdaaGreatDoor
