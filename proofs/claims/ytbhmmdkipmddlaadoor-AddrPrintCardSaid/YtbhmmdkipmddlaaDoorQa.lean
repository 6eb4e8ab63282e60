/- Contract of the document's printing of sixteen bytes. -/
import Derived.Test.YtbhmmdkipmddlaaDoorPz
import Derived.Test.YtbhmmdkipmddlaaDoorPr
import Derived.BigQuiet
namespace Go.Tx
/-- Where the longest run begins, and how long it is, as the document keeps it. -/
def atMost : Option (Nat × Nat) → Int × Int
  | none => (-1, 1)
  | some (i, m) => (i, m)
theorem grp_zero {l : List UInt8} {j : Nat} (h : (l.getD (2 * j) 0).toNat = 0 ∧ (l.getD (2 * j + 1) 0).toNat = 0) : grp l j = 0 := by unfold grp; omega
theorem grp_pos {l : List UInt8} {j : Nat} (h : (l.getD (2 * j) 0).toNat ≠ 0 ∨ (l.getD (2 * j + 1) 0).toNat ≠ 0) : grp l j ≠ 0 := by unfold grp; omega
theorem atMost_up {Z : List Bool} {k n : Nat} {A M : Int} (h : atMost (best Z k) = (A, M)) (hr : runL Z k = n) (hn : M < n) : atMost (best Z (k + 1)) = ((k : Int), (n : Int)) := by
  cases hb : best Z k with
  | none =>
    rw [hb] at h
    cases h
    rw [best_none hb, hr, if_pos (by omega)]; rfl
  | some p =>
    obtain ⟨i, m⟩ := p
    rw [hb] at h
    cases h
    rw [best_some hb, hr, if_pos (by omega)]; rfl
theorem atMost_same {Z : List Bool} {k n : Nat} {A M : Int} (h : atMost (best Z k) = (A, M)) (hr : runL Z k = n) (hn : ¬ M < n) : atMost (best Z (k + 1)) = (A, M) := by
  cases hb : best Z k with
  | none =>
    rw [hb] at h
    cases h
    rw [best_none hb, hr, if_neg (by omega)]; rfl
  | some p =>
    obtain ⟨i, m⟩ := p
    rw [hb] at h
    cases h
    rw [best_some hb, hr, if_neg (by omega)]; rfl
theorem atMost_bd (Z : List Bool) (k : Nat) : -1 ≤ (atMost (best Z k)).1 ∧ (atMost (best Z k)).1 ≤ Z.length ∧ 1 ≤ (atMost (best Z k)).2 ∧ (atMost (best Z k)).2 ≤ Z.length + 1 := by
  cases hb : best Z k with
  | none => simp [atMost]; omega
  | some p =>
    obtain ⟨i, m⟩ := p
    have := best_ok Z k i m hb
    simp only [atMost]
    omega
def strLen : Value → Nat
  | .string s => s.size
  | _ => 0
end Go.Tx
namespace Go.Proofs.YtbhmmdkipmddlaaDoor
open Go.RowKit Go.Lib Go.Tx Go.Rb
theorem hd16_at (d : Nat) (h : d < 16) : (⟨#[48, 49, 50, 51, 52, 53, 54, 55, 56, 57, 97, 98, 99, 100, 101, 102]⟩ : ByteArray).extract d (d + 1) = ⟨#[hd d]⟩ := by
  have : ∀ i : Fin 16, (⟨#[48, 49, 50, 51, 52, 53, 54, 55, 56, 57, 97, 98, 99, 100, 101, 102]⟩ : ByteArray).extract i.1 (i.1 + 1) = ⟨#[hd i.1]⟩ := by decide +kernel
  exact this ⟨d, h⟩
theorem slice_digit (d : Nat) (h : d < 16) (W : World) : (Instr.slice 9 (.string ⟨#[48, 49, 50, 51, 52, 53, 54, 55, 56, 57, 97, 98, 99, 100, 101, 102]⟩) (some (.int .i64 (d : Int))) (some (.int .i64 ((d : Int) + 1))) none).run Tryd.prog W = .ok (.string ⟨#[hd d]⟩) W := by
  rw [run_slice_string W 9 _ .i64 .i64 (d : Int) ((d : Int) + 1) Tryd.underlying9 (by omega) (by omega) (by show (d : Int) + 1 ≤ 16; omega)]
  rw [Int.toNat_natCast, show ((d : Int) + 1).toNat = d + 1 by omega, hd16_at d h]
theorem slice_digit0 (W : World) : (Instr.slice 9 (.string ⟨#[48, 49, 50, 51, 52, 53, 54, 55, 56, 57, 97, 98, 99, 100, 101, 102]⟩) (some (.int .i64 0)) (some (.int .i64 1)) none).run Tryd.prog W = .ok (.string ⟨#[48]⟩) W := slice_digit 0 (by omega) W
theorem byte_getD (s : ByteArray) (j : Nat) (h : j < s.size) : s.data.toList.getD j 0 = s[j] := by
  rw [List.getD_eq_getElem?_getD, List.getElem?_eq_getElem (show j < s.data.toList.length from h), Option.getD_some]
  rfl
set_option maxHeartbeats 4000000 in
set_option maxRecDepth 100000 in
theorem rprint_16 (s : ByteArray) (w : World) (hs : s.size = 16) : Calls Tryd.prog 10 #[.string s] w (TextR w (print16 s.data.toList)) := by
  have e4 : ((s.size : Int) == 4) = false := by simp; omega
  have e16 : ((s.size : Int) != 16) = false := by simp; omega
  have HZA : Hid (∀ j, j < 8 → (grpZ s.data.toList)[j]? = some (decide (grp s.data.toList j = 0))) := Lib.hid (fun j hj => grpZ_at _ j hj)
  have HZL := Lib.hid (grpZ_len s.data.toList)
  obtain ⟨Z, hZ⟩ : ∃ Z, grpZ s.data.toList = Z := ⟨_, rfl⟩
  have HX : Hid (print16 s.data.toList = match best Z 8 with
    | none => Lib.join (grpT s.data.toList) [58]
    | some (i, m) => Lib.join ((grpT s.data.toList).take i) [58] ++ [58, 58] ++ Lib.join ((grpT s.data.toList).drop (i + m)) [58]) := Lib.hid (by rw [← hZ]; rfl)
  rw [hZ] at HZA HZL
  clear hZ
  have HS := Lib.hid hs
  go_enter Tryd.func10, Tryd.ntmps10
  go_wp2
  go_loop [5, 6, 7] (fun a b i => ∃ (k : Nat) (A M : Int), k ≤ 8 ∧ i = .int .i64 k ∧ a = .int .i64 A ∧ b = .int .i64 M ∧ -1 ≤ A ∧ A ≤ 8 ∧ 1 ≤ M ∧ M ≤ 9 ∧ Hid (atMost (best Z k) = (A, M))) (fun _ _ i => 8 - (RowKit.intOf i).toNat)
  case atStart => exact ⟨0, -1, 1, Nat.zero_le _, rfl, rfl, rfl, by omega, by omega, by omega, by omega, Lib.hid rfl⟩
  case round =>
    obtain ⟨k, A, M, hk, rfl, rfl, rfl, hA1, hA2, hM1, hM2, hI⟩ := hrel
    by_cases hlt : k < 8
    · go_wp2
      go_loop [8] (fun v => ∃ n : Nat, k + n ≤ 8 ∧ v = .int .i64 (n : Nat) ∧ Hid (∀ j, j < n → Z[k + j]? = some true)) (fun v => 8 - (RowKit.intOf v).toNat)
      case atStart => exact ⟨0, by omega, rfl, Lib.hid (fun j h => by omega)⟩
      case round =>
        obtain ⟨n, hn, rfl, hN⟩ := hrel
        have hstep : (runL Z k = n ∧ M < n → Hid (atMost (best Z (k + 1)) = ((k : Int), (n : Int)))) ∧ (runL Z k = n ∧ ¬ M < n → Hid (atMost (best Z (k + 1)) = (A, M))) := ⟨fun h => Lib.hid (atMost_up hI.out h.1 h.2), fun h => Lib.hid (atMost_same hI.out h.1 h.2)⟩
        have HSt := Lib.hid hstep
        clear hstep
        by_cases hlt2 : k + n < 8
        · have hz := HZA.out (k + n) hlt2
          have hb1 : 2 * (k + n) < s.size := by omega
          have hb2 : 2 * (k + n) + 1 < s.size := by omega
          have hb1' : 2 * ((k : Int) + n) < 16 := by omega
          have hb2' : 2 * ((k : Int) + n) + 1 < 16 := by omega
          have g0 := byte_getD s (2 * (k + n)) hb1
          have g1 := byte_getD s (2 * (k + n) + 1) hb2
          by_cases z0 : s[2 * (k + n)].toNat = 0
          · have e0 : ((s[2 * (k + n)].toNat : Int) == 0) = true := by rw [z0]; rfl
            by_cases z1 : s[2 * (k + n) + 1].toNat = 0
            · have e1 : ((s[2 * (k + n) + 1].toNat : Int) == 0) = true := by rw [z1]; rfl
              have HZ1 : Hid (Z[k + n]? = some true) := Lib.hid (by rw [hz, decide_eq_true (grp_zero ⟨by rw [g0]; exact z0, by rw [g1]; exact z1⟩)])
              clear z0 z1 g0 g1 hz
              go_wp2
              go_round
              case rel => exact ⟨n + 1, by omega, by go_num, Lib.hid (fun j hj => by
                by_cases hjn : j = n
                · rw [hjn]; exact HZ1.out
                · exact hN.out j (by omega))⟩
              case measure => simp [RowKit.intOf]; omega
            · have e1 : ((s[2 * (k + n) + 1].toNat : Int) == 0) = false := by rw [beq_eq_false_iff_ne]; omega
              have HR : Hid (runL Z k = n) := Lib.hid (runL_eq hN.out (by rw [hz, decide_eq_false (grp_pos (.inr (by rw [g1]; exact z1)))]; simp))
              clear z0 z1 g0 g1 hz
              by_cases hm : M < (n : Int)
              · have HS2 := HSt.out.1 ⟨HR.out, hm⟩
                go_wp2
                go_round
                case rel => exact ⟨k + 1, k, n, by omega, by go_num, rfl, rfl, by omega, by omega, by omega, by omega, HS2⟩
                case measure => simp [RowKit.intOf]; omega
              · have HS2 := HSt.out.2 ⟨HR.out, hm⟩
                go_wp2
                go_round
                case rel => exact ⟨k + 1, A, M, by omega, by go_num, rfl, rfl, hA1, hA2, hM1, hM2, HS2⟩
                case measure => simp [RowKit.intOf]; omega
          · have e0 : ((s[2 * (k + n)].toNat : Int) == 0) = false := by rw [beq_eq_false_iff_ne]; omega
            have HR : Hid (runL Z k = n) := Lib.hid (runL_eq hN.out (by rw [hz, decide_eq_false (grp_pos (.inl (by rw [g0]; exact z0)))]; simp))
            clear z0 g0 g1 hz
            by_cases hm : M < (n : Int)
            · have HS2 := HSt.out.1 ⟨HR.out, hm⟩
              go_wp2
              go_round
              case rel => exact ⟨k + 1, k, n, by omega, by go_num, rfl, rfl, by omega, by omega, by omega, by omega, HS2⟩
              case measure => simp [RowKit.intOf]; omega
            · have HS2 := HSt.out.2 ⟨HR.out, hm⟩
              go_wp2
              go_round
              case rel => exact ⟨k + 1, A, M, by omega, by go_num, rfl, rfl, hA1, hA2, hM1, hM2, HS2⟩
              case measure => simp [RowKit.intOf]; omega
        · have HR : Hid (runL Z k = n) := Lib.hid (runL_eq hN.out (by rw [List.getElem?_eq_none (by rw [HZL.out]; omega)]; simp))
          have hn8 : k + n = 8 := by omega
          by_cases hm : M < (n : Int)
          · have HS2 := HSt.out.1 ⟨HR.out, hm⟩
            go_wp2
            go_round
            case rel => exact ⟨k + 1, k, n, by omega, by go_num, rfl, rfl, by omega, by omega, by omega, by omega, HS2⟩
            case measure => simp [RowKit.intOf]; omega
          · have HS2 := HSt.out.2 ⟨HR.out, hm⟩
            go_wp2
            go_round
            case rel => exact ⟨k + 1, A, M, by omega, by go_num, rfl, rfl, hA1, hA2, hM1, hM2, HS2⟩
            case measure => simp [RowKit.intOf]; omega
    · obtain rfl : k = 8 := by omega
      cases hb8 : best Z 8 with
      | none =>
        have HX2 : Hid (print16 s.data.toList = Lib.join ((grpT s.data.toList).take 8) [58]) := Lib.hid (by
          rw [HX.out, hb8]
          simp only
          rw [List.take_of_length_le (by rw [grpT_len]; omega)])
        have hAM := hI.out
        rw [hb8] at hAM
        obtain ⟨rfl, rfl⟩ : A = -1 ∧ M = 1 := ⟨(congrArg Prod.fst hAM).symm, (congrArg Prod.snd hAM).symm⟩
        clear hAM hb8 hI
        go_wp2
        go_loopw [3, 9] (fun sv iv wr => ∃ (k : Nat) (t : ByteArray), k ≤ 8 ∧ iv = .int .i64 k ∧ sv = .string t ∧ Hid (t.data.toList = Lib.join ((grpT s.data.toList).take k) [58]) ∧ t.size ≤ 10 * k ∧ Below w.heap.size w wr) (fun _ iv _ => 8 - (RowKit.intOf iv).toNat)
        case atStart => exact ⟨0, ⟨#[]⟩, Nat.zero_le _, rfl, rfl, Lib.hid rfl, Nat.le_refl _, Below.refl _ _⟩
        case round =>
          obtain ⟨k, t, hk3, rfl, rfl, ht, htz, hb⟩ := hrel
          by_cases hlt3 : k < 8
          · by_cases h0 : k = 0
            · have hp0 : ¬ (0 : Int) < (k : Int) := by omega
              have H0 := Lib.hid h0
              clear h0
              have hb1 : 2 * k < s.size := by omega
              have hb2 : 2 * k + 1 < s.size := by omega
              have hb1' : 2 * (k : Int) < 16 := by omega
              have hb2' : 2 * (k : Int) + 1 < 16 := by omega
              have hb3' : 0 ≤ 2 * (k : Int) := by omega
              have hb4' : 0 ≤ 2 * (k : Int) + 1 := by omega
              have hu1 := s[2 * k].toNat_lt
              have hu2 := s[2 * k + 1].toNat_lt
              obtain ⟨N, hN⟩ : ∃ N, grp s.data.toList k = N := ⟨_, rfl⟩
              have hN2 : s[2 * k].toNat * 256 + s[2 * k + 1].toNat = N := by
                rw [← hN]
                unfold grp
                rw [byte_getD s (2 * k) hb1, byte_getD s (2 * k + 1) hb2]
              have hN3 : N < 65536 := by omega
              have hw1 : RowKit.wrap64 (RowKit.wrap64 (RowKit.wrap64 (s[2 * k].toNat : Int) * 256) + RowKit.wrap64 (s[2 * k + 1].toNat : Int)) = (N : Int) := by
                rw [IntWalk.wrap64_in (s[2 * k].toNat : Int) (by omega), IntWalk.wrap64_in (s[2 * k + 1].toNat : Int) (by omega), IntWalk.wrap64_in ((s[2 * k].toNat : Int) * 256) (by omega), IntWalk.wrap64_in _ (by omega)]; omega
              have HG : Hid ((grpT s.data.toList)[k]? = some (hexF N [])) := Lib.hid (by rw [hexF_all, ← hN]; exact grpT_at _ _ hlt3)
              have hhl := (hexT_len N hN3).2
              rw [← hexF_all] at hhl
              have HB := Lib.hid hb
              have hbs := hb.size
              have HW1 := Lib.hid hw1
              clear hN hN2 hu1 hu2 hb hw1
              go_wp2
              go_quiet (fail)
              go_wp2
              go_loopw [10, 11] (fun nv gv wx => ∃ (kk : Nat) (gs : ByteArray), kk < 65536 ∧ nv = .int .i64 kk ∧ gv = .string gs ∧ Hid (hexF N [] = hexF kk gs.data.toList) ∧ gs.size + kk ≤ N + 1 ∧ Below w.heap.size w wx) (fun nv gv _ => (RowKit.intOf nv).toNat + emptyN gv)
              case atStart => exact ⟨N, ⟨#[]⟩, hN3, by rw [HW1.out], rfl, Lib.hid rfl, by show 0 + N ≤ N + 1; omega, HB.out.trans ((below_drewN wr _).mono hbs)⟩
              case round =>
                obtain ⟨kk, gs, hkk, rfl, rfl, hG, hgs, hbx⟩ := hrel
                by_cases h0 : kk = 0
                · subst h0
                  by_cases hgl : gs.data.toList = []
                  · have eg : gs = ⟨#[]⟩ := by apply ByteArray.ext; apply Array.ext'; exact hgl
                    subst eg
                    clear hgl
                    have hdg := slice_digit0
                    go_wp2
                    go_roundw
                    case rel => exact ⟨0, ⟨#[48]⟩, by omega, by go_num, rfl, Lib.hid (by rw [hG.out]; exact hexF_nil), by show 1 + 0 ≤ N + 1; omega, hbx⟩
                    case measure => simp [RowKit.intOf, emptyN]; decide
                  · have HL := Lib.hid hgl
                    have eg1 : ¬ gs.toList = [] := by rw [toList_data]; exact hgl
                    have eg2 : gs.toList.isEmpty = false := by cases hh : gs.toList with | nil => exact absurd hh eg1 | cons x y => rfl
                    have HF : Hid (gs.data.toList = hexF N []) := Lib.hid (by rw [hG.out, hexF_zero _ hgl])
                    have hgz : gs.size ≤ 4 := by
                      have := congrArg List.length HF.out
                      have e : gs.data.toList.length = gs.size := rfl
                      omega
                    clear hgl
                    go_wp2
                    go_roundw
                    case rel => exact ⟨k + 1, t ++ gs, by omega, by go_num, rfl, Lib.hid (by
                      rw [join_step _ k _ HG.out, if_pos H0.out, ← HF.out, ← ht.out]; simp), by rw [ByteArray.size_append]; omega, hbx⟩
                    case measure => simp [RowKit.intOf]; omega
                · have hp : 0 < kk := by omega
                  clear h0
                  obtain ⟨d, hde⟩ : ∃ d, kk % 16 = d := ⟨_, rfl⟩
                  have hd16 : d < 16 := by omega
                  have hdi : (kk : Int) % 16 = (d : Int) := by omega
                  have hdg := slice_digit d hd16
                  have HF : Hid (hexF kk gs.data.toList = hexF (kk / 16) (hd d :: gs.data.toList)) := Lib.hid (by rw [hexF_pos _ hp, hde])
                  obtain ⟨c, hc⟩ : ∃ c, hd d = c := ⟨_, rfl⟩
                  rw [hc] at hdg HF
                  clear hde hc
                  go_wp2
                  go_roundw
                  case rel => exact ⟨kk / 16, ⟨#[c]⟩ ++ gs, by omega, by go_num, rfl, Lib.hid (by rw [hG.out, HF.out]; simp), by rw [ByteArray.size_append]; show 1 + gs.size + kk / 16 ≤ N + 1; omega, hbx⟩
                  case measure => simp [RowKit.intOf, emptyN]; omega
            · have hp0 : 0 < k := by omega
              have hpi : (0 : Int) < (k : Int) := by omega
              have hb1 : 2 * k < s.size := by omega
              have hb2 : 2 * k + 1 < s.size := by omega
              have hb1' : 2 * (k : Int) < 16 := by omega
              have hb2' : 2 * (k : Int) + 1 < 16 := by omega
              have hb3' : 0 ≤ 2 * (k : Int) := by omega
              have hb4' : 0 ≤ 2 * (k : Int) + 1 := by omega
              have hu1 := s[2 * k].toNat_lt
              have hu2 := s[2 * k + 1].toNat_lt
              obtain ⟨N, hN⟩ : ∃ N, grp s.data.toList k = N := ⟨_, rfl⟩
              have hN2 : s[2 * k].toNat * 256 + s[2 * k + 1].toNat = N := by
                rw [← hN]
                unfold grp
                rw [byte_getD s (2 * k) hb1, byte_getD s (2 * k + 1) hb2]
              have hN3 : N < 65536 := by omega
              have hw1 : RowKit.wrap64 (RowKit.wrap64 (RowKit.wrap64 (s[2 * k].toNat : Int) * 256) + RowKit.wrap64 (s[2 * k + 1].toNat : Int)) = (N : Int) := by
                rw [IntWalk.wrap64_in (s[2 * k].toNat : Int) (by omega), IntWalk.wrap64_in (s[2 * k + 1].toNat : Int) (by omega), IntWalk.wrap64_in ((s[2 * k].toNat : Int) * 256) (by omega), IntWalk.wrap64_in _ (by omega)]; omega
              have HG : Hid ((grpT s.data.toList)[k]? = some (hexF N [])) := Lib.hid (by rw [hexF_all, ← hN]; exact grpT_at _ _ hlt3)
              have hhl := (hexT_len N hN3).2
              rw [← hexF_all] at hhl
              have HB := Lib.hid hb
              have hbs := hb.size
              have HW1 := Lib.hid hw1
              clear hN hN2 hu1 hu2 hb hw1
              go_wp2
              go_quiet (fail)
              go_wp2
              go_loopw [10, 11] (fun nv gv wx => ∃ (kk : Nat) (gs : ByteArray), kk < 65536 ∧ nv = .int .i64 kk ∧ gv = .string gs ∧ Hid (hexF N [] = hexF kk gs.data.toList) ∧ gs.size + kk ≤ N + 1 ∧ Below w.heap.size w wx) (fun nv gv _ => (RowKit.intOf nv).toNat + emptyN gv)
              case atStart => exact ⟨N, ⟨#[]⟩, hN3, by rw [HW1.out], rfl, Lib.hid rfl, by show 0 + N ≤ N + 1; omega, HB.out.trans ((below_drewN wr _).mono hbs)⟩
              case round =>
                obtain ⟨kk, gs, hkk, rfl, rfl, hG, hgs, hbx⟩ := hrel
                by_cases h0 : kk = 0
                · subst h0
                  by_cases hgl : gs.data.toList = []
                  · have eg : gs = ⟨#[]⟩ := by apply ByteArray.ext; apply Array.ext'; exact hgl
                    subst eg
                    clear hgl
                    have hdg := slice_digit0
                    go_wp2
                    go_roundw
                    case rel => exact ⟨0, ⟨#[48]⟩, by omega, by go_num, rfl, Lib.hid (by rw [hG.out]; exact hexF_nil), by show 1 + 0 ≤ N + 1; omega, hbx⟩
                    case measure => simp [RowKit.intOf, emptyN]; decide
                  · have HL := Lib.hid hgl
                    have eg1 : ¬ gs.toList = [] := by rw [toList_data]; exact hgl
                    have eg2 : gs.toList.isEmpty = false := by cases hh : gs.toList with | nil => exact absurd hh eg1 | cons x y => rfl
                    have HF : Hid (gs.data.toList = hexF N []) := Lib.hid (by rw [hG.out, hexF_zero _ hgl])
                    have hgz : gs.size ≤ 4 := by
                      have := congrArg List.length HF.out
                      have e : gs.data.toList.length = gs.size := rfl
                      omega
                    clear hgl
                    go_wp2
                    go_roundw
                    case rel => exact ⟨k + 1, t ++ ⟨#[58]⟩ ++ gs, by omega, by go_num, rfl, Lib.hid (by
                      rw [join_step _ k _ HG.out, if_neg (by omega), ← HF.out, ← ht.out]; simp), by rw [ByteArray.size_append, ByteArray.size_append]; show t.size + 1 + gs.size ≤ _; omega, hbx⟩
                    case measure => simp [RowKit.intOf]; omega
                · have hp : 0 < kk := by omega
                  clear h0
                  obtain ⟨d, hde⟩ : ∃ d, kk % 16 = d := ⟨_, rfl⟩
                  have hd16 : d < 16 := by omega
                  have hdi : (kk : Int) % 16 = (d : Int) := by omega
                  have hdg := slice_digit d hd16
                  have HF : Hid (hexF kk gs.data.toList = hexF (kk / 16) (hd d :: gs.data.toList)) := Lib.hid (by rw [hexF_pos _ hp, hde])
                  obtain ⟨c, hc⟩ : ∃ c, hd d = c := ⟨_, rfl⟩
                  rw [hc] at hdg HF
                  clear hde hc
                  go_wp2
                  go_roundw
                  case rel => exact ⟨kk / 16, ⟨#[c]⟩ ++ gs, by omega, by go_num, rfl, Lib.hid (by rw [hG.out, HF.out]; simp), by rw [ByteArray.size_append]; show 1 + gs.size + kk / 16 ≤ N + 1; omega, hbx⟩
                  case measure => simp [RowKit.intOf, emptyN]; omega
          · obtain rfl : k = 8 := by omega
            go_wp2
            go_ret
            exact ⟨by rw [HX2.out, ← ht.out]; rfl, hb⟩
      | some p =>
        obtain ⟨i0, m0⟩ := p
        have hbo := best_ok _ 8 i0 m0 hb8
        rw [HZL.out] at hbo
        obtain ⟨hm2, hi8, him⟩ := hbo
        obtain ⟨g, hg⟩ : ∃ g, i0 + m0 = g := ⟨_, rfl⟩
        have HX2 : Hid (print16 s.data.toList = Lib.join ((grpT s.data.toList).take i0) [58] ++ [58, 58] ++ Lib.join (((grpT s.data.toList).drop g).take (8 - g)) [58]) := Lib.hid (by
          rw [HX.out, hb8]
          simp only [hg]
          rw [List.take_of_length_le (l := (grpT s.data.toList).drop g) (by rw [List.length_drop, grpT_len]; omega)])
        have hAM := hI.out
        rw [hb8] at hAM
        obtain ⟨rfl, rfl⟩ : A = (i0 : Int) ∧ M = (m0 : Int) := ⟨(congrArg Prod.fst hAM).symm, (congrArg Prod.snd hAM).symm⟩
        clear hAM hb8 hI
        have hat : ¬ (i0 : Int) < 0 := by omega
        go_wp2
        go_loopw [3, 9] (fun sv iv wr => ∃ (k : Nat) (t : ByteArray), k ≤ 8 ∧ iv = .int .i64 k ∧ sv = .string t ∧ Hid ((k ≤ i0 ∧ t.data.toList = Lib.join ((grpT s.data.toList).take k) [58]) ∨ (g ≤ k ∧ t.data.toList = Lib.join ((grpT s.data.toList).take i0) [58] ++ [58, 58] ++ Lib.join (((grpT s.data.toList).drop g).take (k - g)) [58])) ∧ t.size ≤ 10 * k ∧ Below w.heap.size w wr) (fun _ iv _ => 8 - (RowKit.intOf iv).toNat)
        case atStart => exact ⟨0, ⟨#[]⟩, Nat.zero_le _, rfl, rfl, Lib.hid (.inl ⟨Nat.zero_le _, rfl⟩), Nat.le_refl _, Below.refl _ _⟩
        case round =>
          obtain ⟨k, t, hk3, rfl, rfl, ht, htz, hb⟩ := hrel
          by_cases hlt3 : k < 8
          · rcases ht.out with ⟨hki, htt⟩ | ⟨hki, htt⟩
            · have HT := Lib.hid htt
              clear htt ht
              by_cases hke : k = i0
              · have heq : ((k : Int) == (i0 : Int)) = true := by rw [hke]; simp
                have HKE := Lib.hid hke
                have HB := Lib.hid hb
                clear hke
                go_wp2
                go_roundw
                case rel => exact ⟨g, t ++ ⟨#[58, 58]⟩, by omega, by have := HKE.out; have := hg; go_num, rfl, Lib.hid (.inr ⟨Nat.le_refl _, by rw [Nat.sub_self]; have := HT.out; rw [HKE.out] at this; simp [this, Go.Tx.join_nil]⟩), by rw [ByteArray.size_append]; show t.size + 2 ≤ _; have := HKE.out; omega, HB.out⟩
                case measure => have := HKE.out; simp [RowKit.intOf]; omega
              · have heq : ((k : Int) == (i0 : Int)) = false := by rw [beq_eq_false_iff_ne]; omega
                have hne : ((k : Int) != (i0 : Int) + (m0 : Int)) = true := by rw [bne_iff_ne]; omega
                have hki2 : k < i0 := by omega
                clear hke
                by_cases h0 : k = 0
                · have hp0 : ¬ (0 : Int) < (k : Int) := by omega
                  have H0 := Lib.hid h0
                  clear h0
                  have hb1 : 2 * k < s.size := by omega
                  have hb2 : 2 * k + 1 < s.size := by omega
                  have hb1' : 2 * (k : Int) < 16 := by omega
                  have hb2' : 2 * (k : Int) + 1 < 16 := by omega
                  have hb3' : 0 ≤ 2 * (k : Int) := by omega
                  have hb4' : 0 ≤ 2 * (k : Int) + 1 := by omega
                  have hu1 := s[2 * k].toNat_lt
                  have hu2 := s[2 * k + 1].toNat_lt
                  obtain ⟨N, hN⟩ : ∃ N, grp s.data.toList k = N := ⟨_, rfl⟩
                  have hN2 : s[2 * k].toNat * 256 + s[2 * k + 1].toNat = N := by
                    rw [← hN]
                    unfold grp
                    rw [byte_getD s (2 * k) hb1, byte_getD s (2 * k + 1) hb2]
                  have hN3 : N < 65536 := by omega
                  have hw1 : RowKit.wrap64 (RowKit.wrap64 (RowKit.wrap64 (s[2 * k].toNat : Int) * 256) + RowKit.wrap64 (s[2 * k + 1].toNat : Int)) = (N : Int) := by
                    rw [IntWalk.wrap64_in (s[2 * k].toNat : Int) (by omega), IntWalk.wrap64_in (s[2 * k + 1].toNat : Int) (by omega), IntWalk.wrap64_in ((s[2 * k].toNat : Int) * 256) (by omega), IntWalk.wrap64_in _ (by omega)]; omega
                  have HG : Hid ((grpT s.data.toList)[k]? = some (hexF N [])) := Lib.hid (by rw [hexF_all, ← hN]; exact grpT_at _ _ hlt3)
                  have hhl := (hexT_len N hN3).2
                  rw [← hexF_all] at hhl
                  have HB := Lib.hid hb
                  have hbs := hb.size
                  have HW1 := Lib.hid hw1
                  clear hN hN2 hu1 hu2 hb hw1
                  go_wp2
                  go_quiet (fail)
                  go_wp2
                  go_loopw [10, 11] (fun nv gv wx => ∃ (kk : Nat) (gs : ByteArray), kk < 65536 ∧ nv = .int .i64 kk ∧ gv = .string gs ∧ Hid (hexF N [] = hexF kk gs.data.toList) ∧ gs.size + kk ≤ N + 1 ∧ Below w.heap.size w wx) (fun nv gv _ => (RowKit.intOf nv).toNat + emptyN gv)
                  case atStart => exact ⟨N, ⟨#[]⟩, hN3, by rw [HW1.out], rfl, Lib.hid rfl, by show 0 + N ≤ N + 1; omega, HB.out.trans ((below_drewN wr _).mono hbs)⟩
                  case round =>
                    obtain ⟨kk, gs, hkk, rfl, rfl, hG, hgs, hbx⟩ := hrel
                    by_cases h0 : kk = 0
                    · subst h0
                      by_cases hgl : gs.data.toList = []
                      · have eg : gs = ⟨#[]⟩ := by apply ByteArray.ext; apply Array.ext'; exact hgl
                        subst eg
                        clear hgl
                        have hdg := slice_digit0
                        go_wp2
                        go_roundw
                        case rel => exact ⟨0, ⟨#[48]⟩, by omega, by go_num, rfl, Lib.hid (by rw [hG.out]; exact hexF_nil), by show 1 + 0 ≤ N + 1; omega, hbx⟩
                        case measure => simp [RowKit.intOf, emptyN]; decide
                      · have HL := Lib.hid hgl
                        have eg1 : ¬ gs.toList = [] := by rw [toList_data]; exact hgl
                        have eg2 : gs.toList.isEmpty = false := by cases hh : gs.toList with | nil => exact absurd hh eg1 | cons x y => rfl
                        have HF : Hid (gs.data.toList = hexF N []) := Lib.hid (by rw [hG.out, hexF_zero _ hgl])
                        have hgz : gs.size ≤ 4 := by
                          have := congrArg List.length HF.out
                          have e : gs.data.toList.length = gs.size := rfl
                          omega
                        clear hgl
                        go_wp2
                        go_roundw
                        case rel => exact ⟨k + 1, t ++ gs, by omega, by go_num, rfl, Lib.hid (.inl ⟨by omega, by
                          rw [join_step _ k _ HG.out, if_pos H0.out, ← HF.out, ← HT.out]; simp⟩), by rw [ByteArray.size_append]; omega, hbx⟩
                        case measure => simp [RowKit.intOf]; omega
                    · have hp : 0 < kk := by omega
                      clear h0
                      obtain ⟨d, hde⟩ : ∃ d, kk % 16 = d := ⟨_, rfl⟩
                      have hd16 : d < 16 := by omega
                      have hdi : (kk : Int) % 16 = (d : Int) := by omega
                      have hdg := slice_digit d hd16
                      have HF : Hid (hexF kk gs.data.toList = hexF (kk / 16) (hd d :: gs.data.toList)) := Lib.hid (by rw [hexF_pos _ hp, hde])
                      obtain ⟨c, hc⟩ : ∃ c, hd d = c := ⟨_, rfl⟩
                      rw [hc] at hdg HF
                      clear hde hc
                      go_wp2
                      go_roundw
                      case rel => exact ⟨kk / 16, ⟨#[c]⟩ ++ gs, by omega, by go_num, rfl, Lib.hid (by rw [hG.out, HF.out]; simp), by rw [ByteArray.size_append]; show 1 + gs.size + kk / 16 ≤ N + 1; omega, hbx⟩
                      case measure => simp [RowKit.intOf, emptyN]; omega
                · have hp0 : (0 : Int) < (k : Int) := by omega
                  have H0 := Lib.hid h0
                  clear h0
                  have hb1 : 2 * k < s.size := by omega
                  have hb2 : 2 * k + 1 < s.size := by omega
                  have hb1' : 2 * (k : Int) < 16 := by omega
                  have hb2' : 2 * (k : Int) + 1 < 16 := by omega
                  have hb3' : 0 ≤ 2 * (k : Int) := by omega
                  have hb4' : 0 ≤ 2 * (k : Int) + 1 := by omega
                  have hu1 := s[2 * k].toNat_lt
                  have hu2 := s[2 * k + 1].toNat_lt
                  obtain ⟨N, hN⟩ : ∃ N, grp s.data.toList k = N := ⟨_, rfl⟩
                  have hN2 : s[2 * k].toNat * 256 + s[2 * k + 1].toNat = N := by
                    rw [← hN]
                    unfold grp
                    rw [byte_getD s (2 * k) hb1, byte_getD s (2 * k + 1) hb2]
                  have hN3 : N < 65536 := by omega
                  have hw1 : RowKit.wrap64 (RowKit.wrap64 (RowKit.wrap64 (s[2 * k].toNat : Int) * 256) + RowKit.wrap64 (s[2 * k + 1].toNat : Int)) = (N : Int) := by
                    rw [IntWalk.wrap64_in (s[2 * k].toNat : Int) (by omega), IntWalk.wrap64_in (s[2 * k + 1].toNat : Int) (by omega), IntWalk.wrap64_in ((s[2 * k].toNat : Int) * 256) (by omega), IntWalk.wrap64_in _ (by omega)]; omega
                  have HG : Hid ((grpT s.data.toList)[k]? = some (hexF N [])) := Lib.hid (by rw [hexF_all, ← hN]; exact grpT_at _ _ hlt3)
                  have hhl := (hexT_len N hN3).2
                  rw [← hexF_all] at hhl
                  have HB := Lib.hid hb
                  have hbs := hb.size
                  have HW1 := Lib.hid hw1
                  clear hN hN2 hu1 hu2 hb hw1
                  go_wp2
                  go_quiet (fail)
                  go_wp2
                  go_loopw [10, 11] (fun nv gv wx => ∃ (kk : Nat) (gs : ByteArray), kk < 65536 ∧ nv = .int .i64 kk ∧ gv = .string gs ∧ Hid (hexF N [] = hexF kk gs.data.toList) ∧ gs.size + kk ≤ N + 1 ∧ Below w.heap.size w wx) (fun nv gv _ => (RowKit.intOf nv).toNat + emptyN gv)
                  case atStart => exact ⟨N, ⟨#[]⟩, hN3, by rw [HW1.out], rfl, Lib.hid rfl, by show 0 + N ≤ N + 1; omega, HB.out.trans ((below_drewN wr _).mono hbs)⟩
                  case round =>
                    obtain ⟨kk, gs, hkk, rfl, rfl, hG, hgs, hbx⟩ := hrel
                    by_cases h0 : kk = 0
                    · subst h0
                      by_cases hgl : gs.data.toList = []
                      · have eg : gs = ⟨#[]⟩ := by apply ByteArray.ext; apply Array.ext'; exact hgl
                        subst eg
                        clear hgl
                        have hdg := slice_digit0
                        go_wp2
                        go_roundw
                        case rel => exact ⟨0, ⟨#[48]⟩, by omega, by go_num, rfl, Lib.hid (by rw [hG.out]; exact hexF_nil), by show 1 + 0 ≤ N + 1; omega, hbx⟩
                        case measure => simp [RowKit.intOf, emptyN]; decide
                      · have HL := Lib.hid hgl
                        have eg1 : ¬ gs.toList = [] := by rw [toList_data]; exact hgl
                        have eg2 : gs.toList.isEmpty = false := by cases hh : gs.toList with | nil => exact absurd hh eg1 | cons x y => rfl
                        have HF : Hid (gs.data.toList = hexF N []) := Lib.hid (by rw [hG.out, hexF_zero _ hgl])
                        have hgz : gs.size ≤ 4 := by
                          have := congrArg List.length HF.out
                          have e : gs.data.toList.length = gs.size := rfl
                          omega
                        clear hgl
                        go_wp2
                        go_roundw
                        case rel => exact ⟨k + 1, t ++ ⟨#[58]⟩ ++ gs, by omega, by go_num, rfl, Lib.hid (.inl ⟨by omega, by
                          rw [join_step _ k _ HG.out, if_neg H0.out, ← HF.out, ← HT.out]; simp⟩), by rw [ByteArray.size_append, ByteArray.size_append]; show t.size + 1 + gs.size ≤ _; omega, hbx⟩
                        case measure => simp [RowKit.intOf]; omega
                    · have hp : 0 < kk := by omega
                      clear h0
                      obtain ⟨d, hde⟩ : ∃ d, kk % 16 = d := ⟨_, rfl⟩
                      have hd16 : d < 16 := by omega
                      have hdi : (kk : Int) % 16 = (d : Int) := by omega
                      have hdg := slice_digit d hd16
                      have HF : Hid (hexF kk gs.data.toList = hexF (kk / 16) (hd d :: gs.data.toList)) := Lib.hid (by rw [hexF_pos _ hp, hde])
                      obtain ⟨c, hc⟩ : ∃ c, hd d = c := ⟨_, rfl⟩
                      rw [hc] at hdg HF
                      clear hde hc
                      go_wp2
                      go_roundw
                      case rel => exact ⟨kk / 16, ⟨#[c]⟩ ++ gs, by omega, by go_num, rfl, Lib.hid (by rw [hG.out, HF.out]; simp), by rw [ByteArray.size_append]; show 1 + gs.size + kk / 16 ≤ N + 1; omega, hbx⟩
                      case measure => simp [RowKit.intOf, emptyN]; omega
            · have HT := Lib.hid htt
              clear htt ht
              have heq : ((k : Int) == (i0 : Int)) = false := by rw [beq_eq_false_iff_ne]; omega
              have hp0 : (0 : Int) < (k : Int) := by omega
              by_cases hkg : k = g
              · have hne : ((k : Int) != (i0 : Int) + (m0 : Int)) = false := by rw [bne_eq_false_iff_eq]; omega
                have hkg1 : k ≤ g := by omega
                clear hkg
                have hb1 : 2 * k < s.size := by omega
                have hb2 : 2 * k + 1 < s.size := by omega
                have hb1' : 2 * (k : Int) < 16 := by omega
                have hb2' : 2 * (k : Int) + 1 < 16 := by omega
                have hb3' : 0 ≤ 2 * (k : Int) := by omega
                have hb4' : 0 ≤ 2 * (k : Int) + 1 := by omega
                have hu1 := s[2 * k].toNat_lt
                have hu2 := s[2 * k + 1].toNat_lt
                obtain ⟨N, hN⟩ : ∃ N, grp s.data.toList k = N := ⟨_, rfl⟩
                have hN2 : s[2 * k].toNat * 256 + s[2 * k + 1].toNat = N := by
                  rw [← hN]
                  unfold grp
                  rw [byte_getD s (2 * k) hb1, byte_getD s (2 * k + 1) hb2]
                have hN3 : N < 65536 := by omega
                have hw1 : RowKit.wrap64 (RowKit.wrap64 (RowKit.wrap64 (s[2 * k].toNat : Int) * 256) + RowKit.wrap64 (s[2 * k + 1].toNat : Int)) = (N : Int) := by
                  rw [IntWalk.wrap64_in (s[2 * k].toNat : Int) (by omega), IntWalk.wrap64_in (s[2 * k + 1].toNat : Int) (by omega), IntWalk.wrap64_in ((s[2 * k].toNat : Int) * 256) (by omega), IntWalk.wrap64_in _ (by omega)]; omega
                have HG : Hid ((grpT s.data.toList)[k]? = some (hexF N [])) := Lib.hid (by rw [hexF_all, ← hN]; exact grpT_at _ _ hlt3)
                have hhl := (hexT_len N hN3).2
                rw [← hexF_all] at hhl
                have HB := Lib.hid hb
                have hbs := hb.size
                have HW1 := Lib.hid hw1
                clear hN hN2 hu1 hu2 hb hw1
                have HG2 : Hid (((grpT s.data.toList).drop g)[k - g]? = some (hexF N [])) := Lib.hid (by rw [List.getElem?_drop, show g + (k - g) = k by omega]; exact HG.out)
                go_wp2
                go_quiet (fail)
                go_wp2
                go_loopw [10, 11] (fun nv gv wx => ∃ (kk : Nat) (gs : ByteArray), kk < 65536 ∧ nv = .int .i64 kk ∧ gv = .string gs ∧ Hid (hexF N [] = hexF kk gs.data.toList) ∧ gs.size + kk ≤ N + 1 ∧ Below w.heap.size w wx) (fun nv gv _ => (RowKit.intOf nv).toNat + emptyN gv)
                case atStart => exact ⟨N, ⟨#[]⟩, hN3, by rw [HW1.out], rfl, Lib.hid rfl, by show 0 + N ≤ N + 1; omega, HB.out.trans ((below_drewN wr _).mono hbs)⟩
                case round =>
                  obtain ⟨kk, gs, hkk, rfl, rfl, hG, hgs, hbx⟩ := hrel
                  by_cases h0 : kk = 0
                  · subst h0
                    by_cases hgl : gs.data.toList = []
                    · have eg : gs = ⟨#[]⟩ := by apply ByteArray.ext; apply Array.ext'; exact hgl
                      subst eg
                      clear hgl
                      have hdg := slice_digit0
                      go_wp2
                      go_roundw
                      case rel => exact ⟨0, ⟨#[48]⟩, by omega, by go_num, rfl, Lib.hid (by rw [hG.out]; exact hexF_nil), by show 1 + 0 ≤ N + 1; omega, hbx⟩
                      case measure => simp [RowKit.intOf, emptyN]; decide
                    · have HL := Lib.hid hgl
                      have eg1 : ¬ gs.toList = [] := by rw [toList_data]; exact hgl
                      have eg2 : gs.toList.isEmpty = false := by cases hh : gs.toList with | nil => exact absurd hh eg1 | cons x y => rfl
                      have HF : Hid (gs.data.toList = hexF N []) := Lib.hid (by rw [hG.out, hexF_zero _ hgl])
                      have hgz : gs.size ≤ 4 := by
                        have := congrArg List.length HF.out
                        have e : gs.data.toList.length = gs.size := rfl
                        omega
                      clear hgl
                      go_wp2
                      go_roundw
                      case rel => exact ⟨k + 1, t ++ gs, by omega, by go_num, rfl, Lib.hid (.inr ⟨by omega, by
                        rw [show k + 1 - g = k - g + 1 by omega, join_step _ (k - g) _ HG2.out, if_pos (by omega), ← List.append_assoc _ [] _, ← List.append_assoc, List.append_nil, ← HF.out, ← HT.out]; simp⟩), by rw [ByteArray.size_append]; omega, hbx⟩
                      case measure => simp [RowKit.intOf]; omega
                  · have hp : 0 < kk := by omega
                    clear h0
                    obtain ⟨d, hde⟩ : ∃ d, kk % 16 = d := ⟨_, rfl⟩
                    have hd16 : d < 16 := by omega
                    have hdi : (kk : Int) % 16 = (d : Int) := by omega
                    have hdg := slice_digit d hd16
                    have HF : Hid (hexF kk gs.data.toList = hexF (kk / 16) (hd d :: gs.data.toList)) := Lib.hid (by rw [hexF_pos _ hp, hde])
                    obtain ⟨c, hc⟩ : ∃ c, hd d = c := ⟨_, rfl⟩
                    rw [hc] at hdg HF
                    clear hde hc
                    go_wp2
                    go_roundw
                    case rel => exact ⟨kk / 16, ⟨#[c]⟩ ++ gs, by omega, by go_num, rfl, Lib.hid (by rw [hG.out, HF.out]; simp), by rw [ByteArray.size_append]; show 1 + gs.size + kk / 16 ≤ N + 1; omega, hbx⟩
                    case measure => simp [RowKit.intOf, emptyN]; omega
              · have hne : ((k : Int) != (i0 : Int) + (m0 : Int)) = true := by rw [bne_iff_ne]; omega
                have hkg1 : g < k := by omega
                clear hkg
                have hb1 : 2 * k < s.size := by omega
                have hb2 : 2 * k + 1 < s.size := by omega
                have hb1' : 2 * (k : Int) < 16 := by omega
                have hb2' : 2 * (k : Int) + 1 < 16 := by omega
                have hb3' : 0 ≤ 2 * (k : Int) := by omega
                have hb4' : 0 ≤ 2 * (k : Int) + 1 := by omega
                have hu1 := s[2 * k].toNat_lt
                have hu2 := s[2 * k + 1].toNat_lt
                obtain ⟨N, hN⟩ : ∃ N, grp s.data.toList k = N := ⟨_, rfl⟩
                have hN2 : s[2 * k].toNat * 256 + s[2 * k + 1].toNat = N := by
                  rw [← hN]
                  unfold grp
                  rw [byte_getD s (2 * k) hb1, byte_getD s (2 * k + 1) hb2]
                have hN3 : N < 65536 := by omega
                have hw1 : RowKit.wrap64 (RowKit.wrap64 (RowKit.wrap64 (s[2 * k].toNat : Int) * 256) + RowKit.wrap64 (s[2 * k + 1].toNat : Int)) = (N : Int) := by
                  rw [IntWalk.wrap64_in (s[2 * k].toNat : Int) (by omega), IntWalk.wrap64_in (s[2 * k + 1].toNat : Int) (by omega), IntWalk.wrap64_in ((s[2 * k].toNat : Int) * 256) (by omega), IntWalk.wrap64_in _ (by omega)]; omega
                have HG : Hid ((grpT s.data.toList)[k]? = some (hexF N [])) := Lib.hid (by rw [hexF_all, ← hN]; exact grpT_at _ _ hlt3)
                have hhl := (hexT_len N hN3).2
                rw [← hexF_all] at hhl
                have HB := Lib.hid hb
                have hbs := hb.size
                have HW1 := Lib.hid hw1
                clear hN hN2 hu1 hu2 hb hw1
                have HG2 : Hid (((grpT s.data.toList).drop g)[k - g]? = some (hexF N [])) := Lib.hid (by rw [List.getElem?_drop, show g + (k - g) = k by omega]; exact HG.out)
                go_wp2
                go_quiet (fail)
                go_wp2
                go_loopw [10, 11] (fun nv gv wx => ∃ (kk : Nat) (gs : ByteArray), kk < 65536 ∧ nv = .int .i64 kk ∧ gv = .string gs ∧ Hid (hexF N [] = hexF kk gs.data.toList) ∧ gs.size + kk ≤ N + 1 ∧ Below w.heap.size w wx) (fun nv gv _ => (RowKit.intOf nv).toNat + emptyN gv)
                case atStart => exact ⟨N, ⟨#[]⟩, hN3, by rw [HW1.out], rfl, Lib.hid rfl, by show 0 + N ≤ N + 1; omega, HB.out.trans ((below_drewN wr _).mono hbs)⟩
                case round =>
                  obtain ⟨kk, gs, hkk, rfl, rfl, hG, hgs, hbx⟩ := hrel
                  by_cases h0 : kk = 0
                  · subst h0
                    by_cases hgl : gs.data.toList = []
                    · have eg : gs = ⟨#[]⟩ := by apply ByteArray.ext; apply Array.ext'; exact hgl
                      subst eg
                      clear hgl
                      have hdg := slice_digit0
                      go_wp2
                      go_roundw
                      case rel => exact ⟨0, ⟨#[48]⟩, by omega, by go_num, rfl, Lib.hid (by rw [hG.out]; exact hexF_nil), by show 1 + 0 ≤ N + 1; omega, hbx⟩
                      case measure => simp [RowKit.intOf, emptyN]; decide
                    · have HL := Lib.hid hgl
                      have eg1 : ¬ gs.toList = [] := by rw [toList_data]; exact hgl
                      have eg2 : gs.toList.isEmpty = false := by cases hh : gs.toList with | nil => exact absurd hh eg1 | cons x y => rfl
                      have HF : Hid (gs.data.toList = hexF N []) := Lib.hid (by rw [hG.out, hexF_zero _ hgl])
                      have hgz : gs.size ≤ 4 := by
                        have := congrArg List.length HF.out
                        have e : gs.data.toList.length = gs.size := rfl
                        omega
                      clear hgl
                      go_wp2
                      go_roundw
                      case rel => exact ⟨k + 1, t ++ ⟨#[58]⟩ ++ gs, by omega, by go_num, rfl, Lib.hid (.inr ⟨by omega, by
                        rw [show k + 1 - g = k - g + 1 by omega, join_step _ (k - g) _ HG2.out, if_neg (by omega), ← List.append_assoc, ← HT.out, ← HF.out]; simp⟩), by rw [ByteArray.size_append, ByteArray.size_append]; show t.size + 1 + gs.size ≤ _; omega, hbx⟩
                      case measure => simp [RowKit.intOf]; omega
                  · have hp : 0 < kk := by omega
                    clear h0
                    obtain ⟨d, hde⟩ : ∃ d, kk % 16 = d := ⟨_, rfl⟩
                    have hd16 : d < 16 := by omega
                    have hdi : (kk : Int) % 16 = (d : Int) := by omega
                    have hdg := slice_digit d hd16
                    have HF : Hid (hexF kk gs.data.toList = hexF (kk / 16) (hd d :: gs.data.toList)) := Lib.hid (by rw [hexF_pos _ hp, hde])
                    obtain ⟨c, hc⟩ : ∃ c, hd d = c := ⟨_, rfl⟩
                    rw [hc] at hdg HF
                    clear hde hc
                    go_wp2
                    go_roundw
                    case rel => exact ⟨kk / 16, ⟨#[c]⟩ ++ gs, by omega, by go_num, rfl, Lib.hid (by rw [hG.out, HF.out]; simp), by rw [ByteArray.size_append]; show 1 + gs.size + kk / 16 ≤ N + 1; omega, hbx⟩
                    case measure => simp [RowKit.intOf, emptyN]; omega
          · obtain rfl : k = 8 := by omega
            have HF : Hid (t.data.toList = print16 s.data.toList) := Lib.hid (by
              rw [HX2.out]
              rcases ht.out with ⟨hki, _⟩ | ⟨_, htt⟩
              · omega
              · exact htt)
            clear ht
            go_wp2
            go_ret
            exact ⟨by rw [← HF.out]; rfl, hb⟩
end Go.Proofs.YtbhmmdkipmddlaaDoor
