/- ErrorDeep: the walk. -/
import Derived.Test.YtfpgobbkeocokaaDoorOl
import Derived.Deep.RegionHeld3
import Derived.IntWalk
namespace Go.Proofs.YtfpgobbkeocokaaDoor
open Go.RowKit Go.Extern.Stop Go.Stop Go.Extern Go.Lib Go.Extern.Rtype
def nmS (i : Nat) : ByteArray := (⟨#[115]⟩ : ByteArray) ++ ⟨#[UInt8.ofNat (97 + i % 26)]⟩
def LsD : Nat → List Lay
  | 0 => []
  | i + 1 => .src (nmS i) :: LsD i
theorem firstT_D : ∀ i, firstT (LsD i) = none
  | 0 => rfl
  | i + 1 => firstT_D i
theorem byte_str (w : World) (c : UInt8) : (convert 48 9 (.slice (some ⟨w.heap.size, 0, none⟩) 1 1)).run Tryd.prog (w.alloc (.cells #[.int .u8 (c.toNat : Int)] 5)) = .ok (.string ⟨#[c]⟩) (w.alloc (.cells #[.int .u8 (c.toNat : Int)] 5)) := by
  have := run_convert_bytes_back (P := Tryd.prog) (w.alloc (.cells #[.int .u8 (c.toNat : Int)] 5)) 48 9 5 ⟨w.heap.size, 0, none⟩ 1 [c] Tryd.underlying48 Tryd.underlying5 Tryd.underlying9 (fun j hj => by
    have ha : (⟨w.heap.size, 0, none⟩ : Addr).add j = ⟨w.heap.size, j, none⟩ := by unfold Addr.add; split <;> simp_all
    rw [ha, World.cell?_alloc_new]
    have : j = 0 := by simpa using hj
    subst this
    rfl)
  exact this
/-- The conversion of the law's byte, by a name of its own. -/
def convOp : Op := .convert 48 9 (.tmp 66)
theorem convOp_eq : Op.convert 48 9 (.tmp 66) = convOp := rfl
theorem byte_later {W0 W : World} {x : UInt8} (h : Below (W0.alloc (.cells #[.int .u8 (x.toNat : Int)] 5)).heap.size (W0.alloc (.cells #[.int .u8 (x.toNat : Int)] 5)) W) : (convert 48 9 (.slice (some ⟨W0.heap.size, 0, none⟩) 1 1)).run Tryd.prog W = .ok (.string ⟨#[x]⟩) W := by
  have hc := (h.block _ (show W0.heap.size < (W0.heap.push _).size by simp)).trans (heap_alloc_new W0 _)
  have := run_convert_bytes_back (P := Tryd.prog) W 48 9 5 ⟨W0.heap.size, 0, none⟩ 1 [x] Tryd.underlying48 Tryd.underlying5 Tryd.underlying9 (fun j hj => by
    have ha : (⟨W0.heap.size, 0, none⟩ : Addr).add j = ⟨W0.heap.size, j, none⟩ := by unfold Addr.add; split <;> simp_all
    have : j = 0 := by simpa using hj
    subst this
    rw [ha]
    exact cell1 hc)
  exact this
set_option maxHeartbeats 1000000 in
set_option maxRecDepth 100000 in
theorem deep_out (c n : Int) (w : World) (hg : w.cell? ⟨0, 0, none⟩ = some (rT 25)) (h : c < 1 ∨ (¬ c < 1 ∧ 11 < c) ∨ (¬ c < 1 ∧ ¬ 11 < c ∧ n < 1) ∨ (¬ c < 1 ∧ ¬ 11 < c ∧ ¬ n < 1 ∧ 200 < n)) :
    Calls Tryd.prog 5 #[.int .i64 c, .int .i64 n] w fun e w' => e = .returned (.bool true) ∧ Below w.heap.size w w' := by
  have HBg := Lib.hid (begun9_any w hg)
  clear hg
  rcases h with h1 | ⟨h1, h2⟩ | ⟨h1, h2, h3⟩ | ⟨h1, h2, h3, h4⟩
  all_goals
    go_enter Tryd.func5, Tryd.ntmps5
    go_wp2_with (go_at_call 6; refine HBg.out.mono ?_; rintro e w2 ⟨rfl, hb⟩)
    go_ret
    exact ⟨rfl, hb⟩
set_option maxHeartbeats 4000000 in
set_option maxRecDepth 100000 in
theorem deep_in (c : Int) (hc : 1 ≤ c ∧ c ≤ 11) (N : Nat) (hN : 1 ≤ N ∧ N ≤ 200) (w : World) (hg : w.cell? ⟨0, 0, none⟩ = some (rT 25)) :
    Calls Tryd.prog 5 #[.int .i64 c, .int .i64 (N : Int)] w fun e w' => e = .returned (.bool true) ∧ Below w.heap.size w w' := by
  have HBg := Lib.hid (begun9_any w hg)
  have HG := Lib.hid hg
  clear hg
  have h1 : ¬ c < 1 := by omega
  have h2 : ¬ 11 < c := by omega
  have h3 : ¬ (N : Int) < 1 := by omega
  have h4 : ¬ (200 : Int) < (N : Int) := by omega
  go_enter Tryd.func5, Tryd.ntmps5
  go_wp2_with (go_at_call 6; refine HBg.out.mono ?_; rintro e w2 ⟨rfl, hb⟩; have HB2 := Lib.hid hb; clear hb)
  clear h1 h2 h3 h4
  go_loopw [6, 7] (fun ev iv wr => ∃ i : Nat, i ≤ N ∧ iv = .int .i64 i ∧ ErrAt wr (LsD i) (some c) ev ∧ Below w.heap.size w wr) (fun _ iv _ => N - (intOf iv).toNat)
  case atStart => exact ⟨0, Nat.zero_le _, rfl, rfl, HB2.out⟩
  case round =>
    obtain ⟨i, hi, rfl, hE, hB⟩ := hrel
    have HB := Lib.hid hB
    have HE := Lib.hid hE
    clear hB
    by_cases hlt : i < N
    · obtain ⟨x, hx⟩ : ∃ x, UInt8.ofNat (97 + i % 26) = x := ⟨_, rfl⟩
      have hxi : (x.toNat : Int) = 97 + (i : Int) % 26 := by rw [← hx, UInt8.toNat_ofNat_of_lt' (by show _ < 256; omega)]; omega
      obtain ⟨t, u, rfl⟩ := hE.iface
      have hb1 := byte_str wr x
      rw [hxi] at hb1
      have hw1 : IntKind.u8.wrap (97 + (i : Int) % 26) = 97 + (i : Int) % 26 := by simp [IntKind.wrap, IntKind.bits, IntKind.signed]; omega
      have hnm : nmS i = (⟨#[115]⟩ : ByteArray) ++ ⟨#[x]⟩ := by unfold nmS; rw [hx]
      have HNm := Lib.hid hnm
      have HW := Lib.hid (wrap_any (wr.alloc (.cells #[.int .u8 (97 + (i : Int) % 26)] 5)) (LsD i) (some c) ((⟨#[115]⟩ : ByteArray) ++ ⟨#[x]⟩) _ (HE.out.below (al_bel _ _)))
      have HX := Lib.hid hx
      clear hE hx hxi hnm
      go_wp2_with (go_at_call 8; refine HW.out.mono ?_; rintro e w4 ⟨b, rfl, he, hb⟩; have HE4 := Lib.hid he; have HB4 := Lib.hid hb; clear he hb)
      go_roundw
      case rel => exact ⟨i + 1, hlt, by go_num, by show ErrAt _ (.src (nmS i) :: LsD i) _ _; rw [HNm.out]; exact HE4.out, keepE HB.out (keepE (al_bel wr _) HB4.out)⟩
      case measure => simp [intOf]; omega
    · obtain rfl : i = N := by omega
      obtain ⟨t, u, rfl⟩ := hE.iface
      obtain ⟨M, rfl⟩ : ∃ M, i = M + 1 := ⟨i - 1, by omega⟩
      have hp : placeV (LsD (M + 1)) = (0, 0, false) := by unfold placeV; rw [firstT_D]
      have HPl := Lib.hid (oplc_any wr _ _ _ hE (glob_keep HG.out HB.out))
      rw [hp] at HPl
      obtain ⟨x, hx⟩ : ∃ x, UInt8.ofNat (97 + M % 26) = x := ⟨_, rfl⟩
      have hxi : (x.toNat : Int) = 97 + (M : Int) % 26 := by rw [← hx, UInt8.toNat_ofNat_of_lt' (by show _ < 256; omega)]; omega
      have hfs : firstS (LsD (M + 1)) = some ((⟨#[115]⟩ : ByteArray) ++ ⟨#[x]⟩) := by show some (nmS M) = _; unfold nmS; rw [hx]
      have hof : ofV (some c) = c := by
        unfold ofV
        by_cases h2 : c = 2
        · subst h2; decide
        · exact if_pos (by omega)
      clear hE hlt hi hp
      go_upto_region 13 with (go_at_call 9; refine HPl.out.mono ?_; rintro e w5 ⟨rfl, hb⟩; have HB5 := Lib.hid hb; clear hb)
      have HOf : Hid (∀ W, Below w5.heap.size w5 W → Calls Tryd.prog 10 #[.iface t u] W fun e w' => e = .returned (.int .i64 c) ∧ Below w5.heap.size w5 w' ∧ Below W.heap.size W w') := Lib.hid (fun W hW => by
        have := of_any W _ _ _ ((HE.out.below HB5.out).below hW)
        rw [hof] at this
        exact this.mono (fun e w' ⟨he, hb⟩ => ⟨he, keepE hW hb, hb⟩))
      have HSr : Hid (∀ W, Below w5.heap.size w5 W → Calls Tryd.prog 11 #[.iface t u] W fun e w' => e = .returned (.string ((⟨#[115]⟩ : ByteArray) ++ ⟨#[x]⟩)) ∧ Below w5.heap.size w5 w' ∧ Below W.heap.size W w') := Lib.hid (fun W hW => by
        have := osrc_any W _ _ _ ((HE.out.below HB5.out).below hW) (glob_keep HG.out (keepE HB.out (keepE HB5.out hW)))
        rw [hfs] at this
        exact this.mono (fun e w' ⟨he, hb⟩ => ⟨he, keepE hW hb, hb⟩))
      have hb1 := fun W => byte_str W x
      have hb2 : ∀ W : World, (convert 48 9 (.slice (some ⟨W.heap.size, 0, none⟩) 1 1)).run Tryd.prog (W.alloc (.cells #[.int .u8 (x.toNat : Int)] 5)).drew = .ok (.string ⟨#[x]⟩) (W.alloc (.cells #[.int .u8 (x.toNat : Int)] 5)).drew := fun W => byte_str W.drew x
      have hw1 : IntKind.u8.wrap (97 + (M : Int) % 26) = 97 + (M : Int) % 26 := by simp [IntKind.wrap, IntKind.bits, IntKind.signed]; omega
      have hM : (M : Int) < 200 := by omega
      have hS := Below.refl w5.heap.size w5
      have hs1 : IntKind.i64.wrap ((M : Int) + 1 - 1) = (M : Int) := by rw [IntWalk.i64_in _ (by omega)]; omega
      have hs2 : ((M : Int).tmod 26) = (M : Int) % 26 := Int.tmod_eq_emod_of_nonneg (by omega)
      have hs4 : IntKind.i64.wrap ((M : Int) % 26) = (M : Int) % 26 := IntWalk.i64_in _ (by omega)
      have hs3 : IntKind.i64.wrap (97 + (M : Int) % 26) = 97 + (M : Int) % 26 := IntWalk.i64_in _ (by omega)
      have HXi := Lib.hid hxi
      clear hx hxi hfs hof
      have hs5 : IntKind.i64.wrap (M : Int) = (M : Int) := IntWalk.i64_in _ (by omega)
      rw [convOp_eq]
      have hco := convOp_eq.symm
      have hxr : (97 + (M : Int) % 26) = (x.toNat : Int) := HXi.out.symm
      have hx6 : IntKind.i64.wrap (x.toNat : Int) = (x.toNat : Int) := by rw [← hxr]; exact hs3
      have hx7 : IntKind.u8.wrap (x.toNat : Int) = (x.toNat : Int) := by rw [← hxr]; exact hw1
      clear hs3 hw1
      go_region_held3 (fun w' => Below w5.heap.size w5 w') (first | assumption | exact Below.drew (by assumption) | exact keepE (by first | assumption | exact Below.drew (by assumption)) (al_bel _ _)) (first | (go_at_call 10; refine (HOf.out _ (by assumption)).mono ?_; rintro e w' ⟨rfl, hbn, _⟩) | (go_at_call 11; refine (HSr.out _ (by assumption)).mono ?_; rintro e w' ⟨rfl, hbn, hbw⟩; first | have hcv := byte_later hbw | skip))
      all_goals
        go_wp2
        go_ret
        exact ⟨rfl, keepE HB.out (keepE HB5.out (by first | assumption | exact Below.drew (by assumption) | exact keepE (by first | assumption | exact Below.drew (by assumption)) (al_bel _ _) | exact (keepE (by first | assumption | exact Below.drew (by assumption)) (al_bel _ _)).drew))⟩
theorem deep_walk (a0 a1 : Int) (W : World) (hg : W.cell? ⟨0, 0, none⟩ = some (rT 25)) :
    Calls Tryd.prog 5 #[.int .i64 a0, .int .i64 a1] W fun e w' => e = .returned (.bool true) ∧ Below W.heap.size W w' := by
  by_cases h : 1 ≤ a0 ∧ a0 ≤ 11 ∧ 1 ≤ a1 ∧ a1 ≤ 200
  · obtain ⟨N, rfl⟩ : ∃ N : Nat, a1 = N := ⟨a1.toNat, by omega⟩
    exact deep_in a0 (by omega) N (by omega) W hg
  · exact deep_out a0 a1 W hg (by omega)
end Go.Proofs.YtfpgobbkeocokaaDoor
