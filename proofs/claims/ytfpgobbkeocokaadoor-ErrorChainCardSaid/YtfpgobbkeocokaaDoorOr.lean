/- ErrorChain: the walk. -/
import Derived.Test.YtfpgobbkeocokaaDoorOq
namespace Go.Proofs.YtfpgobbkeocokaaDoor
open Go.RowKit Go.Extern.Stop Go.Stop Go.Extern Go.Lib Go.Extern.Rtype
def codeV (n : Int) : Int := if 0 ≤ n ∧ n ≤ 14 then n else 99
theorem code_any (n : Int) (w : World) : Calls Tryd.prog 7 #[.int .i64 n] w fun e w' => e = .returned (.int .i64 (codeV n)) ∧ w = w' := by
  by_cases h1 : n < 0
  · have hc : codeV n = 99 := if_neg (by omega)
    rw [hc]
    go_enter Tryd.func7, Tryd.ntmps7
    go_wp2
    go_ret
    exact ⟨rfl, rfl⟩
  · by_cases h2 : 14 < n
    · have hc : codeV n = 99 := if_neg (by omega)
      rw [hc]
      go_enter Tryd.func7, Tryd.ntmps7
      go_wp2
      go_ret
      exact ⟨rfl, rfl⟩
    · have hc : codeV n = n := if_pos (by omega)
      rw [hc]
      go_enter Tryd.func7, Tryd.ntmps7
      go_wp2
      go_ret
      exact ⟨rfl, rfl⟩
theorem ofV_of (n c : Int) (h : (1 ≤ n ∧ n ≤ 11 ∧ c = n) ∨ (¬ (1 ≤ n ∧ n ≤ 11) ∧ c = 2)) : ofV (some (codeV n)) = c := by
  rcases h with ⟨h1, h2, rfl⟩ | ⟨h1, rfl⟩
  · rw [show codeV c = c from if_pos (by omega)]
    unfold ofV
    by_cases h3 : c = 2
    · subst h3; decide
    · exact if_pos (by omega)
  · unfold ofV codeV
    by_cases h2 : 0 ≤ n ∧ n ≤ 14
    · rw [if_pos h2]; exact if_neg (by omega)
    · rw [if_neg h2]; exact if_neg (by decide)
theorem place_src (s : ByteArray) (L : List Lay) : placeV (.src s :: L) = placeV L := rfl
theorem place_own (L : List Lay) : placeV (.own :: L) = placeV L := rfl
theorem place_txt (l c : Int) (L : List Lay) : placeV (.txt l c :: L) = (l, c, true) := rfl
theorem new2 (w : World) (o : Obj) (xs : Array Value) (e : TypeId) : ((w.alloc o).alloc (.cells xs e)).heap[w.heap.size + 1]? = some (.cells xs e (0, 0)) := by
  have := heap_alloc_new (w.alloc o) (.cells xs e)
  rw [al_size] at this
  exact this
theorem bel2 (w : World) (o o2 : Obj) : Below w.heap.size w ((w.alloc o).alloc o2) := keepE (al_bel w o) (al_bel _ _)
/-- What the law keeps between the rounds. -/
structure CI (w wr : World) (kb : Option Int) (i : Nat) (ev sv lv cv pv : Value) (L : List Lay) : Prop where
  err : ErrAt wr L kb ev
  len : L.length ≤ i
  s : sv = .string ((firstS L).getD ⟨#[]⟩)
  l : lv = .int .i64 (placeV L).1
  c : cv = .int .i64 (placeV L).2.1
  p : pv = .bool (placeV L).2.2
  bel : Below w.heap.size w wr
set_option maxHeartbeats 8000000 in
set_option maxRecDepth 100000 in
theorem chain_walk (n : Int) (a : Option Addr) (m cap : Nat) (bare : Bool) (rs : List LayV) (w : World) (hn : -9223372036854775808 ≤ n ∧ n ≤ 9223372036854775807) (hrs : InLay w a m cap rs) (hg : w.cell? ⟨0, 0, none⟩ = some (rT 25)) :
    Calls Tryd.prog 3 #[.int .i64 n, .slice a m cap, .bool bare] w fun e w' => e = .returned (.bool true) ∧ Below w.heap.size w w' := by
  have HBg := Lib.hid (begun9_any w hg)
  have HG := Lib.hid hg
  have HRs := Lib.hid hrs
  have hml : m ≤ maxLen := Nat.le_trans hrs.2.1 hrs.2.2.1
  unfold maxLen at hml
  clear hg hrs
  have hway : (bare = true) ∨ (bare = false ∧ 1 ≤ n ∧ n ≤ 11) ∨ (bare = false ∧ n = 0) ∨ (bare = false ∧ ¬ 1 ≤ n ∧ ¬ n = 0) ∨ (bare = false ∧ 1 ≤ n ∧ ¬ n ≤ 11 ∧ ¬ n = 0) := by
    cases bare
    · rcases Classical.em (1 ≤ n) with h1 | h1
      · rcases Classical.em (n ≤ 11) with h2 | h2
        · exact .inr (.inl ⟨rfl, h1, h2⟩)
        · exact .inr (.inr (.inr (.inr ⟨rfl, h1, h2, by omega⟩)))
      · rcases Classical.em (n = 0) with h2 | h2
        · exact .inr (.inr (.inl ⟨rfl, h2⟩))
        · exact .inr (.inr (.inr (.inl ⟨rfl, h1, h2⟩)))
    · exact .inl rfl
  rcases hway with rfl | ⟨rfl, h1, h2⟩ | ⟨rfl, rfl⟩ | ⟨rfl, h1, h2⟩ | ⟨rfl, h1, h2, h3⟩
  · go_enter Tryd.func3, Tryd.ntmps3
    go_wp2_with (first | (go_at_call 6; refine HBg.out.mono ?_; rintro e w2 ⟨rfl, hb⟩; have HB2 := Lib.hid hb; clear hb) | (go_at_call 7; refine (code_any _ _).mono ?_; rintro e w3 ⟨rfl, rfl⟩))
    obtain ⟨kb, HE0, HC⟩ : ∃ kb : Option Int, Hid (ErrAt w2 [] kb (.iface 29 (.agg #[.nilIface]))) ∧ Hid (ofV kb = 2) := ⟨none, Lib.hid rfl, Lib.hid rfl⟩
    go_loopw [8, 11, 12, 13, 14, 15] (fun ev sv lv cv pv iv wr => ∃ (i : Nat) (L : List Lay), i ≤ m ∧ i ≤ 10 ∧ iv = .int .i64 i ∧ CI w wr kb i ev sv lv cv pv L) (fun _ _ _ _ _ iv _ => 10 - (intOf iv).toNat)
    case atStart => exact ⟨0, [], Nat.zero_le _, by decide, rfl, HE0.out, Nat.le_refl _, rfl, rfl, rfl, rfl, HB2.out⟩
    case round =>
      obtain ⟨i, L, hi, hi10, rfl, hI⟩ := hrel
      obtain ⟨t, u, rfl⟩ := hI.err.iface
      obtain ⟨hE, hl, rfl, rfl, rfl, rfl, hB⟩ := hI
      have HB := Lib.hid hB
      have HE := Lib.hid hE
      clear hB hE
      by_cases hlt : i < m
      · by_cases hlt10 : i < 10
        · obtain ⟨r, hr⟩ : ∃ r, rs[i]? = some r := ⟨_, List.getElem?_eq_getElem (by rw [HRs.out.1]; exact hlt)⟩
          obtain ⟨x, rfl, hx, hsz, q0, q1, q2, q3⟩ := (HRs.out.below HB.out).2.2.2 i r hr
          have hii : (0 : Int) ≤ (i : Int) := by omega
          have him : (i : Int) < (m : Int) := by omega
          have hi3 : (i : Int) < 10 := by omega
          obtain ⟨rk, rsrc, rl, rc⟩ := r
          dsimp only at hsz q0 q1 q2 q3
          clear hr hx
          by_cases c0 : rk = 0
          · subst c0
            go_wp2
            go_roundw
            case rel => exact ⟨i + 1, .src rsrc :: L, hlt, hlt10, by go_num, ⟨⟨_, _, rfl, new2 _ _ _ _, HE.out.below (bel2 _ _ _)⟩, by simp; omega, rfl, by rw [place_src], by rw [place_src], by rw [place_src], keepE HB.out (bel2 _ _ _)⟩⟩
            case measure => simp [intOf]; omega
          · by_cases c1 : rk = 1
            · subst c1
              go_wp2
              go_region
              go_wp2
              go_roundw
              case rel => exact ⟨i + 1, .txt rl rc :: L, hlt, hlt10, by go_num, ⟨⟨_, _, rfl, new2 _ _ _ _, (HE.out.below (bel2 _ _ _)).below (Below.refl _ _).drew⟩, by simp; omega, rfl, by rw [place_txt], by rw [place_txt], by rw [place_txt], (keepE HB.out (bel2 _ _ _)).drew⟩⟩
              case measure => simp [intOf]; omega
            · by_cases c2 : rk = 2
              · subst c2
                go_wp2
                go_roundw
                case rel => exact ⟨i + 1, .own :: L, hlt, hlt10, by go_num, ⟨⟨_, rfl, HE.out.below (al_bel _ _)⟩, by simp; omega, rfl, by rw [place_own], by rw [place_own], by rw [place_own], keepE HB.out (al_bel _ _)⟩⟩
                case measure => simp [intOf]; omega
              · have hbo := al_bel wr (.cells #[.int .i64 rk, .string rsrc, .int .i64 rl, .int .i64 rc] 31)
                have hc0 := heap_alloc_new wr (.cells #[.int .i64 rk, .string rsrc, .int .i64 rl, .int .i64 rc] 31)
                have HW : Hid (Calls Tryd.prog 8 #[.string rsrc, .iface t u] (wr.alloc (.cells #[.int .i64 rk, .string rsrc, .int .i64 rl, .int .i64 rc] 31)) fun e w' => ∃ b, e = .returned (.iface 32 (.pointer (some ⟨b, 0, none⟩))) ∧ ErrAt w' (.src rsrc :: L) kb (.iface 32 (.pointer (some ⟨b, 0, none⟩))) ∧ Below wr.heap.size wr w' ∧ w'.cell? ⟨wr.heap.size, 1, none⟩ = some (.string rsrc)) := Lib.hid ((wrap_any _ L kb rsrc _ (HE.out.below hbo)).mono (fun e w' ⟨b, he, hE, hb⟩ => ⟨b, he, hE, keepE hbo hb, by have := (hb.block _ (Array.getElem?_eq_some_iff.1 hc0).1).trans hc0; simp [World.cell?, this]⟩))
                clear hbo hc0
                go_wp2_with (go_at_call 8; refine HW.out.mono ?_; rintro e w4 ⟨b, rfl, he, hb, k4⟩; have HE4 := Lib.hid he; have HB4 := Lib.hid hb; clear he hb)
                go_roundw
                case rel => exact ⟨i + 1, .src rsrc :: L, hlt, hlt10, by go_num, ⟨HE4.out, by simp; omega, rfl, by rw [place_src], by rw [place_src], by rw [place_src], keepE HB.out HB4.out⟩⟩
                case measure => simp [intOf]; omega
        · obtain rfl : i = 10 := by omega
          have hend : (10 : Int) < (m : Int) := by omega
          have HPl := Lib.hid (oplc_any wr _ _ _ HE.out (glob_keep HG.out HB.out))
          go_upto_region 32 with (go_at_call 9; refine HPl.out.mono ?_; rintro e w5 ⟨rfl, hb⟩; have HB5 := Lib.hid hb; clear hb)
          have HOf : Hid (∀ W, Below w5.heap.size w5 W → Calls Tryd.prog 10 #[.iface t u] W fun e w' => e = .returned (.int .i64 2) ∧ Below w5.heap.size w5 w') := Lib.hid (fun W hW => by
            have := of_any W _ _ _ ((HE.out.below HB5.out).below hW)
            rw [HC.out] at this
            exact this.mono (fun e w' ⟨he, hb⟩ => ⟨he, keepE hW hb⟩))
          have HSr : Hid (∀ W, Below w5.heap.size w5 W → Calls Tryd.prog 11 #[.iface t u] W fun e w' => e = .returned (.string ((firstS L).getD ⟨#[]⟩)) ∧ Below w5.heap.size w5 w') := Lib.hid (fun W hW => (osrc_any W _ _ _ ((HE.out.below HB5.out).below hW) (glob_keep HG.out (keepE HB.out (keepE HB5.out hW)))).mono (fun e w' ⟨he, hb⟩ => ⟨he, keepE hW hb⟩))
          have HS0 : Hid (∀ W, Below w5.heap.size w5 W → Calls Tryd.prog 12 #[.iface t u] W fun e w' => e = .returned (.string ((firstS L).getD ⟨#[]⟩)) ∧ Below w5.heap.size w5 w') := Lib.hid (fun W hW => (s0_any W _ _ _ ((HE.out.below HB5.out).below hW) (by omega)).mono (fun e w' ⟨he, hb⟩ => ⟨he, keepE hW hb⟩))
          have HBx := Lib.hid (Below.refl w5.heap.size w5)
          go_wp2_with (first | (go_at_call 10; refine (HOf.out _ HBx.out).mono ?_; rintro e w7 ⟨rfl, hb⟩; have HBx := Lib.hid hb; clear hb) | (go_at_call 11; refine (HSr.out _ HBx.out).mono ?_; rintro e w8 ⟨rfl, hb⟩; have HBx := Lib.hid hb; clear hb) | (go_at_call 12; refine (HS0.out _ HBx.out).mono ?_; rintro e w9 ⟨rfl, hb⟩; have HBx := Lib.hid hb; clear hb))
          go_ret
          exact ⟨rfl, keepE (keepE HB.out HB5.out) HBx.out⟩
      · obtain rfl : i = m := by omega
        have HPl := Lib.hid (oplc_any wr _ _ _ HE.out (glob_keep HG.out HB.out))
        go_upto_region 32 with (go_at_call 9; refine HPl.out.mono ?_; rintro e w5 ⟨rfl, hb⟩; have HB5 := Lib.hid hb; clear hb)
        have HOf : Hid (∀ W, Below w5.heap.size w5 W → Calls Tryd.prog 10 #[.iface t u] W fun e w' => e = .returned (.int .i64 2) ∧ Below w5.heap.size w5 w') := Lib.hid (fun W hW => by
          have := of_any W _ _ _ ((HE.out.below HB5.out).below hW)
          rw [HC.out] at this
          exact this.mono (fun e w' ⟨he, hb⟩ => ⟨he, keepE hW hb⟩))
        have HSr : Hid (∀ W, Below w5.heap.size w5 W → Calls Tryd.prog 11 #[.iface t u] W fun e w' => e = .returned (.string ((firstS L).getD ⟨#[]⟩)) ∧ Below w5.heap.size w5 w') := Lib.hid (fun W hW => (osrc_any W _ _ _ ((HE.out.below HB5.out).below hW) (glob_keep HG.out (keepE HB.out (keepE HB5.out hW)))).mono (fun e w' ⟨he, hb⟩ => ⟨he, keepE hW hb⟩))
        have HS0 : Hid (∀ W, Below w5.heap.size w5 W → Calls Tryd.prog 12 #[.iface t u] W fun e w' => e = .returned (.string ((firstS L).getD ⟨#[]⟩)) ∧ Below w5.heap.size w5 w') := Lib.hid (fun W hW => (s0_any W _ _ _ ((HE.out.below HB5.out).below hW) (by omega)).mono (fun e w' ⟨he, hb⟩ => ⟨he, keepE hW hb⟩))
        have HBx := Lib.hid (Below.refl w5.heap.size w5)
        go_wp2_with (first | (go_at_call 10; refine (HOf.out _ HBx.out).mono ?_; rintro e w7 ⟨rfl, hb⟩; have HBx := Lib.hid hb; clear hb) | (go_at_call 11; refine (HSr.out _ HBx.out).mono ?_; rintro e w8 ⟨rfl, hb⟩; have HBx := Lib.hid hb; clear hb) | (go_at_call 12; refine (HS0.out _ HBx.out).mono ?_; rintro e w9 ⟨rfl, hb⟩; have HBx := Lib.hid hb; clear hb))
        go_ret
        exact ⟨rfl, keepE (keepE HB.out HB5.out) HBx.out⟩
  · have H1 : Hid (1 ≤ n ∧ n ≤ 11) := Lib.hid ⟨h1, h2⟩
    have hd1 : decide ((1 : Int) ≤ n) = true := by simpa using h1
    have hd2 : decide (n ≤ (11 : Int)) = true := by simpa using h2
    have hd3 : (n == 0) = false := by simp; omega
    clear h1 h2
    go_enter Tryd.func3, Tryd.ntmps3
    go_wp2_with (first | (go_at_call 6; refine HBg.out.mono ?_; rintro e w2 ⟨rfl, hb⟩; have HB2 := Lib.hid hb; clear hb) | (go_at_call 7; refine (code_any _ _).mono ?_; rintro e w3 ⟨rfl, rfl⟩))
    obtain ⟨kb, HE0, HC⟩ : ∃ kb : Option Int, Hid (ErrAt w2 [] kb (.iface 26 (.int .i64 (codeV n)))) ∧ Hid (ofV kb = n) := ⟨some (codeV n), Lib.hid rfl, Lib.hid (ofV_of n n (.inl ⟨H1.out.1, H1.out.2, rfl⟩))⟩
    go_loopw [8, 11, 12, 13, 14, 15] (fun ev sv lv cv pv iv wr => ∃ (i : Nat) (L : List Lay), i ≤ m ∧ i ≤ 10 ∧ iv = .int .i64 i ∧ CI w wr kb i ev sv lv cv pv L) (fun _ _ _ _ _ iv _ => 10 - (intOf iv).toNat)
    case atStart => exact ⟨0, [], Nat.zero_le _, by decide, rfl, HE0.out, Nat.le_refl _, rfl, rfl, rfl, rfl, HB2.out⟩
    case round =>
      obtain ⟨i, L, hi, hi10, rfl, hI⟩ := hrel
      obtain ⟨t, u, rfl⟩ := hI.err.iface
      obtain ⟨hE, hl, rfl, rfl, rfl, rfl, hB⟩ := hI
      have HB := Lib.hid hB
      have HE := Lib.hid hE
      clear hB hE
      by_cases hlt : i < m
      · by_cases hlt10 : i < 10
        · obtain ⟨r, hr⟩ : ∃ r, rs[i]? = some r := ⟨_, List.getElem?_eq_getElem (by rw [HRs.out.1]; exact hlt)⟩
          obtain ⟨x, rfl, hx, hsz, q0, q1, q2, q3⟩ := (HRs.out.below HB.out).2.2.2 i r hr
          have hii : (0 : Int) ≤ (i : Int) := by omega
          have him : (i : Int) < (m : Int) := by omega
          have hi3 : (i : Int) < 10 := by omega
          obtain ⟨rk, rsrc, rl, rc⟩ := r
          dsimp only at hsz q0 q1 q2 q3
          clear hr hx
          by_cases c0 : rk = 0
          · subst c0
            go_wp2
            go_roundw
            case rel => exact ⟨i + 1, .src rsrc :: L, hlt, hlt10, by go_num, ⟨⟨_, _, rfl, new2 _ _ _ _, HE.out.below (bel2 _ _ _)⟩, by simp; omega, rfl, by rw [place_src], by rw [place_src], by rw [place_src], keepE HB.out (bel2 _ _ _)⟩⟩
            case measure => simp [intOf]; omega
          · by_cases c1 : rk = 1
            · subst c1
              go_wp2
              go_region
              go_wp2
              go_roundw
              case rel => exact ⟨i + 1, .txt rl rc :: L, hlt, hlt10, by go_num, ⟨⟨_, _, rfl, new2 _ _ _ _, (HE.out.below (bel2 _ _ _)).below (Below.refl _ _).drew⟩, by simp; omega, rfl, by rw [place_txt], by rw [place_txt], by rw [place_txt], (keepE HB.out (bel2 _ _ _)).drew⟩⟩
              case measure => simp [intOf]; omega
            · by_cases c2 : rk = 2
              · subst c2
                go_wp2
                go_roundw
                case rel => exact ⟨i + 1, .own :: L, hlt, hlt10, by go_num, ⟨⟨_, rfl, HE.out.below (al_bel _ _)⟩, by simp; omega, rfl, by rw [place_own], by rw [place_own], by rw [place_own], keepE HB.out (al_bel _ _)⟩⟩
                case measure => simp [intOf]; omega
              · have hbo := al_bel wr (.cells #[.int .i64 rk, .string rsrc, .int .i64 rl, .int .i64 rc] 31)
                have hc0 := heap_alloc_new wr (.cells #[.int .i64 rk, .string rsrc, .int .i64 rl, .int .i64 rc] 31)
                have HW : Hid (Calls Tryd.prog 8 #[.string rsrc, .iface t u] (wr.alloc (.cells #[.int .i64 rk, .string rsrc, .int .i64 rl, .int .i64 rc] 31)) fun e w' => ∃ b, e = .returned (.iface 32 (.pointer (some ⟨b, 0, none⟩))) ∧ ErrAt w' (.src rsrc :: L) kb (.iface 32 (.pointer (some ⟨b, 0, none⟩))) ∧ Below wr.heap.size wr w' ∧ w'.cell? ⟨wr.heap.size, 1, none⟩ = some (.string rsrc)) := Lib.hid ((wrap_any _ L kb rsrc _ (HE.out.below hbo)).mono (fun e w' ⟨b, he, hE, hb⟩ => ⟨b, he, hE, keepE hbo hb, by have := (hb.block _ (Array.getElem?_eq_some_iff.1 hc0).1).trans hc0; simp [World.cell?, this]⟩))
                clear hbo hc0
                go_wp2_with (go_at_call 8; refine HW.out.mono ?_; rintro e w4 ⟨b, rfl, he, hb, k4⟩; have HE4 := Lib.hid he; have HB4 := Lib.hid hb; clear he hb)
                go_roundw
                case rel => exact ⟨i + 1, .src rsrc :: L, hlt, hlt10, by go_num, ⟨HE4.out, by simp; omega, rfl, by rw [place_src], by rw [place_src], by rw [place_src], keepE HB.out HB4.out⟩⟩
                case measure => simp [intOf]; omega
        · obtain rfl : i = 10 := by omega
          have hend : (10 : Int) < (m : Int) := by omega
          have HPl := Lib.hid (oplc_any wr _ _ _ HE.out (glob_keep HG.out HB.out))
          go_upto_region 32 with (go_at_call 9; refine HPl.out.mono ?_; rintro e w5 ⟨rfl, hb⟩; have HB5 := Lib.hid hb; clear hb)
          have HOf : Hid (∀ W, Below w5.heap.size w5 W → Calls Tryd.prog 10 #[.iface t u] W fun e w' => e = .returned (.int .i64 n) ∧ Below w5.heap.size w5 w') := Lib.hid (fun W hW => by
            have := of_any W _ _ _ ((HE.out.below HB5.out).below hW)
            rw [HC.out] at this
            exact this.mono (fun e w' ⟨he, hb⟩ => ⟨he, keepE hW hb⟩))
          have HSr : Hid (∀ W, Below w5.heap.size w5 W → Calls Tryd.prog 11 #[.iface t u] W fun e w' => e = .returned (.string ((firstS L).getD ⟨#[]⟩)) ∧ Below w5.heap.size w5 w') := Lib.hid (fun W hW => (osrc_any W _ _ _ ((HE.out.below HB5.out).below hW) (glob_keep HG.out (keepE HB.out (keepE HB5.out hW)))).mono (fun e w' ⟨he, hb⟩ => ⟨he, keepE hW hb⟩))
          have HS0 : Hid (∀ W, Below w5.heap.size w5 W → Calls Tryd.prog 12 #[.iface t u] W fun e w' => e = .returned (.string ((firstS L).getD ⟨#[]⟩)) ∧ Below w5.heap.size w5 w') := Lib.hid (fun W hW => (s0_any W _ _ _ ((HE.out.below HB5.out).below hW) (by omega)).mono (fun e w' ⟨he, hb⟩ => ⟨he, keepE hW hb⟩))
          have HBx := Lib.hid (Below.refl w5.heap.size w5)
          go_wp2_with (first | (go_at_call 10; refine (HOf.out _ HBx.out).mono ?_; rintro e w7 ⟨rfl, hb⟩; have HBx := Lib.hid hb; clear hb) | (go_at_call 11; refine (HSr.out _ HBx.out).mono ?_; rintro e w8 ⟨rfl, hb⟩; have HBx := Lib.hid hb; clear hb) | (go_at_call 12; refine (HS0.out _ HBx.out).mono ?_; rintro e w9 ⟨rfl, hb⟩; have HBx := Lib.hid hb; clear hb))
          go_ret
          exact ⟨rfl, keepE (keepE HB.out HB5.out) HBx.out⟩
      · obtain rfl : i = m := by omega
        have HPl := Lib.hid (oplc_any wr _ _ _ HE.out (glob_keep HG.out HB.out))
        go_upto_region 32 with (go_at_call 9; refine HPl.out.mono ?_; rintro e w5 ⟨rfl, hb⟩; have HB5 := Lib.hid hb; clear hb)
        have HOf : Hid (∀ W, Below w5.heap.size w5 W → Calls Tryd.prog 10 #[.iface t u] W fun e w' => e = .returned (.int .i64 n) ∧ Below w5.heap.size w5 w') := Lib.hid (fun W hW => by
          have := of_any W _ _ _ ((HE.out.below HB5.out).below hW)
          rw [HC.out] at this
          exact this.mono (fun e w' ⟨he, hb⟩ => ⟨he, keepE hW hb⟩))
        have HSr : Hid (∀ W, Below w5.heap.size w5 W → Calls Tryd.prog 11 #[.iface t u] W fun e w' => e = .returned (.string ((firstS L).getD ⟨#[]⟩)) ∧ Below w5.heap.size w5 w') := Lib.hid (fun W hW => (osrc_any W _ _ _ ((HE.out.below HB5.out).below hW) (glob_keep HG.out (keepE HB.out (keepE HB5.out hW)))).mono (fun e w' ⟨he, hb⟩ => ⟨he, keepE hW hb⟩))
        have HS0 : Hid (∀ W, Below w5.heap.size w5 W → Calls Tryd.prog 12 #[.iface t u] W fun e w' => e = .returned (.string ((firstS L).getD ⟨#[]⟩)) ∧ Below w5.heap.size w5 w') := Lib.hid (fun W hW => (s0_any W _ _ _ ((HE.out.below HB5.out).below hW) (by omega)).mono (fun e w' ⟨he, hb⟩ => ⟨he, keepE hW hb⟩))
        have HBx := Lib.hid (Below.refl w5.heap.size w5)
        go_wp2_with (first | (go_at_call 10; refine (HOf.out _ HBx.out).mono ?_; rintro e w7 ⟨rfl, hb⟩; have HBx := Lib.hid hb; clear hb) | (go_at_call 11; refine (HSr.out _ HBx.out).mono ?_; rintro e w8 ⟨rfl, hb⟩; have HBx := Lib.hid hb; clear hb) | (go_at_call 12; refine (HS0.out _ HBx.out).mono ?_; rintro e w9 ⟨rfl, hb⟩; have HBx := Lib.hid hb; clear hb))
        go_ret
        exact ⟨rfl, keepE (keepE HB.out HB5.out) HBx.out⟩
  · go_enter Tryd.func3, Tryd.ntmps3
    go_wp2_with (first | (go_at_call 6; refine HBg.out.mono ?_; rintro e w2 ⟨rfl, hb⟩; have HB2 := Lib.hid hb; clear hb) | (go_at_call 7; refine (code_any _ _).mono ?_; rintro e w3 ⟨rfl, rfl⟩))
    obtain ⟨kb, HE0, HC⟩ : ∃ kb : Option Int, Hid (ErrAt w2 [] kb (.iface 26 (.int .i64 (codeV 0)))) ∧ Hid (ofV kb = 2) := ⟨some (codeV 0), Lib.hid rfl, Lib.hid (ofV_of 0 2 (.inr ⟨by decide, rfl⟩))⟩
    go_loopw [8, 11, 12, 13, 14, 15] (fun ev sv lv cv pv iv wr => ∃ (i : Nat) (L : List Lay), i ≤ m ∧ i ≤ 10 ∧ iv = .int .i64 i ∧ CI w wr kb i ev sv lv cv pv L) (fun _ _ _ _ _ iv _ => 10 - (intOf iv).toNat)
    case atStart => exact ⟨0, [], Nat.zero_le _, by decide, rfl, HE0.out, Nat.le_refl _, rfl, rfl, rfl, rfl, HB2.out⟩
    case round =>
      obtain ⟨i, L, hi, hi10, rfl, hI⟩ := hrel
      obtain ⟨t, u, rfl⟩ := hI.err.iface
      obtain ⟨hE, hl, rfl, rfl, rfl, rfl, hB⟩ := hI
      have HB := Lib.hid hB
      have HE := Lib.hid hE
      clear hB hE
      by_cases hlt : i < m
      · by_cases hlt10 : i < 10
        · obtain ⟨r, hr⟩ : ∃ r, rs[i]? = some r := ⟨_, List.getElem?_eq_getElem (by rw [HRs.out.1]; exact hlt)⟩
          obtain ⟨x, rfl, hx, hsz, q0, q1, q2, q3⟩ := (HRs.out.below HB.out).2.2.2 i r hr
          have hii : (0 : Int) ≤ (i : Int) := by omega
          have him : (i : Int) < (m : Int) := by omega
          have hi3 : (i : Int) < 10 := by omega
          obtain ⟨rk, rsrc, rl, rc⟩ := r
          dsimp only at hsz q0 q1 q2 q3
          clear hr hx
          by_cases c0 : rk = 0
          · subst c0
            go_wp2
            go_roundw
            case rel => exact ⟨i + 1, .src rsrc :: L, hlt, hlt10, by go_num, ⟨⟨_, _, rfl, new2 _ _ _ _, HE.out.below (bel2 _ _ _)⟩, by simp; omega, rfl, by rw [place_src], by rw [place_src], by rw [place_src], keepE HB.out (bel2 _ _ _)⟩⟩
            case measure => simp [intOf]; omega
          · by_cases c1 : rk = 1
            · subst c1
              go_wp2
              go_region
              go_wp2
              go_roundw
              case rel => exact ⟨i + 1, .txt rl rc :: L, hlt, hlt10, by go_num, ⟨⟨_, _, rfl, new2 _ _ _ _, (HE.out.below (bel2 _ _ _)).below (Below.refl _ _).drew⟩, by simp; omega, rfl, by rw [place_txt], by rw [place_txt], by rw [place_txt], (keepE HB.out (bel2 _ _ _)).drew⟩⟩
              case measure => simp [intOf]; omega
            · by_cases c2 : rk = 2
              · subst c2
                go_wp2
                go_roundw
                case rel => exact ⟨i + 1, .own :: L, hlt, hlt10, by go_num, ⟨⟨_, rfl, HE.out.below (al_bel _ _)⟩, by simp; omega, rfl, by rw [place_own], by rw [place_own], by rw [place_own], keepE HB.out (al_bel _ _)⟩⟩
                case measure => simp [intOf]; omega
              · have hbo := al_bel wr (.cells #[.int .i64 rk, .string rsrc, .int .i64 rl, .int .i64 rc] 31)
                have hc0 := heap_alloc_new wr (.cells #[.int .i64 rk, .string rsrc, .int .i64 rl, .int .i64 rc] 31)
                have HW : Hid (Calls Tryd.prog 8 #[.string rsrc, .iface t u] (wr.alloc (.cells #[.int .i64 rk, .string rsrc, .int .i64 rl, .int .i64 rc] 31)) fun e w' => ∃ b, e = .returned (.iface 32 (.pointer (some ⟨b, 0, none⟩))) ∧ ErrAt w' (.src rsrc :: L) kb (.iface 32 (.pointer (some ⟨b, 0, none⟩))) ∧ Below wr.heap.size wr w' ∧ w'.cell? ⟨wr.heap.size, 1, none⟩ = some (.string rsrc)) := Lib.hid ((wrap_any _ L kb rsrc _ (HE.out.below hbo)).mono (fun e w' ⟨b, he, hE, hb⟩ => ⟨b, he, hE, keepE hbo hb, by have := (hb.block _ (Array.getElem?_eq_some_iff.1 hc0).1).trans hc0; simp [World.cell?, this]⟩))
                clear hbo hc0
                go_wp2_with (go_at_call 8; refine HW.out.mono ?_; rintro e w4 ⟨b, rfl, he, hb, k4⟩; have HE4 := Lib.hid he; have HB4 := Lib.hid hb; clear he hb)
                go_roundw
                case rel => exact ⟨i + 1, .src rsrc :: L, hlt, hlt10, by go_num, ⟨HE4.out, by simp; omega, rfl, by rw [place_src], by rw [place_src], by rw [place_src], keepE HB.out HB4.out⟩⟩
                case measure => simp [intOf]; omega
        · obtain rfl : i = 10 := by omega
          have hend : (10 : Int) < (m : Int) := by omega
          have HPl := Lib.hid (oplc_any wr _ _ _ HE.out (glob_keep HG.out HB.out))
          go_upto_region 32 with (go_at_call 9; refine HPl.out.mono ?_; rintro e w5 ⟨rfl, hb⟩; have HB5 := Lib.hid hb; clear hb)
          have HOf : Hid (∀ W, Below w5.heap.size w5 W → Calls Tryd.prog 10 #[.iface t u] W fun e w' => e = .returned (.int .i64 2) ∧ Below w5.heap.size w5 w') := Lib.hid (fun W hW => by
            have := of_any W _ _ _ ((HE.out.below HB5.out).below hW)
            rw [HC.out] at this
            exact this.mono (fun e w' ⟨he, hb⟩ => ⟨he, keepE hW hb⟩))
          have HSr : Hid (∀ W, Below w5.heap.size w5 W → Calls Tryd.prog 11 #[.iface t u] W fun e w' => e = .returned (.string ((firstS L).getD ⟨#[]⟩)) ∧ Below w5.heap.size w5 w') := Lib.hid (fun W hW => (osrc_any W _ _ _ ((HE.out.below HB5.out).below hW) (glob_keep HG.out (keepE HB.out (keepE HB5.out hW)))).mono (fun e w' ⟨he, hb⟩ => ⟨he, keepE hW hb⟩))
          have HS0 : Hid (∀ W, Below w5.heap.size w5 W → Calls Tryd.prog 12 #[.iface t u] W fun e w' => e = .returned (.string ((firstS L).getD ⟨#[]⟩)) ∧ Below w5.heap.size w5 w') := Lib.hid (fun W hW => (s0_any W _ _ _ ((HE.out.below HB5.out).below hW) (by omega)).mono (fun e w' ⟨he, hb⟩ => ⟨he, keepE hW hb⟩))
          have HBx := Lib.hid (Below.refl w5.heap.size w5)
          go_wp2_with (first | (go_at_call 10; refine (HOf.out _ HBx.out).mono ?_; rintro e w7 ⟨rfl, hb⟩; have HBx := Lib.hid hb; clear hb) | (go_at_call 11; refine (HSr.out _ HBx.out).mono ?_; rintro e w8 ⟨rfl, hb⟩; have HBx := Lib.hid hb; clear hb) | (go_at_call 12; refine (HS0.out _ HBx.out).mono ?_; rintro e w9 ⟨rfl, hb⟩; have HBx := Lib.hid hb; clear hb))
          go_ret
          exact ⟨rfl, keepE (keepE HB.out HB5.out) HBx.out⟩
      · obtain rfl : i = m := by omega
        have HPl := Lib.hid (oplc_any wr _ _ _ HE.out (glob_keep HG.out HB.out))
        go_upto_region 32 with (go_at_call 9; refine HPl.out.mono ?_; rintro e w5 ⟨rfl, hb⟩; have HB5 := Lib.hid hb; clear hb)
        have HOf : Hid (∀ W, Below w5.heap.size w5 W → Calls Tryd.prog 10 #[.iface t u] W fun e w' => e = .returned (.int .i64 2) ∧ Below w5.heap.size w5 w') := Lib.hid (fun W hW => by
          have := of_any W _ _ _ ((HE.out.below HB5.out).below hW)
          rw [HC.out] at this
          exact this.mono (fun e w' ⟨he, hb⟩ => ⟨he, keepE hW hb⟩))
        have HSr : Hid (∀ W, Below w5.heap.size w5 W → Calls Tryd.prog 11 #[.iface t u] W fun e w' => e = .returned (.string ((firstS L).getD ⟨#[]⟩)) ∧ Below w5.heap.size w5 w') := Lib.hid (fun W hW => (osrc_any W _ _ _ ((HE.out.below HB5.out).below hW) (glob_keep HG.out (keepE HB.out (keepE HB5.out hW)))).mono (fun e w' ⟨he, hb⟩ => ⟨he, keepE hW hb⟩))
        have HS0 : Hid (∀ W, Below w5.heap.size w5 W → Calls Tryd.prog 12 #[.iface t u] W fun e w' => e = .returned (.string ((firstS L).getD ⟨#[]⟩)) ∧ Below w5.heap.size w5 w') := Lib.hid (fun W hW => (s0_any W _ _ _ ((HE.out.below HB5.out).below hW) (by omega)).mono (fun e w' ⟨he, hb⟩ => ⟨he, keepE hW hb⟩))
        have HBx := Lib.hid (Below.refl w5.heap.size w5)
        go_wp2_with (first | (go_at_call 10; refine (HOf.out _ HBx.out).mono ?_; rintro e w7 ⟨rfl, hb⟩; have HBx := Lib.hid hb; clear hb) | (go_at_call 11; refine (HSr.out _ HBx.out).mono ?_; rintro e w8 ⟨rfl, hb⟩; have HBx := Lib.hid hb; clear hb) | (go_at_call 12; refine (HS0.out _ HBx.out).mono ?_; rintro e w9 ⟨rfl, hb⟩; have HBx := Lib.hid hb; clear hb))
        go_ret
        exact ⟨rfl, keepE (keepE HB.out HB5.out) HBx.out⟩
  · have H1 : Hid (¬ 1 ≤ n ∧ ¬ n = 0) := Lib.hid ⟨h1, h2⟩
    have hd1 : decide ((1 : Int) ≤ n) = false := by simpa using h1
    have hd3 : (n == 0) = false := by simpa using h2
    clear h1 h2
    go_enter Tryd.func3, Tryd.ntmps3
    go_wp2_with (first | (go_at_call 6; refine HBg.out.mono ?_; rintro e w2 ⟨rfl, hb⟩; have HB2 := Lib.hid hb; clear hb) | (go_at_call 7; refine (code_any _ _).mono ?_; rintro e w3 ⟨rfl, rfl⟩))
    obtain ⟨kb, HE0, HC⟩ : ∃ kb : Option Int, Hid (ErrAt w2 [] kb (.iface 26 (.int .i64 (codeV n)))) ∧ Hid (ofV kb = 2) := ⟨some (codeV n), Lib.hid rfl, Lib.hid (ofV_of n 2 (.inr ⟨by have := H1.out; omega, rfl⟩))⟩
    go_loopw [8, 11, 12, 13, 14, 15] (fun ev sv lv cv pv iv wr => ∃ (i : Nat) (L : List Lay), i ≤ m ∧ i ≤ 10 ∧ iv = .int .i64 i ∧ CI w wr kb i ev sv lv cv pv L) (fun _ _ _ _ _ iv _ => 10 - (intOf iv).toNat)
    case atStart => exact ⟨0, [], Nat.zero_le _, by decide, rfl, HE0.out, Nat.le_refl _, rfl, rfl, rfl, rfl, HB2.out⟩
    case round =>
      obtain ⟨i, L, hi, hi10, rfl, hI⟩ := hrel
      obtain ⟨t, u, rfl⟩ := hI.err.iface
      obtain ⟨hE, hl, rfl, rfl, rfl, rfl, hB⟩ := hI
      have HB := Lib.hid hB
      have HE := Lib.hid hE
      clear hB hE
      by_cases hlt : i < m
      · by_cases hlt10 : i < 10
        · obtain ⟨r, hr⟩ : ∃ r, rs[i]? = some r := ⟨_, List.getElem?_eq_getElem (by rw [HRs.out.1]; exact hlt)⟩
          obtain ⟨x, rfl, hx, hsz, q0, q1, q2, q3⟩ := (HRs.out.below HB.out).2.2.2 i r hr
          have hii : (0 : Int) ≤ (i : Int) := by omega
          have him : (i : Int) < (m : Int) := by omega
          have hi3 : (i : Int) < 10 := by omega
          obtain ⟨rk, rsrc, rl, rc⟩ := r
          dsimp only at hsz q0 q1 q2 q3
          clear hr hx
          by_cases c0 : rk = 0
          · subst c0
            go_wp2
            go_roundw
            case rel => exact ⟨i + 1, .src rsrc :: L, hlt, hlt10, by go_num, ⟨⟨_, _, rfl, new2 _ _ _ _, HE.out.below (bel2 _ _ _)⟩, by simp; omega, rfl, by rw [place_src], by rw [place_src], by rw [place_src], keepE HB.out (bel2 _ _ _)⟩⟩
            case measure => simp [intOf]; omega
          · by_cases c1 : rk = 1
            · subst c1
              go_wp2
              go_region
              go_wp2
              go_roundw
              case rel => exact ⟨i + 1, .txt rl rc :: L, hlt, hlt10, by go_num, ⟨⟨_, _, rfl, new2 _ _ _ _, (HE.out.below (bel2 _ _ _)).below (Below.refl _ _).drew⟩, by simp; omega, rfl, by rw [place_txt], by rw [place_txt], by rw [place_txt], (keepE HB.out (bel2 _ _ _)).drew⟩⟩
              case measure => simp [intOf]; omega
            · by_cases c2 : rk = 2
              · subst c2
                go_wp2
                go_roundw
                case rel => exact ⟨i + 1, .own :: L, hlt, hlt10, by go_num, ⟨⟨_, rfl, HE.out.below (al_bel _ _)⟩, by simp; omega, rfl, by rw [place_own], by rw [place_own], by rw [place_own], keepE HB.out (al_bel _ _)⟩⟩
                case measure => simp [intOf]; omega
              · have hbo := al_bel wr (.cells #[.int .i64 rk, .string rsrc, .int .i64 rl, .int .i64 rc] 31)
                have hc0 := heap_alloc_new wr (.cells #[.int .i64 rk, .string rsrc, .int .i64 rl, .int .i64 rc] 31)
                have HW : Hid (Calls Tryd.prog 8 #[.string rsrc, .iface t u] (wr.alloc (.cells #[.int .i64 rk, .string rsrc, .int .i64 rl, .int .i64 rc] 31)) fun e w' => ∃ b, e = .returned (.iface 32 (.pointer (some ⟨b, 0, none⟩))) ∧ ErrAt w' (.src rsrc :: L) kb (.iface 32 (.pointer (some ⟨b, 0, none⟩))) ∧ Below wr.heap.size wr w' ∧ w'.cell? ⟨wr.heap.size, 1, none⟩ = some (.string rsrc)) := Lib.hid ((wrap_any _ L kb rsrc _ (HE.out.below hbo)).mono (fun e w' ⟨b, he, hE, hb⟩ => ⟨b, he, hE, keepE hbo hb, by have := (hb.block _ (Array.getElem?_eq_some_iff.1 hc0).1).trans hc0; simp [World.cell?, this]⟩))
                clear hbo hc0
                go_wp2_with (go_at_call 8; refine HW.out.mono ?_; rintro e w4 ⟨b, rfl, he, hb, k4⟩; have HE4 := Lib.hid he; have HB4 := Lib.hid hb; clear he hb)
                go_roundw
                case rel => exact ⟨i + 1, .src rsrc :: L, hlt, hlt10, by go_num, ⟨HE4.out, by simp; omega, rfl, by rw [place_src], by rw [place_src], by rw [place_src], keepE HB.out HB4.out⟩⟩
                case measure => simp [intOf]; omega
        · obtain rfl : i = 10 := by omega
          have hend : (10 : Int) < (m : Int) := by omega
          have HPl := Lib.hid (oplc_any wr _ _ _ HE.out (glob_keep HG.out HB.out))
          go_upto_region 32 with (go_at_call 9; refine HPl.out.mono ?_; rintro e w5 ⟨rfl, hb⟩; have HB5 := Lib.hid hb; clear hb)
          have HOf : Hid (∀ W, Below w5.heap.size w5 W → Calls Tryd.prog 10 #[.iface t u] W fun e w' => e = .returned (.int .i64 2) ∧ Below w5.heap.size w5 w') := Lib.hid (fun W hW => by
            have := of_any W _ _ _ ((HE.out.below HB5.out).below hW)
            rw [HC.out] at this
            exact this.mono (fun e w' ⟨he, hb⟩ => ⟨he, keepE hW hb⟩))
          have HSr : Hid (∀ W, Below w5.heap.size w5 W → Calls Tryd.prog 11 #[.iface t u] W fun e w' => e = .returned (.string ((firstS L).getD ⟨#[]⟩)) ∧ Below w5.heap.size w5 w') := Lib.hid (fun W hW => (osrc_any W _ _ _ ((HE.out.below HB5.out).below hW) (glob_keep HG.out (keepE HB.out (keepE HB5.out hW)))).mono (fun e w' ⟨he, hb⟩ => ⟨he, keepE hW hb⟩))
          have HS0 : Hid (∀ W, Below w5.heap.size w5 W → Calls Tryd.prog 12 #[.iface t u] W fun e w' => e = .returned (.string ((firstS L).getD ⟨#[]⟩)) ∧ Below w5.heap.size w5 w') := Lib.hid (fun W hW => (s0_any W _ _ _ ((HE.out.below HB5.out).below hW) (by omega)).mono (fun e w' ⟨he, hb⟩ => ⟨he, keepE hW hb⟩))
          have HBx := Lib.hid (Below.refl w5.heap.size w5)
          go_wp2_with (first | (go_at_call 10; refine (HOf.out _ HBx.out).mono ?_; rintro e w7 ⟨rfl, hb⟩; have HBx := Lib.hid hb; clear hb) | (go_at_call 11; refine (HSr.out _ HBx.out).mono ?_; rintro e w8 ⟨rfl, hb⟩; have HBx := Lib.hid hb; clear hb) | (go_at_call 12; refine (HS0.out _ HBx.out).mono ?_; rintro e w9 ⟨rfl, hb⟩; have HBx := Lib.hid hb; clear hb))
          go_ret
          exact ⟨rfl, keepE (keepE HB.out HB5.out) HBx.out⟩
      · obtain rfl : i = m := by omega
        have HPl := Lib.hid (oplc_any wr _ _ _ HE.out (glob_keep HG.out HB.out))
        go_upto_region 32 with (go_at_call 9; refine HPl.out.mono ?_; rintro e w5 ⟨rfl, hb⟩; have HB5 := Lib.hid hb; clear hb)
        have HOf : Hid (∀ W, Below w5.heap.size w5 W → Calls Tryd.prog 10 #[.iface t u] W fun e w' => e = .returned (.int .i64 2) ∧ Below w5.heap.size w5 w') := Lib.hid (fun W hW => by
          have := of_any W _ _ _ ((HE.out.below HB5.out).below hW)
          rw [HC.out] at this
          exact this.mono (fun e w' ⟨he, hb⟩ => ⟨he, keepE hW hb⟩))
        have HSr : Hid (∀ W, Below w5.heap.size w5 W → Calls Tryd.prog 11 #[.iface t u] W fun e w' => e = .returned (.string ((firstS L).getD ⟨#[]⟩)) ∧ Below w5.heap.size w5 w') := Lib.hid (fun W hW => (osrc_any W _ _ _ ((HE.out.below HB5.out).below hW) (glob_keep HG.out (keepE HB.out (keepE HB5.out hW)))).mono (fun e w' ⟨he, hb⟩ => ⟨he, keepE hW hb⟩))
        have HS0 : Hid (∀ W, Below w5.heap.size w5 W → Calls Tryd.prog 12 #[.iface t u] W fun e w' => e = .returned (.string ((firstS L).getD ⟨#[]⟩)) ∧ Below w5.heap.size w5 w') := Lib.hid (fun W hW => (s0_any W _ _ _ ((HE.out.below HB5.out).below hW) (by omega)).mono (fun e w' ⟨he, hb⟩ => ⟨he, keepE hW hb⟩))
        have HBx := Lib.hid (Below.refl w5.heap.size w5)
        go_wp2_with (first | (go_at_call 10; refine (HOf.out _ HBx.out).mono ?_; rintro e w7 ⟨rfl, hb⟩; have HBx := Lib.hid hb; clear hb) | (go_at_call 11; refine (HSr.out _ HBx.out).mono ?_; rintro e w8 ⟨rfl, hb⟩; have HBx := Lib.hid hb; clear hb) | (go_at_call 12; refine (HS0.out _ HBx.out).mono ?_; rintro e w9 ⟨rfl, hb⟩; have HBx := Lib.hid hb; clear hb))
        go_ret
        exact ⟨rfl, keepE (keepE HB.out HB5.out) HBx.out⟩
  · have H1 : Hid (¬ n ≤ 11) := Lib.hid h2
    have hd1 : decide ((1 : Int) ≤ n) = true := by simpa using h1
    have hd2 : decide (n ≤ (11 : Int)) = false := by simpa using h2
    have hd3 : (n == 0) = false := by simpa using h3
    clear h1 h2 h3
    go_enter Tryd.func3, Tryd.ntmps3
    go_wp2_with (first | (go_at_call 6; refine HBg.out.mono ?_; rintro e w2 ⟨rfl, hb⟩; have HB2 := Lib.hid hb; clear hb) | (go_at_call 7; refine (code_any _ _).mono ?_; rintro e w3 ⟨rfl, rfl⟩))
    obtain ⟨kb, HE0, HC⟩ : ∃ kb : Option Int, Hid (ErrAt w2 [] kb (.iface 26 (.int .i64 (codeV n)))) ∧ Hid (ofV kb = 2) := ⟨some (codeV n), Lib.hid rfl, Lib.hid (ofV_of n 2 (.inr ⟨by have := H1.out; omega, rfl⟩))⟩
    go_loopw [8, 11, 12, 13, 14, 15] (fun ev sv lv cv pv iv wr => ∃ (i : Nat) (L : List Lay), i ≤ m ∧ i ≤ 10 ∧ iv = .int .i64 i ∧ CI w wr kb i ev sv lv cv pv L) (fun _ _ _ _ _ iv _ => 10 - (intOf iv).toNat)
    case atStart => exact ⟨0, [], Nat.zero_le _, by decide, rfl, HE0.out, Nat.le_refl _, rfl, rfl, rfl, rfl, HB2.out⟩
    case round =>
      obtain ⟨i, L, hi, hi10, rfl, hI⟩ := hrel
      obtain ⟨t, u, rfl⟩ := hI.err.iface
      obtain ⟨hE, hl, rfl, rfl, rfl, rfl, hB⟩ := hI
      have HB := Lib.hid hB
      have HE := Lib.hid hE
      clear hB hE
      by_cases hlt : i < m
      · by_cases hlt10 : i < 10
        · obtain ⟨r, hr⟩ : ∃ r, rs[i]? = some r := ⟨_, List.getElem?_eq_getElem (by rw [HRs.out.1]; exact hlt)⟩
          obtain ⟨x, rfl, hx, hsz, q0, q1, q2, q3⟩ := (HRs.out.below HB.out).2.2.2 i r hr
          have hii : (0 : Int) ≤ (i : Int) := by omega
          have him : (i : Int) < (m : Int) := by omega
          have hi3 : (i : Int) < 10 := by omega
          obtain ⟨rk, rsrc, rl, rc⟩ := r
          dsimp only at hsz q0 q1 q2 q3
          clear hr hx
          by_cases c0 : rk = 0
          · subst c0
            go_wp2
            go_roundw
            case rel => exact ⟨i + 1, .src rsrc :: L, hlt, hlt10, by go_num, ⟨⟨_, _, rfl, new2 _ _ _ _, HE.out.below (bel2 _ _ _)⟩, by simp; omega, rfl, by rw [place_src], by rw [place_src], by rw [place_src], keepE HB.out (bel2 _ _ _)⟩⟩
            case measure => simp [intOf]; omega
          · by_cases c1 : rk = 1
            · subst c1
              go_wp2
              go_region
              go_wp2
              go_roundw
              case rel => exact ⟨i + 1, .txt rl rc :: L, hlt, hlt10, by go_num, ⟨⟨_, _, rfl, new2 _ _ _ _, (HE.out.below (bel2 _ _ _)).below (Below.refl _ _).drew⟩, by simp; omega, rfl, by rw [place_txt], by rw [place_txt], by rw [place_txt], (keepE HB.out (bel2 _ _ _)).drew⟩⟩
              case measure => simp [intOf]; omega
            · by_cases c2 : rk = 2
              · subst c2
                go_wp2
                go_roundw
                case rel => exact ⟨i + 1, .own :: L, hlt, hlt10, by go_num, ⟨⟨_, rfl, HE.out.below (al_bel _ _)⟩, by simp; omega, rfl, by rw [place_own], by rw [place_own], by rw [place_own], keepE HB.out (al_bel _ _)⟩⟩
                case measure => simp [intOf]; omega
              · have hbo := al_bel wr (.cells #[.int .i64 rk, .string rsrc, .int .i64 rl, .int .i64 rc] 31)
                have hc0 := heap_alloc_new wr (.cells #[.int .i64 rk, .string rsrc, .int .i64 rl, .int .i64 rc] 31)
                have HW : Hid (Calls Tryd.prog 8 #[.string rsrc, .iface t u] (wr.alloc (.cells #[.int .i64 rk, .string rsrc, .int .i64 rl, .int .i64 rc] 31)) fun e w' => ∃ b, e = .returned (.iface 32 (.pointer (some ⟨b, 0, none⟩))) ∧ ErrAt w' (.src rsrc :: L) kb (.iface 32 (.pointer (some ⟨b, 0, none⟩))) ∧ Below wr.heap.size wr w' ∧ w'.cell? ⟨wr.heap.size, 1, none⟩ = some (.string rsrc)) := Lib.hid ((wrap_any _ L kb rsrc _ (HE.out.below hbo)).mono (fun e w' ⟨b, he, hE, hb⟩ => ⟨b, he, hE, keepE hbo hb, by have := (hb.block _ (Array.getElem?_eq_some_iff.1 hc0).1).trans hc0; simp [World.cell?, this]⟩))
                clear hbo hc0
                go_wp2_with (go_at_call 8; refine HW.out.mono ?_; rintro e w4 ⟨b, rfl, he, hb, k4⟩; have HE4 := Lib.hid he; have HB4 := Lib.hid hb; clear he hb)
                go_roundw
                case rel => exact ⟨i + 1, .src rsrc :: L, hlt, hlt10, by go_num, ⟨HE4.out, by simp; omega, rfl, by rw [place_src], by rw [place_src], by rw [place_src], keepE HB.out HB4.out⟩⟩
                case measure => simp [intOf]; omega
        · obtain rfl : i = 10 := by omega
          have hend : (10 : Int) < (m : Int) := by omega
          have HPl := Lib.hid (oplc_any wr _ _ _ HE.out (glob_keep HG.out HB.out))
          go_upto_region 32 with (go_at_call 9; refine HPl.out.mono ?_; rintro e w5 ⟨rfl, hb⟩; have HB5 := Lib.hid hb; clear hb)
          have HOf : Hid (∀ W, Below w5.heap.size w5 W → Calls Tryd.prog 10 #[.iface t u] W fun e w' => e = .returned (.int .i64 2) ∧ Below w5.heap.size w5 w') := Lib.hid (fun W hW => by
            have := of_any W _ _ _ ((HE.out.below HB5.out).below hW)
            rw [HC.out] at this
            exact this.mono (fun e w' ⟨he, hb⟩ => ⟨he, keepE hW hb⟩))
          have HSr : Hid (∀ W, Below w5.heap.size w5 W → Calls Tryd.prog 11 #[.iface t u] W fun e w' => e = .returned (.string ((firstS L).getD ⟨#[]⟩)) ∧ Below w5.heap.size w5 w') := Lib.hid (fun W hW => (osrc_any W _ _ _ ((HE.out.below HB5.out).below hW) (glob_keep HG.out (keepE HB.out (keepE HB5.out hW)))).mono (fun e w' ⟨he, hb⟩ => ⟨he, keepE hW hb⟩))
          have HS0 : Hid (∀ W, Below w5.heap.size w5 W → Calls Tryd.prog 12 #[.iface t u] W fun e w' => e = .returned (.string ((firstS L).getD ⟨#[]⟩)) ∧ Below w5.heap.size w5 w') := Lib.hid (fun W hW => (s0_any W _ _ _ ((HE.out.below HB5.out).below hW) (by omega)).mono (fun e w' ⟨he, hb⟩ => ⟨he, keepE hW hb⟩))
          have HBx := Lib.hid (Below.refl w5.heap.size w5)
          go_wp2_with (first | (go_at_call 10; refine (HOf.out _ HBx.out).mono ?_; rintro e w7 ⟨rfl, hb⟩; have HBx := Lib.hid hb; clear hb) | (go_at_call 11; refine (HSr.out _ HBx.out).mono ?_; rintro e w8 ⟨rfl, hb⟩; have HBx := Lib.hid hb; clear hb) | (go_at_call 12; refine (HS0.out _ HBx.out).mono ?_; rintro e w9 ⟨rfl, hb⟩; have HBx := Lib.hid hb; clear hb))
          go_ret
          exact ⟨rfl, keepE (keepE HB.out HB5.out) HBx.out⟩
      · obtain rfl : i = m := by omega
        have HPl := Lib.hid (oplc_any wr _ _ _ HE.out (glob_keep HG.out HB.out))
        go_upto_region 32 with (go_at_call 9; refine HPl.out.mono ?_; rintro e w5 ⟨rfl, hb⟩; have HB5 := Lib.hid hb; clear hb)
        have HOf : Hid (∀ W, Below w5.heap.size w5 W → Calls Tryd.prog 10 #[.iface t u] W fun e w' => e = .returned (.int .i64 2) ∧ Below w5.heap.size w5 w') := Lib.hid (fun W hW => by
          have := of_any W _ _ _ ((HE.out.below HB5.out).below hW)
          rw [HC.out] at this
          exact this.mono (fun e w' ⟨he, hb⟩ => ⟨he, keepE hW hb⟩))
        have HSr : Hid (∀ W, Below w5.heap.size w5 W → Calls Tryd.prog 11 #[.iface t u] W fun e w' => e = .returned (.string ((firstS L).getD ⟨#[]⟩)) ∧ Below w5.heap.size w5 w') := Lib.hid (fun W hW => (osrc_any W _ _ _ ((HE.out.below HB5.out).below hW) (glob_keep HG.out (keepE HB.out (keepE HB5.out hW)))).mono (fun e w' ⟨he, hb⟩ => ⟨he, keepE hW hb⟩))
        have HS0 : Hid (∀ W, Below w5.heap.size w5 W → Calls Tryd.prog 12 #[.iface t u] W fun e w' => e = .returned (.string ((firstS L).getD ⟨#[]⟩)) ∧ Below w5.heap.size w5 w') := Lib.hid (fun W hW => (s0_any W _ _ _ ((HE.out.below HB5.out).below hW) (by omega)).mono (fun e w' ⟨he, hb⟩ => ⟨he, keepE hW hb⟩))
        have HBx := Lib.hid (Below.refl w5.heap.size w5)
        go_wp2_with (first | (go_at_call 10; refine (HOf.out _ HBx.out).mono ?_; rintro e w7 ⟨rfl, hb⟩; have HBx := Lib.hid hb; clear hb) | (go_at_call 11; refine (HSr.out _ HBx.out).mono ?_; rintro e w8 ⟨rfl, hb⟩; have HBx := Lib.hid hb; clear hb) | (go_at_call 12; refine (HS0.out _ HBx.out).mono ?_; rintro e w9 ⟨rfl, hb⟩; have HBx := Lib.hid hb; clear hb))
        go_ret
        exact ⟨rfl, keepE (keepE HB.out HB5.out) HBx.out⟩
end Go.Proofs.YtfpgobbkeocokaaDoor
