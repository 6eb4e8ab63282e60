/- The walk of the law ServiceFirst. -/
import Derived.Test.YtmnahgeledddhaaVj
import Derived.Test.YtmnahgeledddhaaRp
namespace Go.Proofs.Ytmnahgeledddhaa
open Go.RowKit
open Go.Tx Go.Lib
theorem _root_.Go.Tx.BA.heap {w w' : World} {a : Option Addr} {n c : Nat} {l : List UInt8} (h : BA w a n c l) (e : w'.heap = w.heap) : BA w' a n c l :=
  ⟨h.len, h.cap, h.max, h.none, fun x hx j b hj => by rw [World.cell?_of_block (w := w) (by rw [e])]; exact h.cell x hx j b hj⟩
def textS (x y : UInt8) : List UInt8 := [115, 32] ++ [x] ++ [47, 116, 99, 112, 10, 115, 32] ++ [y] ++ [47, 117, 100, 112, 32, 117, 10]
theorem plainS : ∀ a : Fin 10, ∀ b : Fin 10, 1 ≤ a.1 → 1 ≤ b.1 →
    let R := svcsOf (toldG 1 [] (textS (UInt8.ofNat (48 + a.1)) (UInt8.ofNat (48 + b.1))));
    svcN R [115] [] = some (a.1 : Int) ∧ svcN R [115] [85, 68, 80] = some (b.1 : Int) ∧ svcN R [117] [116, 99, 112] = none ∧ svcP R (b.1 : Int) [117, 100, 112] = some [[115], [117]] ∧ svcN R [83] [] = none := by decide +kernel
set_option maxRecDepth 100000 in
theorem digit_any (k : Nat) (h1 : 1 ≤ k) (h9 : k ≤ 9) (w : World) :
    Calls Try.prog 17 #[.int .i64 (k : Int)] w fun e w' => e = .returned (.string ⟨#[UInt8.ofNat (48 + k)]⟩) ∧ Below w.heap.size w w' := by
  have hc := byte_str w (UInt8.ofNat (48 + k))
  have e : ((UInt8.ofNat (48 + k)).toNat : Int) = 48 + (k : Int) := by rw [UInt8.toNat_ofNat_of_lt' (by show 48 + k < 256; omega)]; omega
  rw [e] at hc
  clear e
  generalize UInt8.ofNat (48 + k) = x at *
  go_enter Try.func17, Try.ntmps17
  go_wp2
  go_ret
  exact ⟨rfl, (Below.refl _ w).alloc (Nat.le_refl _) _⟩
set_option maxHeartbeats 2000000 in
set_option maxRecDepth 100000 in
theorem serviceFirst_walk (a0 a1 : Int) (W : World) :
    Calls Try.prog 5 #[.int .i64 a0, .int .i64 a1] W fun e w' => e = .returned (.bool true) ∧ Below W.heap.size W w' := by
  have HB := Lib.hid (begun_any W)
  by_cases hin : (1 ≤ a0 ∧ a0 ≤ 9) ∧ (1 ≤ a1 ∧ a1 ≤ 9)
  · obtain ⟨⟨q1, q2⟩, q3, q4⟩ := hin
    obtain ⟨n, rfl⟩ : ∃ n : Nat, a0 = n := ⟨a0.toNat, by omega⟩
    obtain ⟨m, rfl⟩ : ∃ m : Nat, a1 = m := ⟨a1.toNat, by omega⟩
    obtain ⟨p1, p2, p3, p4, p5⟩ := plainS ⟨n, by omega⟩ ⟨m, by omega⟩ (by show 1 ≤ n; omega) (by show 1 ≤ m; omega)
    simp only at p1 p2 p3 p4 p5
    have HD : Hid (∀ w (k : Nat) (x : UInt8), (k = n ∧ x = UInt8.ofNat (48 + n)) ∨ (k = m ∧ x = UInt8.ofNat (48 + m)) → Calls Try.prog 17 #[.int .i64 (k : Int)] w fun e w' => e = .returned (.string ⟨#[x]⟩) ∧ Below w.heap.size w w') := Lib.hid (fun w k x h => by
      rcases h with ⟨rfl, rfl⟩ | ⟨rfl, rfl⟩
      · exact digit_any k (by omega) (by omega) w
      · exact digit_any k (by omega) (by omega) w)
    obtain ⟨x, hx⟩ : ∃ x, UInt8.ofNat (48 + n) = x := ⟨_, rfl⟩
    obtain ⟨y, hy⟩ : ∃ y, UInt8.ofNat (48 + m) = y := ⟨_, rfl⟩
    rw [hx, hy] at p1 p2 p3 p4 p5 HD
    clear hx hy
    obtain ⟨S, hS⟩ : ∃ S : ByteArray, (⟨#[115, 32]⟩ : ByteArray) ++ ⟨#[x]⟩ ++ ⟨#[47, 116, 99, 112, 10, 115, 32]⟩ ++ ⟨#[y]⟩ ++ ⟨#[47, 117, 100, 112, 32, 117, 10]⟩ = S := ⟨_, rfl⟩
    have hSd : S.data.toList = textS x y := by rw [← hS]; unfold textS; simp
    have hSz : S.size = 18 := by
      have : S.data.toList.length = S.size := rfl
      rw [← this, hSd]; rfl
    rw [← hSd] at p1 p2 p3 p4 p5
    obtain ⟨R, hR⟩ : ∃ R, svcsOf (toldG 1 [] S.data.toList) = R := ⟨_, rfl⟩
    rw [hR] at p1 p2 p3 p4 p5
    have HP : Hid (∀ w, ∃ cap w', (convert 9 22 (.string S)).run Try.prog w = .ok (.slice (some ⟨w.heap.size, 0, none⟩) 18 cap) w' ∧ Below w.heap.size w w' ∧ Calls Try.prog 9 #[.slice (some ⟨w.heap.size, 0, none⟩) 18 cap] w' fun e w2 => ∃ p, e = .returned (.pointer (some ⟨p, 0, none⟩)) ∧ Tab w'.heap.size w2 p R ∧ Below w'.heap.size w' w2) := Lib.hid (fun w => by
      obtain ⟨cap, o, hconv, hcp, hcm, hrow⟩ := row_made (P := Try.prog) (src := 9) (dst := 22) S w (by rw [hSz]; decide) Try.underlying9 Try.underlying22 Try.underlying5
      rw [hSz] at hconv
      have hba : BA (w.drew.alloc o) (some ⟨w.heap.size, 0, none⟩) 18 cap S.data.toList := by
        have := (ba_row hrow hcm).heap (w' := w.drew.alloc o) rfl
        have hl : S.data.toList.length = 18 := hSz
        rw [hl] at this
        exact this
      have := parse_any _ _ _ _ (w.drew.alloc o) hba (fun x hx => by cases hx; show w.heap.size < (Array.push _ _).size; simp) (by decide)
      rw [hR] at this
      exact ⟨cap, _, hconv, ((Below.refl _ w).drew).alloc (Nat.le_refl _) o, this⟩)
    have HN : Hid (∀ W p (s t : ByteArray) (r : Int) (b : Bool), Tab W.heap.size W p R ∨ (∃ B, Tab B W p R) → t.size ≤ maxLen → (svcN R s.data.toList t.data.toList).getD 0 = r → (svcN R s.data.toList t.data.toList).isSome = b → Calls Try.prog 12 #[.pointer (some ⟨p, 0, none⟩), .string s, .string t] W fun e w' => e = .returned (.tuple #[.int .i64 r, .bool b]) ∧ Below W.heap.size W w') := Lib.hid (fun W p s t r b hT ht h1 h2 => by
      subst h1; subst h2
      rcases hT with hT | ⟨B, hT⟩
      · exact byName_any s t W hT ht
      · exact byName_any s t W hT ht)
    have HA : Hid (∀ W p B, Tab B W p R → Calls Try.prog 14 #[.pointer (some ⟨p, 0, none⟩), .int .i64 (m : Int), .string ⟨#[117, 100, 112]⟩] W fun e w' => (∃ q c, e = .returned (.tuple #[.slice q 2 c, .bool true])) ∧ Below W.heap.size W w') := Lib.hid (fun W p B hT => by
      have e3 : svcP R (m : Int) (ByteArray.data ⟨#[117, 100, 112]⟩).toList = some [[115], [117]] := p4
      have := byPort_any (m : Int) ⟨#[117, 100, 112]⟩ W hT (by decide) (by rw [e3]; decide)
      rw [e3] at this
      refine this.mono ?_
      rintro e w' ⟨v, rfl, hv, hb⟩
      obtain ⟨q, c, rfl⟩ := StrC.shape hv
      exact ⟨⟨q, c, rfl⟩, hb⟩)
    have P1 : Hid ((svcN R (ByteArray.data ⟨#[115]⟩).toList (ByteArray.data ⟨#[]⟩).toList) = some (n : Int)) := Lib.hid p1
    have P2 : Hid ((svcN R (ByteArray.data ⟨#[115]⟩).toList (ByteArray.data ⟨#[85, 68, 80]⟩).toList) = some (m : Int)) := Lib.hid p2
    have P3 : Hid ((svcN R (ByteArray.data ⟨#[117]⟩).toList (ByteArray.data ⟨#[116, 99, 112]⟩).toList) = none) := Lib.hid p3
    have P5 : Hid ((svcN R (ByteArray.data ⟨#[83]⟩).toList (ByteArray.data ⟨#[]⟩).toList) = none) := Lib.hid p5
    have HS := Lib.hid hS
    clear p1 p2 p3 p4 p5 hS hSd hSz hR
    have HN1 : Hid (∀ W p (t : ByteArray) (r : Int) B, Tab B W p R → (t = ⟨#[]⟩ ∧ r = (n : Int)) ∨ (t = ⟨#[85, 68, 80]⟩ ∧ r = (m : Int)) → Calls Try.prog 12 #[.pointer (some ⟨p, 0, none⟩), .string ⟨#[115]⟩, .string t] W fun e w' => e = .returned (.tuple #[.int .i64 r, .bool true]) ∧ Below W.heap.size W w') := Lib.hid (fun W p t r B hT h => by
      rcases h with ⟨rfl, rfl⟩ | ⟨rfl, rfl⟩
      · exact HN.out W p _ _ _ _ (.inr ⟨B, hT⟩) (by decide) (by rw [P1.out]; rfl) (by rw [P1.out]; rfl)
      · exact HN.out W p _ _ _ _ (.inr ⟨B, hT⟩) (by decide) (by rw [P2.out]; rfl) (by rw [P2.out]; rfl))
    have HN2 : Hid (∀ W p (s t : ByteArray) B, Tab B W p R → (s = ⟨#[117]⟩ ∧ t = ⟨#[116, 99, 112]⟩) ∨ (s = ⟨#[83]⟩ ∧ t = ⟨#[]⟩) → Calls Try.prog 12 #[.pointer (some ⟨p, 0, none⟩), .string s, .string t] W fun e w' => e = .returned (.tuple #[.int .i64 0, .bool false]) ∧ Below W.heap.size W w') := Lib.hid (fun W p s t B hT h => by
      rcases h with ⟨rfl, rfl⟩ | ⟨rfl, rfl⟩
      · exact HN.out W p _ _ _ _ (.inr ⟨B, hT⟩) (by decide) (by rw [P3.out]; rfl) (by rw [P3.out]; rfl)
      · exact HN.out W p _ _ _ _ (.inr ⟨B, hT⟩) (by decide) (by rw [P5.out]; rfl) (by rw [P5.out]; rfl))
    clear HN P1 P2 P3 P5
    go_enter Try.func5, Try.ntmps5
    go_upto_region 8 with (first | (go_at_call 6; refine HB.out.mono ?_; rintro e w2 ⟨rfl, hb⟩; have HW := Lib.hid hb; clear hb) | (go_at_call 17; refine (HD.out _ _ _ (by first | exact .inl ⟨rfl, rfl⟩ | exact .inr ⟨rfl, rfl⟩)).mono ?_; rintro e w3 ⟨rfl, hb3⟩; have HW := Lib.hid (HW.out.trans (hb3.mono HW.out.size)); clear hb3; obtain ⟨cap, w4, hconv, hb4, hpc⟩ := HP.out w3; have hS := HS.out; have HC := Lib.hid hpc; have HB4 := Lib.hid hb4; clear hpc hb4) | (go_at_call 9; refine HC.out.mono ?_; rintro e w5 ⟨p, rfl, hT, hb5⟩; have HT := Lib.hid hT; have HW := Lib.hid (HW.out.trans (HB4.out.mono HW.out.size)); have HW := Lib.hid (HW.out.trans (hb5.mono HW.out.size)); clear hT hb5))
    go_wp2_with (first | (go_at_call 12; with_reducible refine (HN1.out _ _ _ _ _ HT.out (by first | exact .inl ⟨rfl, rfl⟩ | exact .inr ⟨rfl, rfl⟩)).mono ?_; rintro e w6 ⟨rfl, hb6⟩; have HT := Lib.hid (HT.out.below hb6); have HW := Lib.hid (HW.out.trans (hb6.mono HW.out.size)); clear hb6) | (go_at_call 12; with_reducible refine (HN2.out _ _ _ _ _ HT.out (by first | exact .inl ⟨rfl, rfl⟩ | exact .inr ⟨rfl, rfl⟩)).mono ?_; rintro e w6 ⟨rfl, hb6⟩; have HT := Lib.hid (HT.out.below hb6); have HW := Lib.hid (HW.out.trans (hb6.mono HW.out.size)); clear hb6) | (go_at_call 14; refine (HA.out _ _ _ HT.out).mono ?_; rintro e w6 ⟨⟨q, c, rfl⟩, hb6⟩; have HT := Lib.hid (HT.out.below hb6); have HW := Lib.hid (HW.out.trans (hb6.mono HW.out.size)); clear hb6))
    go_ret
    exact ⟨by simp, HW.out⟩
  · have hout : a0 < 1 ∨ 9 < a0 ∨ a1 < 1 ∨ 9 < a1 := by omega
    by_cases h1 : a0 < 1
    · clear hin hout
      go_enter Try.func5, Try.ntmps5
      go_wp2_with (go_at_call 6; refine HB.out.mono ?_; rintro e w2 ⟨rfl, hb⟩)
      go_ret
      exact ⟨rfl, hb⟩
    · by_cases h2 : 9 < a0
      · clear hin hout
        go_enter Try.func5, Try.ntmps5
        go_wp2_with (go_at_call 6; refine HB.out.mono ?_; rintro e w2 ⟨rfl, hb⟩)
        go_ret
        exact ⟨rfl, hb⟩
      · by_cases h3 : a1 < 1
        · clear hin hout
          go_enter Try.func5, Try.ntmps5
          go_wp2_with (go_at_call 6; refine HB.out.mono ?_; rintro e w2 ⟨rfl, hb⟩)
          go_ret
          exact ⟨rfl, hb⟩
        · have h4 : 9 < a1 := by omega
          clear hin hout
          go_enter Try.func5, Try.ntmps5
          go_wp2_with (go_at_call 6; refine HB.out.mono ?_; rintro e w2 ⟨rfl, hb⟩)
          go_ret
          exact ⟨rfl, hb⟩
end Go.Proofs.Ytmnahgeledddhaa
