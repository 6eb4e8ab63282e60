/- Contracts: equal texts; bytes that are not too many. -/
import Derived.Test.YtmnahgeledddhaaRl
namespace Go.Tx
open Go.RowKit
end Go.Tx
namespace Go.Proofs.Ytmnahgeledddhaa
open Go.RowKit Go.Lib Go.Tx Go.Proofs
set_option maxHeartbeats 1000000 in
set_option maxRecDepth 100000 in
theorem eqtexts_any (v1 v2 : Value) (ws : List (List UInt8)) (B1 B2 : Nat) (w : World) (h1 : StrC B1 w v1 ws) (h2 : StrC B2 w v2 ws) :
    Calls Try.prog 16 #[v1, v2] w fun e w' => e = .returned (.bool true) ∧ ∃ q, w' = w.drewN q := by
  obtain ⟨p1, c1, rfl, hc1, hm1, hr1⟩ := h1.read
  obtain ⟨p2, c2, rfl, hc2, hm2, hr2⟩ := h2.read
  have H1 := Lib.hid hr1
  have H2 := Lib.hid hr2
  obtain ⟨n, hn⟩ : ∃ n, ws.length = n := ⟨_, rfl⟩
  rw [hn] at hc1 hc2 ⊢
  have HN := Lib.hid hn
  clear hr1 hr2 h1 h2 hn
  go_enter Try.func16, Try.ntmps16
  go_wp2
  go_loopw [5] (fun i wr => ∃ k q, k ≤ n ∧ i = .int .i64 (k : Nat) ∧ wr = w.drewN q) (fun i _ => n - (intOf i).toNat)
  case atStart => exact ⟨0, 0, Nat.zero_le _, rfl, rfl⟩
  case round =>
    obtain ⟨k, q, hk, rfl, rfl⟩ := hrel
    by_cases hlt : k < n
    · obtain ⟨l, hl⟩ : ∃ l, ws[k]? = some l := ⟨_, List.getElem?_eq_getElem (by rw [HN.out]; exact hlt)⟩
      obtain ⟨g1, rfl, -, hcell1⟩ := H1.out k l hl
      obtain ⟨g2, rfl, -, hcell2⟩ := H2.out k l hl
      clear hl
      go_wp2
      go_quiet (fail)
      go_wp2
      go_roundw
      case rel => exact ⟨k + 1, _, hlt, by go_num, rfl⟩
      case measure => simp [intOf]; omega
    · go_wp2
      go_ret
      exact ⟨rfl, q, rfl⟩
theorem short_le (a : Option Addr) (n c m : Nat) (w : World) (hc : n ≤ c) (hm : c ≤ 9223372036854775807) (h : n ≤ m) :
    Calls Try.prog 7 #[.slice a n c, .int .i64 m] w fun e w' => e = .returned (.slice a n c) ∧ w = w' := by
  go_enter Try.func7, Try.ntmps7
  go_wp2
  go_ret
  exact ⟨rfl, rfl⟩
theorem short_gt (a : Option Addr) (n c m : Nat) (w : World) (hc : n ≤ c) (hm : c ≤ 9223372036854775807) (h : m < n) :
    Calls Try.prog 7 #[.slice a n c, .int .i64 m] w fun e w' => e = .returned (.slice a m c) ∧ w = w' := by
  go_enter Try.func7, Try.ntmps7
  go_wp2
  go_ret
  exact ⟨rfl, rfl⟩
end Go.Proofs.Ytmnahgeledddhaa
