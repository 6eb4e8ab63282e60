/- Contracts of Fold, the program's and the document's. -/
import Derived.Test.YtmnahgeledddhaaTr
import Derived.Test.YtmnahgeledddhaaTm
import Derived.LoopTactic
namespace Go.Proofs.Ytmnahgeledddhaa
open Go.RowKit Go.Lib Go.Tx Go.Rb
theorem lowTake_at' (s : ByteArray) (k : Nat) (h : k < s.size) : (lowTake k s.data.toList)[k]? = some s[k] := lowTake_at k s.data.toList h
theorem ret_str {a b : List UInt8} (h : a = b) : Ending.returned (.string ⟨a.toArray⟩) = .returned (.string ⟨b.toArray⟩) := by rw [h]
theorem row_up (s : ByteArray) {wr : World} {b cap k : Nat} {x : Int} (h : k < s.size) (h1 : 65 ≤ (s[k].toNat : Int)) (h2 : (s[k].toNat : Int) ≤ 90) (hx : x = (s[k].toNat : Int) + 32) (hr : RowB 5 wr b cap (lowTake k s.data.toList)) :
    RowB 5 (wr.setCell ⟨b, k, none⟩ (.int .u8 x)) b cap (lowTake (k + 1) s.data.toList) := by
  have e1 : lowTake (k + 1) s.data.toList = (lowTake k s.data.toList).set k (low s[k]) := lowTake_step k s.data.toList h
  rw [e1, hx, ← low_up _ h1 h2]
  exact hr.set (by rw [lowTake_len]; exact h) _
theorem row_skip (s : ByteArray) {wr : World} {b cap k : Nat} (h : k < s.size) (h1 : low s[k] = s[k]) (hr : RowB 5 wr b cap (lowTake k s.data.toList)) : RowB 5 wr b cap (lowTake (k + 1) s.data.toList) := by
  have e1 : lowTake (k + 1) s.data.toList = lowTake k s.data.toList := lowTake_skip k s.data.toList h h1
  rw [e1]; exact hr
theorem row_str (s : ByteArray) {wr : World} {b cap k : Nat} (h : s.size ≤ k) (hr : RowB 5 wr b cap (lowTake k s.data.toList)) (c : Nat) :
    (convert 22 9 (.slice (some ⟨b, 0, none⟩) s.size c)).run Try.prog wr = .ok (.string ⟨(s.data.toList.map low).toArray⟩) wr := by
  have := hr.str (P := Try.prog) (src := 22) (dst := 9) c Try.underlying22 Try.underlying5 Try.underlying9
  rw [lowTake_all k _ h] at this
  have hl : (s.data.toList.map low).length = s.size := by simp
  rw [hl] at this
  exact this
set_option maxHeartbeats 1000000 in
set_option maxRecDepth 100000 in
theorem fold_any (s : ByteArray) (w : World) (hs : s.size ≤ maxLen) :
    Calls Try.prog 28 #[.string s] w fun e w' => e = .returned (.string ⟨(s.data.toList.map low).toArray⟩) ∧ Below w.heap.size w w' := by
  unfold maxLen at hs
  obtain ⟨cap, o, hconv, hcap, hrow⟩ := RowB.made (P := Try.prog) s w Try.underlying9 Try.underlying22 Try.underlying5
  have HR := Lib.hid hrow
  clear hrow
  go_enter Try.func28, Try.ntmps28
  go_wp2
  go_loopw [10] (fun i wr => ∃ k : Nat, k ≤ s.size ∧ i = .int .i64 k ∧ RowB 5 wr w.heap.size cap (lowTake k s.data.toList) ∧ Below w.heap.size w wr) (fun i _ => s.size - (intOf i).toNat)
  case atStart => exact ⟨0, Nat.zero_le _, rfl, by rw [lowTake_zero]; exact HR.out.drew, ((Below.refl _ _).alloc (Nat.le_refl _) _).drew⟩
  case round =>
    obtain ⟨k, hk, rfl, hrow, hbel⟩ := hrel
    by_cases hlt : k < s.size
    · have hcell := hrow.cell (lowTake_at' s k hlt)
      have hfz := hrow.frozen (j := k) (by omega)
      have HR1 := Lib.hid hrow
      clear hrow
      go_wp2
      all_goals
        go_roundw
        case rel => exact ⟨k + 1, by omega, by go_num, by first | exact row_up s hlt (by assumption) (by assumption) (by omega) HR1.out | exact row_skip s hlt (low_hi _ (by omega)) HR1.out | exact row_skip s hlt (low_lo _ (by omega)) HR1.out, by first | exact hbel | exact hbel.setCell (Nat.le_refl _) _⟩
        case measure => simp [intOf]; omega
    · have hback := row_str s (by omega) hrow cap
      clear hrow
      go_wp2
      go_ret
      exact ⟨rfl, hbel⟩
set_option maxHeartbeats 1000000 in
set_option maxRecDepth 100000 in
theorem rfold_any (s : ByteArray) (w : World) (hs : s.size ≤ maxLen) :
    Calls Try.prog 27 #[.string s] w fun e w' => e = .returned (.string ⟨(s.data.toList.map low).toArray⟩) ∧ Below w.heap.size w w' := by
  unfold maxLen at hs
  obtain ⟨cap, o, hconv, hcap, hrow⟩ := RowB.made (P := Try.prog) s w Try.underlying9 Try.underlying22 Try.underlying5
  have HR := Lib.hid hrow
  clear hrow
  go_enter Try.func27, Try.ntmps27
  go_wp2
  go_loopw [4] (fun i wr => ∃ k : Nat, k ≤ s.size ∧ i = .int .i64 k ∧ RowB 5 wr w.heap.size cap (lowTake k s.data.toList) ∧ Below w.heap.size w wr) (fun i _ => s.size - (intOf i).toNat)
  case atStart => exact ⟨0, Nat.zero_le _, rfl, by rw [lowTake_zero]; exact HR.out.drew, ((Below.refl _ _).alloc (Nat.le_refl _) _).drew⟩
  case round =>
    obtain ⟨k, hk, rfl, hrow, hbel⟩ := hrel
    by_cases hlt : k < s.size
    · have hcell := hrow.cell (lowTake_at' s k hlt)
      have hfz := hrow.frozen (j := k) (by omega)
      have HR1 := Lib.hid hrow
      clear hrow
      go_wp2
      all_goals
        go_roundw
        case rel => exact ⟨k + 1, by omega, by go_num, by first | exact row_up s hlt (by assumption) (by assumption) (by omega) HR1.out | exact row_skip s hlt (low_hi _ (by omega)) HR1.out | exact row_skip s hlt (low_lo _ (by omega)) HR1.out, by first | exact hbel | exact hbel.setCell (Nat.le_refl _) _⟩
        case measure => simp [intOf]; omega
    · have hback := row_str s (by omega) hrow cap
      clear hrow
      go_wp2
      go_ret
      exact ⟨rfl, hbel⟩
end Go.Proofs.Ytmnahgeledddhaa
