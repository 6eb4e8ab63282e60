/- Contracts of the names' functions: Candidates at a rooted name; texts cut short. -/
import Derived.Test.YtjlaiimcbkbciaaDoorCb
import Derived.Test.YtjlaiimcbkbciaaDoorDb
namespace Go.Proofs.YtjlaiimcbkbciaaDoor
open Go.RowKit Go.Lib Go.Tx
theorem cut_short (s : ByteArray) (n : Nat) (w : World) (h : s.size ≤ n) (hn : n ≤ 1000000) :
    Calls Tryd.prog 8 #[.string s, .int .i64 n] w fun e w' => e = .returned (.string s) ∧ w' = w := by
  have h1 : ¬ (n : Int) < (s.size : Int) := by omega
  go_enter Tryd.func8, Tryd.ntmps8
  go_wp2
  all_goals (go_ret; exact ⟨rfl, rfl⟩)
theorem cut_long (s : ByteArray) (n : Nat) (w : World) (h : n < s.size) (hn : n ≤ 1000000) :
    Calls Tryd.prog 8 #[.string s, .int .i64 n] w fun e w' => e = .returned (.string (s.extract 0 n)) ∧ w' = w := by
  have h1 : (n : Int) < (s.size : Int) := by omega
  go_enter Tryd.func8, Tryd.ntmps8
  go_wp2
  all_goals (go_ret; exact ⟨rfl, rfl⟩)
/-- A text cut to n bytes. -/
def cutB (s : ByteArray) (n : Nat) : ByteArray := if s.size ≤ n then s else s.extract 0 n
theorem cutB_size (s : ByteArray) (n : Nat) : (cutB s n).size ≤ n := by
  unfold cutB
  split
  · assumption
  · rw [ByteArray.size_extract]; omega
theorem cut_any (s : ByteArray) (n : Nat) (w : World) (hn : n ≤ 1000000) :
    Calls Tryd.prog 8 #[.string s, .int .i64 n] w fun e w' => e = .returned (.string (cutB s n)) ∧ w' = w := by
  unfold cutB
  split
  · exact cut_short s n w (by assumption) hn
  · exact cut_long s n w (by omega) hn
set_option maxHeartbeats 1000000 in
theorem cands_rooted (s n : ByteArray) (q d : Value) (w : World) (hs : s.size ≤ maxLen) (hm : MaxAt w) (hc : cleanV s.data.toList = .tuple #[.string n, .bool true, .bool true]) :
    Calls Tryd.prog 10 #[.string s, q, d] w fun e w' => ∃ g, e = .returned (.slice (some ⟨g, 0, none⟩) 1 1) ∧ w'.cell? ⟨g, 0, none⟩ = some (.string n) ∧ Below w.heap.size w w' := by
  have HC := Lib.hid (clean_any s w hs hm)
  rw [hc] at HC
  clear hc
  go_enter Tryd.func10, Tryd.ntmps10
  go_wp2_with (go_at_call 13; refine HC.out.mono ?_; rintro e w2 ⟨rfl, hb⟩)
  go_ret
  exact ⟨w2.heap.size, rfl, by rw [World.cell?_alloc_new]; rfl, hb.alloc hb.size _⟩
end Go.Proofs.YtjlaiimcbkbciaaDoor
