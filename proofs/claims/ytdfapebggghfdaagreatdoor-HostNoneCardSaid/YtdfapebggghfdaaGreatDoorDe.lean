/- Contract of the document's number in decimal. -/
import Derived.Test.YtdfapebggghfdaaGreatDoorFo
namespace Go.Tx
/-- Digits before a text, until nothing is left of the number. -/
def decG (k : Nat) (s : List UInt8) : List UInt8 :=
  if h : k = 0 then (if s = [] then [48] else s) else decG (k / 10) (UInt8.ofNat (48 + k % 10) :: s)
termination_by k
decreasing_by omega
theorem decG_zero (s : List UInt8) (h : ¬ s = []) : decG 0 s = s := by unfold decG; simp [h]
theorem decG_pos {k : Nat} (s : List UInt8) (h : 0 < k) : decG k s = decG (k / 10) (UInt8.ofNat (48 + k % 10) :: s) := by
  rw [decG, dif_neg (by omega)]
theorem decG_nil : decG 0 [] = decG (0 / 10) (UInt8.ofNat (48 + 0 % 10) :: []) := by
  show decG 0 [] = decG 0 [48]
  rw [decG_zero [48] (by simp)]
  unfold decG; simp
def emptyN : Value → Nat
  | .string s => 1 - s.size
  | _ => 0
end Go.Tx
namespace Go.Proofs.YtdfapebggghfdaaGreatDoor
open Go.RowKit Go.Lib Go.Tx
theorem toList_data (s : ByteArray) : s.toList = s.data.toList := by
  exact Go.Lib.toList_data s
theorem byte_str (w : World) (c : UInt8) : (convert 22 9 (.slice (some ⟨w.heap.size, 0, none⟩) 1 1)).run Tryz.prog (w.alloc (.cells #[.int .u8 (c.toNat : Int)] 5)) = .ok (.string ⟨#[c]⟩) (w.alloc (.cells #[.int .u8 (c.toNat : Int)] 5)) := by
  have := run_convert_bytes_back (P := Tryz.prog) (w.alloc (.cells #[.int .u8 (c.toNat : Int)] 5)) 22 9 5 ⟨w.heap.size, 0, none⟩ 1 [c] Tryz.underlying22 Tryz.underlying5 Tryz.underlying9 (fun j hj => by
    have ha : (⟨w.heap.size, 0, none⟩ : Addr).add j = ⟨w.heap.size, j, none⟩ := by unfold Addr.add; split <;> simp_all
    rw [ha, World.cell?_alloc_new]
    have : j = 0 := by simpa using hj
    subst this
    rfl)
  exact this
def TextR (w : World) (l : List UInt8) (e : Ending) (w' : World) : Prop := e = .returned (.string ⟨l.toArray⟩) ∧ Below w.heap.size w w'
set_option maxHeartbeats 2000000 in
set_option maxRecDepth 100000 in
theorem dec_any (n : Nat) (w : World) (hn : n ≤ 1000000000000) :
    Calls Tryz.prog 18 #[.int .i64 (n : Int)] w (TextR w (decG n [])) := by
  go_enter Tryz.func18, Tryz.ntmps18
  go_wp2
  go_loopw [3, 4] (fun sv kv wr => ∃ (k : Nat) (s : ByteArray), k ≤ n ∧ kv = .int .i64 (k : Nat) ∧ sv = .string s ∧ Hid (decG n [] = decG k s.data.toList) ∧ s.size + k ≤ n + 1 ∧ Below w.heap.size w wr) (fun sv kv _ => (intOf kv).toNat + emptyN sv)
  case atStart => exact ⟨n, ⟨#[]⟩, Nat.le_refl _, rfl, rfl, Lib.hid rfl, by show 0 + n ≤ n + 1; omega, Below.refl _ _⟩
  case round =>
    obtain ⟨k, s, hk, rfl, rfl, hI, hsz, hb⟩ := hrel
    by_cases h0 : k = 0
    · subst h0
      by_cases hl : s.data.toList = []
      · have e1 : s = ⟨#[]⟩ := by
          apply ByteArray.ext; apply Array.ext'; exact hl
        subst e1
        clear hl
        have hbs := byte_str wr 48
        rw [show ((48 : UInt8).toNat : Int) = 48 from rfl] at hbs
        go_wp2
        go_roundw
        case rel => exact ⟨0, ⟨#[48]⟩, Nat.zero_le _, by go_num, rfl, Lib.hid (by rw [hI.out]; exact decG_nil), by show 1 + 0 ≤ n + 1; omega, hb.alloc hb.size _⟩
        case measure => simp [intOf, emptyN]; decide
      · have HL := Lib.hid hl
        have e1 : ¬ s.toList = [] := by rw [toList_data]; exact hl
        have e2 : s.toList.isEmpty = false := by cases hh : s.toList with | nil => exact absurd hh e1 | cons x y => rfl
        clear hl
        go_wp2
        go_ret
        exact ⟨by rw [hI.out, decG_zero _ HL.out]; rfl, hb⟩
    · have hp : 0 < k := by omega
      clear h0
      have hbs := byte_str wr (UInt8.ofNat (48 + k % 10))
      have hdig : ((UInt8.ofNat (48 + k % 10)).toNat : Int) = 48 + (k : Int) % 10 := by simp; omega
      rw [hdig] at hbs
      go_wp2
      go_roundw
      case rel => exact ⟨k / 10, ⟨#[48 + UInt8.ofNat (k % 10)]⟩ ++ s, Nat.le_trans (Nat.div_le_self _ _) hk, by go_num, rfl, Lib.hid (by rw [hI.out, decG_pos _ hp]; simp), by rw [ByteArray.size_append]; show 1 + s.size + k / 10 ≤ n + 1; omega, hb.alloc hb.size _⟩
      case measure => simp [intOf, emptyN]; omega
end Go.Proofs.YtdfapebggghfdaaGreatDoor
