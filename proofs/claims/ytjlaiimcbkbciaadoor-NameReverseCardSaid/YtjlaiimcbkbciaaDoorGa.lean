/- Contracts: the bytes of a text, the last first. -/
import Derived.Test.YtjlaiimcbkbciaaDoorChecked
import Derived.Test.YtjlaiimcbkbciaaDoorTr
import Derived.Shelf.SlicesE.Reverse
import Derived.WalkKit
import Derived.LoopTactic
namespace Go.Proofs.YtjlaiimcbkbciaaDoor
open Go.RowKit Go.Lib Go.Rb Go.Sort
theorem revLay : SlLaysE.n35 Tryd.prog ⟨fun | 35 => 36 | n => n, fun | 22 => 42 | 23 => 5 | n => n, fun n => n⟩ where
  mixed := by kernel_rfl
  f35 := ⟨"slices.Reverse[[]byte,byte]", by decide, Tryd.func36.trans (congrArg some (by kernel_rfl))⟩
  t0 := Tryd.underlying0
  a0 := Tryd.isAgg0
  z0 := Tryd.sizeOf0
  v0 := Tryd.zeroValue0
  t3 := Tryd.underlying3
  a3 := Tryd.isAgg3
  z3 := Tryd.sizeOf3
  v3 := Tryd.zeroValue3
  t4 := Tryd.underlying4
  a4 := Tryd.isAgg4
  z4 := Tryd.sizeOf4
  v4 := Tryd.zeroValue4
  t22 := Tryd.underlying42
  a22 := Tryd.isAgg42
  z22 := Tryd.sizeOf42
  v22 := Tryd.zeroValue42
  a23 := Tryd.isAgg5
  z23 := Tryd.sizeOf5
def encB (c : UInt8) : Value := .int .u8 (c.toNat : Int)
theorem below_putRow {α : Type} [Inhabited α] (enc : α → Value) {B : Nat} (w : World) (n blk off : Nat) (d : Array α) (h : B ≤ blk) : Below B w (putRow enc (Sort.ahead w n) blk off d) := by
  refine ⟨rfl, rfl, rfl, by rw [size_putRow]; exact Nat.le_refl _, fun k hk => ?_⟩
  show (w.heap.modify blk _)[k]? = w.heap[k]?
  rw [Array.getElem?_modify, if_neg (by omega)]
theorem holds_row {w : World} {b cap : Nat} {l : List UInt8} (h : RowB 5 w b cap l) : Holds encB w b 0 l.toArray := fun j hj => by
  have hj' : j < l.length := by simpa using hj
  have hcap : l.length ≤ cap := by obtain ⟨_, _, _, _, _, _, h, _⟩ := h; exact h
  rw [Nat.zero_add]
  refine ⟨?_, h.frozen (by omega)⟩
  rw [h.cell (List.getElem?_eq_getElem hj')]
  simp [encB, hj']
theorem reverse_any (b cap n : Nat) (l : List UInt8) (w : World) (hn : l.length = n) (h : RowB 5 w b cap l) (hl : n ≤ 9223372036854775807) :
    Calls Tryd.prog 36 #[.slice (some ⟨b, 0, none⟩) n cap] w fun e w' => e = .returned (.tuple #[]) ∧ (∀ (j : Nat) (c : UInt8), l.reverse[j]? = some c → w'.cell? ⟨b, j, none⟩ = some (.int .u8 (c.toNat : Int))) ∧ Below b w w' := by
  subst hn
  have hh := holds_row h
  refine (AnyE.slices_Reverse revLay encB (fun _ => rfl) b 0 cap l w hh hl).mono fun e w' ⟨h1, m, h2⟩ => ?_
  subst h2
  refine ⟨h1, fun j c hj => ?_, below_putRow encB w m b 0 _ (Nat.le_refl _)⟩
  have hjl : j < l.reverse.length := (List.getElem?_eq_some_iff.1 hj).1
  have hp := (holds_putRow encB (Sort.ahead w m) b 0 l.toArray l.reverse.toArray hh (by simp)) j (by simpa using hjl)
  rw [Nat.zero_add] at hp
  rw [hp.1]
  rw [List.getElem?_eq_getElem hjl] at hj
  cases hj
  have e1 : l.reverse.toArray[j]! = l.reverse[j] := by rw [getElem!_pos _ j (by simpa using hjl)]; simp
  rw [e1]
  rfl
set_option maxHeartbeats 1000000 in
theorem lastFirst_any (s : ByteArray) (w : World) (hs : s.size ≤ 1000000) : Calls Tryd.prog 22 #[.string s] w fun e w' => e = .returned (.string ⟨s.data.toList.reverse.toArray⟩) ∧ Below w.heap.size w w' := by
  obtain ⟨cap, o, hconv, hcap, hrow⟩ := RowB.made (P := Tryd.prog) s w Tryd.underlying9 Tryd.underlying42 Tryd.underlying5
  have hr2 : RowB 5 (w.drew.alloc o) w.heap.size cap s.data.toList := hrow
  have HA := Lib.hid (reverse_any w.heap.size cap s.size s.data.toList (w.drew.alloc o) rfl hr2 (by omega))
  have HB : Hid (∀ wz : World, (∀ (j : Nat) (c : UInt8), s.data.toList.reverse[j]? = some c → wz.cell? ⟨w.heap.size, j, none⟩ = some (.int .u8 (c.toNat : Int))) → (convert 42 9 (.slice (some ⟨w.heap.size, 0, none⟩) s.size cap)).run Tryd.prog wz = .ok (.string ⟨s.data.toList.reverse.toArray⟩) wz) := Lib.hid (fun wz hz => by
    have hc := run_convert_bytes_back (P := Tryd.prog) wz 42 9 5 ⟨w.heap.size, 0, none⟩ cap s.data.toList.reverse Tryd.underlying42 Tryd.underlying5 Tryd.underlying9 (fun j hj => by
      have ha : (⟨w.heap.size, 0, none⟩ : Addr).add j = ⟨w.heap.size, j, none⟩ := by unfold Addr.add; split <;> simp_all
      rw [ha]
      exact hz j _ (List.getElem?_eq_getElem hj))
    rw [List.length_reverse] at hc
    exact hc)
  clear hrow hr2
  generalize (⟨s.data.toList.reverse.toArray⟩ : ByteArray) = R at *
  generalize s.data.toList.reverse = L at *
  go_enter Tryd.func22, Tryd.ntmps22
  go_wp2_with (go_at_call 36; refine HA.out.mono ?_; rintro e w2 ⟨rfl, hc, hb⟩; have hcv := HB.out w2 hc; clear hc)
  go_ret
  exact ⟨rfl, (((Below.refl _ _).drew).alloc (Nat.le_refl _) _).trans hb⟩
end Go.Proofs.YtjlaiimcbkbciaaDoor
