/- Contracts of strconv.ParseUint: hexadecimal of sixteen bits, decimal of eight. -/
import Derived.Test.YtdfapebggghfdaaGreatDoorPh
import Derived.Test.YtdfapebggghfdaaGreatDoorShelfP
namespace Go.Proofs.YtdfapebggghfdaaGreatDoor
open Go.RowKit Go.Lib Go.Tx Go.Rb
/-- The library's two errors are what errors are. -/
def ErrAt (g : Nat) (w : World) : Prop := ∃ ev, w.cell? ⟨g, 0, none⟩ = some ev ∧ (ev = .nilIface ∨ ∃ te pe, ev = .iface te pe)
theorem ErrAt.below {g : Nat} {w w' : World} (h : ErrAt g w) (hb : Below w.heap.size w w') : ErrAt g w' := by
  obtain ⟨ev, h1, h2⟩ := h
  refine ⟨ev, ?_, h2⟩
  have hlt : g < w.heap.size := by
    unfold World.cell? at h1
    split at h1
    · rename_i hh
      exact (Array.getElem?_eq_some_iff.1 hh).1
    · cases h1
  rw [hb.cell (p := ⟨g, 0, none⟩) hlt]
  exact h1
def PubR (r : Option Int) (w : World) (e : Ending) (w' : World) : Prop :=
  Below w.heap.size w w' ∧ match r with
    | some n => e = .returned (.tuple #[.int .u64 n, .nilIface])
    | none => ∃ (x : Int) (g : Nat), e = .returned (.tuple #[.int .u64 x, .iface 123 (.pointer (some ⟨g, 0, none⟩))])
theorem pub16_any (s : ByteArray) (w : World) (hs : s.size ≤ 1000000) (h1 : ErrAt 1 w) (h2 : ErrAt 2 w) :
    Calls Tryz.prog 55 #[.string s, .int .i64 16, .int .i64 16] w (PubR (if hex16 s.data.toList = true then some (hexA s.data.toList) else none) w) := by
  have HP := Lib.hid (pu16_any s w hs)
  have HT1 : Hid (∀ w2 : World, Below w.heap.size w w2 → Calls Tryz.prog 80 #[.string ⟨#[80, 97, 114, 115, 101, 85, 105, 110, 116]⟩, .string s, .int .i64 16, .int .i64 16, .iface 121 (.int .i64 2)] w2 fun e w' => ∃ N, e = .returned (.iface 123 (.pointer (some ⟨N, 0, none⟩))) ∧ Below w2.heap.size w2 w') := Lib.hid (fun w2 hb => by
    obtain ⟨ev, e1, e2⟩ := h1.below hb
    exact (Tryz.strconv_toError_syntax _ s 16 16 ev w2 (by omega) e1 e2).mono fun e w' ⟨N, a, _, _, b⟩ => ⟨N, a, b⟩)
  have HT2 : Hid (∀ w2 : World, Below w.heap.size w w2 → Calls Tryz.prog 80 #[.string ⟨#[80, 97, 114, 115, 101, 85, 105, 110, 116]⟩, .string s, .int .i64 16, .int .i64 16, .iface 121 (.int .i64 1)] w2 fun e w' => ∃ N, e = .returned (.iface 123 (.pointer (some ⟨N, 0, none⟩))) ∧ Below w2.heap.size w2 w') := Lib.hid (fun w2 hb => by
    obtain ⟨ev, e1, e2⟩ := h2.below hb
    exact (Tryz.strconv_toError_range _ s 16 16 ev w2 (by omega) e1 e2).mono fun e w' ⟨N, a, _, _, b⟩ => ⟨N, a, b⟩)
  have HT : Hid (∀ w2 : World, Below w.heap.size w w2 → ∀ n : Int, (n = 1 ∨ n = 2) → Calls Tryz.prog 80 #[.string ⟨#[80, 97, 114, 115, 101, 85, 105, 110, 116]⟩, .string s, .int .i64 16, .int .i64 16, .iface 121 (.int .i64 n)] w2 fun e w' => ∃ N, e = .returned (.iface 123 (.pointer (some ⟨N, 0, none⟩))) ∧ Below w2.heap.size w2 w') := Lib.hid (fun w2 hb n hn => by
    rcases hn with rfl | rfl
    · exact HT2.out w2 hb
    · exact HT1.out w2 hb)
  clear HT1 HT2
  cases hx : hex16 s.data.toList with
  | true =>
    have HX := Lib.hid hx
    clear hx
    go_enter Tryz.func55, Tryz.ntmps55
    go_wp2_with (go_at_call 79; refine HP.out.mono ?_; rintro e w2 ⟨hb, h⟩; rw [if_pos HX.out] at h; subst h)
    go_ret2
    exact ⟨hb, rfl⟩
  | false =>
    have HX := Lib.hid hx
    clear hx
    go_enter Tryz.func55, Tryz.ntmps55
    go_wp2_with (first | (go_at_call 79; refine HP.out.mono ?_; rintro e w2 ⟨hb, h⟩; rw [if_neg (by rw [HX.out]; decide)] at h; obtain ⟨x, n, hn, rfl⟩ := h; have HNn := Lib.hid hn; clear hn) | (go_at_call 80; refine (HT.out _ hb _ HNn.out).mono ?_; rintro e w3 ⟨g, rfl, hb3⟩))
    all_goals (go_ret2; exact ⟨hb.trans (hb3.mono hb.size), _, g, rfl⟩)
end Go.Proofs.YtdfapebggghfdaaGreatDoor
