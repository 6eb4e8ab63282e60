/- Contracts: the registry's Get and Names. -/
import Derived.Test.YtpdkjifalgeodaaSg
namespace Go.Proofs.Ytpdkjifalgeodaa
open Go.RowKit Go.Extern.Stop Go.Stop Go.Extern Go.Lib Go.Tx
open Go.Maps (Keyed)
open Go.Proofs (encStr)
theorem ptrE (r : Nat) (w : World) : (binOp .eql 55 (.pointer (some ⟨r, 0, none⟩)) (.pointer none)).run Try.prog w = .ok (.bool false) w := by kernel_rfl
/-- What Get answers. -/
def getV (D : DataW Value) (s : ByteArray) : Value := match D.atKey (keyS s) (.held .nilIface) with
  | .held v => v
  | _ => .nilIface
theorem getV_put {D : DataW Value} (hD : Go.Maps.IsMap D) (s : ByteArray) (v : Value) : getV (D.put (keyS s) (.held v)) s = v := by
  unfold getV
  rw [Go.Maps.atKey_put_same hD (show Go.WideAt.IsKeyLit (keyS s) from trivial)]
theorem RegAt.look {w : World} {K r m : Nat} {D : DataW Value} (h : RegAt w K r (some m) D) (s : ByteArray) (hs : s.size ≤ maxLen) :
    (Instr.lookup 96 (.map (some m)) (.string s) true).run Try.prog w = .ok (.tuple #[getV D s, .bool (Go.Maps.has D (keyS s))]) w ∧ (getV D s = .nilIface ∨ ∃ t x, getV D s = .iface t x) := by
  obtain ⟨n, _, _, ho⟩ := h.got
  obtain ⟨v, ps, hrun, hv⟩ := ho.look_ok keyed9 Try.underlying96 (zero39 w) (zd := .held .nilIface) (zp := []) rfl (key := .string s) (kl := keyS s) (Go.WideMaps.keyOf_string_mk Try.underlying9 hs)
  obtain ⟨e, hv2⟩ := R39_inv hv
  have e2 : D.atKey (keyS s) (.held .nilIface) = .held v := (Prod.mk.inj e).1
  have e3 : getV D s = v := by unfold getV; rw [e2]
  rw [e3]
  exact ⟨hrun, hv2⟩
theorem RegAt.isMap {w : World} {K r : Nat} {mp : Option Nat} {D : DataW Value} (h : RegAt w K r mp D) : Go.Maps.IsMap D := by
  rcases h.map with ⟨_, rfl⟩ | ⟨m, n, _, _, _, ho⟩
  · exact ⟨_, rfl⟩
  · exact ho.isMap
set_option maxHeartbeats 1000000 in
set_option maxRecDepth 100000 in
theorem get_any (w : World) (K r m : Nat) (D : DataW Value) (h : RegAt w K r (some m) D) (s : ByteArray) (hs : s.size ≤ maxLen) :
    Calls Try.prog 21 #[.pointer (some ⟨r, 0, none⟩), .string s] w fun e w' => e = .returned (.tuple #[getV D s, .bool (Go.Maps.has D (keyS s))]) ∧ w = w' := by
  obtain ⟨hl, hv⟩ := h.look s hs
  have k1 := cell1 h.cell
  clear h hs
  generalize getV D s = v at *
  generalize Go.Maps.has D (keyS s) = b at *
  rcases hv with rfl | ⟨t, x, rfl⟩
  all_goals
    go_enter Try.func21, Try.ntmps21
    go_wp2
    go_ret2
    exact ⟨rfl, rfl⟩
theorem lookN (s : ByteArray) (w : World) : (Instr.lookup 96 (.map none) (.string s) true).run Try.prog w = .ok (.tuple #[.nilIface, .bool false]) w := by kernel_rfl
set_option maxHeartbeats 1000000 in
set_option maxRecDepth 100000 in
theorem get_none (w : World) (K r : Nat) (D : DataW Value) (h : RegAt w K r none D) (s : ByteArray) :
    Calls Try.prog 21 #[.pointer (some ⟨r, 0, none⟩), .string s] w fun e w' => e = .returned (.tuple #[.nilIface, .bool false]) ∧ w = w' := by
  have k1 := cell1 h.cell
  have hl := lookN s
  clear h
  go_enter Try.func21, Try.ntmps21
  go_wp2
  go_ret2
  exact ⟨rfl, rfl⟩
set_option maxHeartbeats 1000000 in
set_option maxRecDepth 100000 in
theorem get_nil (w : World) (s : ByteArray) :
    Calls Try.prog 21 #[.pointer none, .string s] w fun e w' => e = .returned (.tuple #[.nilIface, .bool false]) ∧ w = w' := by
  go_enter Try.func21, Try.ntmps21
  go_wp2
  go_ret2
  exact ⟨rfl, rfl⟩
/-! ### Names. -/
theorem keys40 (mb : Option Nat) (W : World) : Calls Try.prog 40 #[.map mb] W fun e w' => e = .returned (.func (.func 46) #[] #[.pointer (some ⟨W.heap.size, 0, none⟩)]) ∧ w' = W.alloc (.cells #[.map mb] 96) := callsIn_wide.1 (Try.maps_Keys_40 mb W)
abbrev leS : List UInt8 → List UInt8 → Bool := fun x y => decide (x ≤ y)
theorem row_strC {B : Nat} {w : World} {v : Value} {ss : List (List UInt8)} (h : w.ownsRow B 9 1 v ss.length ((ss.mergeSort leS).map encStr)) : StrC B w v (ss.mergeSort leS) := by
  unfold StrC
  rw [List.length_mergeSort]
  exact h
set_option maxHeartbeats 1000000 in
set_option maxRecDepth 100000 in
theorem names_any (w : World) (K r m : Nat) (D : DataW Value) (h : RegAt w K r (some m) D) (hK : K < 1000) :
    Calls Try.prog 23 #[.pointer (some ⟨r, 0, none⟩)] w fun e w' => ∃ (v : Value) (ss : List (List UInt8)), e = .returned v ∧ ss.Perm (strKeys D) ∧ StrC w.heap.size w' v (ss.mergeSort leS) ∧ Below w.heap.size w w' := by
  obtain ⟨n, _, hn, ho⟩ := h.got
  have hsz : Go.Maps.size D ≤ n := ho.size_le
  have HS := Lib.hid (callsIn_wide.1 (Try.slices_Sorted_keys_39_40 m n D R39 w ho (by unfold maxLen; omega) (by omega)))
  have k1 := cell1 h.cell
  clear h ho hsz
  go_enter Try.func23, Try.ntmps23
  go_wp2_with (first | (go_at_call 40; refine (keys40 _ _).mono ?_; rintro e w2 ⟨rfl, rfl⟩) | (go_at_call 39; refine HS.out.mono ?_; rintro e w3 ⟨v, ss, rfl, hp, hr, _, hb⟩; have HP := Lib.hid hp; have HR := Lib.hid hr; have HB := Lib.hid hb; clear hp hr hb))
  go_ret
  exact ⟨_, ss, rfl, HP.out, row_strC (ownsRow_base_a HR.out (by rw [al_size]; omega)), keepE (al_bel w _) HB.out⟩
end Go.Proofs.Ytpdkjifalgeodaa
