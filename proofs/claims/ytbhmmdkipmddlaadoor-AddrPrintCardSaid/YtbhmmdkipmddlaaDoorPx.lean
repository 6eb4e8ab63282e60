/- Contracts: a byte in decimal, four bytes printed, the longest run of zeros. -/
import Derived.Test.YtbhmmdkipmddlaaDoorPw
import Derived.Lib.SmallJoins
namespace Go.Proofs.YtbhmmdkipmddlaaDoor
open Go.RowKit Go.Lib Go.Tx Go.Rb
/-- What printing reads of the library's variables. -/
structure PrAt (w : World) : Prop where
  tz : Tz w
  pow : Lib.TabIs Tryd.prog w "internal/strconv.uint64pow10" .u64 Lib.pow10Tab
theorem PrAt.below {w w' : World} (h : PrAt w) (hb : Below w.heap.size w w') : PrAt w' :=
  ⟨h.tz.below hb, Go.Joins.tab_stays (g := 3) (by kernel_rfl) h.pow hb (Nat.le_refl _)⟩
theorem below_grow (w : World) (k : Nat) (os : Array Obj) : Below w.heap.size w (Go.Sort.grow (w.drewN k) os) :=
  ⟨rfl, rfl, rfl, by show w.heap.size ≤ (w.heap ++ os).size; simp, fun i hi => by
    show (w.heap ++ os)[i]? = w.heap[i]?
    exact Array.getElem?_append_left hi⟩
theorem itoa_byte (c : UInt8) (w : World) (h : PrAt w) : Calls Tryd.prog 32 #[.int .i64 (c.toNat : Int)] w fun e w' => e = .returned (.string ⟨(Lib.decDigits c.toNat).toArray⟩) ∧ Below w.heap.size w w' := by
  have hc := c.toNat_lt
  refine (Tryd.strconv_Itoa (c.toNat : Int) (by omega) (by omega) w h.pow).mono ?_
  rintro e w' ⟨rfl, k, os, rfl⟩
  refine ⟨?_, below_grow w k os⟩
  unfold Lib.itoa
  rw [if_neg (by omega), Int.toNat_natCast]
theorem digits_len (c : UInt8) : (Lib.decDigits c.toNat).length ≤ 3 := by
  have h : ∀ i : Fin 256, (Lib.decDigits i.1).length ≤ 3 := by
    intro i
    rw [Lib.decDigits]
    split
    · simp
    · rw [Lib.decDigits]
      split
      · simp
      · rw [Lib.decDigits, dif_pos (by omega)]
        simp
  exact h ⟨c.toNat, c.toNat_lt⟩
/-- strings.Join of an array's texts. -/
theorem join_arr (w : World) (b o c : Nat) (L : List (List UInt8)) (sep : UInt8) (n : Nat) (hL : ∀ x ∈ L, x.length ≤ n) (hn : n ≤ 1000) (hl : L.length ≤ 1000) (hc : L.length ≤ c) (hb : b < w.heap.size)
    (hcells : ∀ (j : Nat) x, L[j]? = some x → w.cell? ⟨b, o + j, none⟩ = some (.string ⟨x.toArray⟩)) :
    Calls Tryd.prog 33 #[.slice (some ⟨b, o, none⟩) L.length c, .string ⟨#[sep]⟩] w fun e w' => e = .returned (.string ⟨(Lib.join L [sep]).toArray⟩) ∧ Below w.heap.size w w' := by
  have hm : (L.map fun l => (⟨l.toArray⟩ : ByteArray)).map (fun x => x.data.toList) = L := by
    rw [List.map_map]
    exact List.map_id' L
  have hj := Tryd.strings_Join b o c (L.map fun l => ⟨l.toArray⟩) ⟨#[sep]⟩ w (fun j x hx => by
    rw [List.getElem?_map] at hx
    obtain ⟨l, hl, rfl⟩ := Option.map_eq_some_iff.1 hx
    exact hcells j l hl) hb (by rw [List.length_map]; omega) (by rw [List.length_map]; exact hc) (by
      rw [hm]
      have h1 := join_len [sep] (by simp) n L hL
      have h2 : (n + 1) * L.length ≤ 1001 * 1000 := Nat.mul_le_mul (by omega) hl
      show (Lib.join L [sep]).length ≤ _
      omega)
  rw [List.length_map, hm] at hj
  exact hj
/-- The text of the j-th byte in decimal. -/
def decV (l : List UInt8) (j : Nat) : Value := .string ⟨(Lib.decDigits (l.getD j 0).toNat).toArray⟩
set_option maxHeartbeats 1000000 in
theorem pshow_any (s : ByteArray) (w : World) (hs : s.size = 4) (h : PrAt w) :
    Calls Tryd.prog 18 #[.string s] w (TextR w (Lib.join (s.data.toList.map fun c => Lib.decDigits c.toNat) [46])) := by
  have hlen : s.data.toList.length = 4 := hs
  have HP := Lib.hid h
  have HJ : Hid (∀ (w : World) (b : Nat), Arr w b 4 4 (decV s.data.toList) → Calls Tryd.prog 33 #[.slice (some ⟨b, 0, none⟩) 4 4, .string ⟨#[46]⟩] w fun e w' => e = .returned (.string ⟨(Lib.join (s.data.toList.map fun c => Lib.decDigits c.toNat) [46]).toArray⟩) ∧ Below w.heap.size w w') := Lib.hid (fun w b hf => by
    have := join_arr w b 0 4 (s.data.toList.map fun c => Lib.decDigits c.toNat) 46 3 (fun x hx => by
      obtain ⟨c, _, rfl⟩ := List.mem_map.1 hx
      exact digits_len c) (by omega) (by rw [List.length_map, hlen]; omega) (by rw [List.length_map, hlen]; omega) hf.lt (fun j x hx => by
        rw [List.getElem?_map] at hx
        obtain ⟨c, hc, rfl⟩ := Option.map_eq_some_iff.1 hx
        have hjl := (List.getElem?_eq_some_iff.1 hc).1
        rw [Nat.zero_add, hf.told j (by omega)]
        unfold decV
        rw [List.getD_eq_getElem?_getD, hc, Option.getD_some])
    rw [List.length_map, hlen] at this
    exact this)
  clear h
  unfold TextR
  generalize (⟨(Lib.join (s.data.toList.map fun c => Lib.decDigits c.toNat) [46]).toArray⟩ : ByteArray) = R at *
  go_enter Tryd.func18, Tryd.ntmps18
  go_wp2
  go_loopw [5] (fun i wr => ∃ k : Nat, k ≤ 4 ∧ i = .int .i64 k ∧ Hid (Arr wr w.heap.size 4 k (decV s.data.toList)) ∧ Below w.heap.size w wr) (fun i _ => 4 - (RowKit.intOf i).toNat)
  case atStart => exact ⟨0, by omega, rfl, Lib.hid (Arr.new _ _ _ _ rfl _), (Below.refl _ _).alloc (Nat.le_refl _) _⟩
  case round =>
    obtain ⟨k, hk, rfl, hf, hbel⟩ := hrel
    by_cases hlt : k < 4
    · have hks : k < s.size := by omega
      have HV : Hid (decV s.data.toList k = .string ⟨(Lib.decDigits s[k].toNat).toArray⟩) := Lib.hid (by
        unfold decV
        rw [List.getD_eq_getElem?_getD, List.getElem?_eq_getElem (by show k < s.size; exact hks), Option.getD_some]
        rfl)
      have hu := s[k].toNat_lt
      obtain ⟨R2, hR2⟩ : ∃ R : ByteArray, (⟨(Lib.decDigits s[k].toNat).toArray⟩ : ByteArray) = R := ⟨_, rfl⟩
      rw [hR2] at HV
      have HI : Hid (∀ W, PrAt W → Calls Tryd.prog 32 #[.int .i64 (s[k].toNat : Int)] W fun e w' => e = .returned (.string R2) ∧ Below W.heap.size W w') := Lib.hid (fun W hW => by rw [← hR2]; exact itoa_byte s[k] W hW)
      clear hR2
      go_wp2_with (go_at_call 32; refine (HI.out _ (HP.out.below hbel)).mono ?_; rintro e w2 ⟨rfl, hb2⟩; have hf2 := hf.out.below hb2; obtain ⟨u, hcell⟩ := hf2.held k hlt; have hfree := hf2.free k hlt; have HF2 := Lib.hid hf2; clear hf2)
      go_roundw
      case rel => exact ⟨k + 1, hlt, by go_num, Lib.hid (HF2.out.step hlt HV.out), (hbel.trans (hb2.mono hbel.size)).setCell (Nat.le_refl _) _⟩
      case measure => simp [RowKit.intOf]; omega
    · obtain rfl : k = 4 := by omega
      go_wp2_with (go_at_call 33; refine (HJ.out _ _ hf.out).mono ?_; rintro e w2 ⟨rfl, hb2⟩)
      go_ret
      exact ⟨rfl, hbel.trans (hb2.mono hbel.size)⟩
end Go.Proofs.YtbhmmdkipmddlaaDoor
