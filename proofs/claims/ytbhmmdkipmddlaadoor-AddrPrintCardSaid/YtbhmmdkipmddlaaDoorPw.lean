/- Contract of Go's own writing of a number of sixteen bits in hexadecimal. -/
import Derived.Test.YtbhmmdkipmddlaaDoorPv
import Derived.Laws.BitsLemmas
import Derived.Laws.Bits64b
namespace Go.Proofs.YtbhmmdkipmddlaaDoor
open Go.RowKit Go.Lib Go.Tx Go.Rb
/-- Of the library's table of trailing zeros: sixteen has four. -/
def Tz (w : World) : Prop := w.cell? ⟨7, 15, none⟩ = some (.int .u8 4) ∧ 7 < w.heap.size
theorem Tz.below {w w' : World} (h : Tz w) (hb : Below w.heap.size w w') : Tz w' :=
  ⟨by rw [hb.cell (p := ⟨7, 15, none⟩) h.2]; exact h.1, Nat.lt_of_lt_of_le h.2 hb.size⟩
theorem ispow16 (w : World) : Calls Tryd.prog 84 #[.int .i64 16] w fun e w' => e = .returned (.bool true) ∧ w = w' := by
  have hb : bits .and .i64 16 15 = 0 := by decide +kernel
  go_enter Tryd.func84, Tryd.ntmps84
  go_wp2
  go_ret
  exact ⟨rfl, rfl⟩
theorem tz64 (w : World) (h : Tz w) : Calls Tryd.prog 88 #[.int .u64 16] w fun e w' => e = .returned (.int .i64 4) ∧ w = w' := by
  have hc := h.1
  have hn : IntKind.u64.wrap (bits BinOp.and IntKind.u64 16 (IntKind.u64.wrap (-16)) * 285870213051353865) / 288230376151711744 = 15 := by decide +kernel
  go_enter Tryd.func88, Tryd.ntmps88
  go_wp2
  go_ret
  exact ⟨rfl, rfl⟩
theorem tz16 (w : World) (h : Tz w) : Calls Tryd.prog 85 #[.int .u64 16] w fun e w' => e = .returned (.int .i64 4) ∧ w = w' := by
  have HT := Lib.hid (tz64 w h)
  go_enter Tryd.func85, Tryd.ntmps85
  go_wp2_with (go_at_call 88; refine HT.out.mono ?_; rintro e w' ⟨rfl, rfl⟩)
  go_ret
  exact ⟨rfl, rfl⟩
/-- The bytes that stand in a block from a place on. -/
def RowAt (w : World) (b o : Nat) (S : List UInt8) : Prop := ∀ (j : Nat) c, S[j]? = some c → w.cell? ⟨b, o + j, none⟩ = some (.int .u8 (c.toNat : Int))
theorem RowAt.push {w : World} {b o : Nat} {S : List UInt8} {c : UInt8} {v : Value} (h : RowAt w b (o + 1) S) (hc : ∃ u, w.cell? ⟨b, o, none⟩ = some u) (hv : v = .int .u8 (c.toNat : Int)) : RowAt (w.setCell ⟨b, o, none⟩ v) b o (c :: S) := by
  obtain ⟨u, hu⟩ := hc
  intro j d hj
  cases j with
  | zero =>
    simp at hj; subst hj
    rw [hv]
    exact World.cell?_setCell_same w _ _ hu
  | succ j =>
    simp only [List.getElem?_cons_succ] at hj
    have hne : (⟨b, o, none⟩ : Addr) ≠ ⟨b, o + (j + 1), none⟩ := fun e => by
      have := (Addr.mk.injEq .. ▸ e : _ ∧ _ ∧ _).2.1
      omega
    rw [World.cell?_setCell_other w _ _ _ hne]
    have := h j d hj
    rw [show o + (j + 1) = o + 1 + j by omega]
    exact this
/-- An array of bytes, whatever it holds. -/
structure Room (w : World) (b n : Nat) : Prop where
  lt : b < w.heap.size
  free : ∀ j, j < n → w.frozen? ⟨b, j, none⟩ = false
  held : ∀ j, j < n → ∃ v, w.cell? ⟨b, j, none⟩ = some v
theorem Room.new (w : World) (arr : Array Value) (e : TypeId) (n : Nat) (h : arr.size = n) : Room (w.alloc (.cells arr e)) w.heap.size n :=
  ⟨by show w.heap.size < (w.heap.push _).size; simp, fun j hj => World.frozen?_alloc_at arr e _ j rfl, fun j hj => by rw [World.cell?_alloc_new]; exact ⟨arr[j], by simp [h, hj]⟩⟩
theorem Room.step {w : World} {b n k : Nat} {v : Value} (h : Room w b n) (hk : k < n) : Room (w.setCell ⟨b, k, none⟩ v) b n := by
  obtain ⟨u, hu⟩ := h.held k hk
  refine ⟨by simpa using h.lt, fun j hj => by simpa using h.free j hj, fun j hj => ?_⟩
  by_cases e : j = k
  · subst e; exact ⟨_, World.cell?_setCell_same w _ _ hu⟩
  · rw [World.cell?_setCell_other w _ _ _ (fun e2 => by cases e2; exact e rfl)]; exact h.held j hj
theorem and15 (u : Nat) (h : u < 65536) : bits .and .u64 (u : Int) 15 = ((u % 16 : Nat) : Int) := by
  have h1 : bits .and .u64 (u : Int) ((15 : Nat) : Int) = ((u &&& 15 : Nat) : Int) := u64_and_nat u 15 (by omega) (by omega)
  have h2 : u &&& 15 = u % 16 := Nat.and_two_pow_sub_one_eq_mod u 4
  rw [h2] at h1
  exact h1
theorem digit_at (d : Nat) (h : d < 16) (h' : d < ByteArray.size ⟨#[48, 49, 50, 51, 52, 53, 54, 55, 56, 57, 97, 98, 99, 100, 101, 102, 103, 104, 105, 106, 107, 108, 109, 110, 111, 112, 113, 114, 115, 116, 117, 118, 119, 120, 121, 122]⟩) : (⟨#[48, 49, 50, 51, 52, 53, 54, 55, 56, 57, 97, 98, 99, 100, 101, 102, 103, 104, 105, 106, 107, 108, 109, 110, 111, 112, 113, 114, 115, 116, 117, 118, 119, 120, 121, 122]⟩ : ByteArray)[d]'h' = hd d := by
  have hx : ∀ i : Fin 16, ∀ h'', (⟨#[48, 49, 50, 51, 52, 53, 54, 55, 56, 57, 97, 98, 99, 100, 101, 102, 103, 104, 105, 106, 107, 108, 109, 110, 111, 112, 113, 114, 115, 116, 117, 118, 119, 120, 121, 122]⟩ : ByteArray)[i.1]'h'' = hd i.1 := by decide +kernel
  exact hx ⟨d, h⟩ h'
set_option maxHeartbeats 2000000 in
set_option maxRecDepth 100000 in
theorem fbits_any (n : Nat) (w : World) (hn : n < 65536) (hT : Tz w) :
    Calls Tryd.prog 71 #[.slice none 0 0, .int .u64 (n : Int), .int .i64 16, .bool false, .bool false] w fun e w' => e = .returned (.tuple #[.slice none 0 0, .string ⟨(hexT n).toArray⟩]) ∧ Below w.heap.size w w' := by
  have HT := Lib.hid hT
  clear hT
  go_enter Tryd.func71, Tryd.ntmps71
  go_wp2_with (first | (go_at_call 84; refine (ispow16 _).mono ?_; rintro e w' ⟨rfl, rfl⟩) | (go_at_call 85; refine (tz16 _ (HT.out.below ((Below.refl _ _).alloc (Nat.le_refl _) _))).mono ?_; rintro e w' ⟨rfl, rfl⟩))
  go_loopw [1, 13] (fun uv iv wr => ∃ (u t : Nat) (S : List UInt8), ((t = 64 ∧ u < 65536) ∨ (t = 63 ∧ u < 4096) ∨ (t = 62 ∧ u < 256) ∨ (t = 61 ∧ u < 16)) ∧ uv = .int .u64 u ∧ iv = .int .i64 ((t + 1 : Nat) : Int) ∧ Hid (t + S.length = 64 ∧ RowAt wr w.heap.size (t + 1) S ∧ hexT n = hexT u ++ S) ∧ Hid (Room wr w.heap.size 65) ∧ Below w.heap.size w wr) (fun uv _ _ => (RowKit.intOf uv).toNat)
  case atStart => exact ⟨n, 64, [], .inl ⟨rfl, hn⟩, rfl, rfl, Lib.hid ⟨rfl, fun j c h => by simp at h, by simp⟩, Lib.hid (Room.new _ _ _ _ rfl), (Below.refl _ _).alloc (Nat.le_refl _) _⟩
  case round =>
    obtain ⟨u, t, S, hut, rfl, rfl, hS, hR, hb⟩ := hrel
    have hu : u < 65536 := by omega
    have ht : t ≤ 64 := by omega
    have ht2 : 1 ≤ t := by omega
    have hfree := hR.out.free t (by omega)
    obtain ⟨v0, hcell⟩ := hR.out.held t (by omega)
    have HC := Lib.hid hcell
    by_cases h16 : u < 16
    · have hsl : ∀ W : World, (Instr.sliceAt 101 (.pointer (some ⟨w.heap.size, 0, none⟩)) (some (.int .i64 (t : Int))) none none).run Tryd.prog W = .ok (.slice (some ⟨w.heap.size, t, none⟩) (65 - t) (65 - t)) W := fun W => by
        have h65 : Tryd.prog.arrayLen 101 = 65 := by kernel_rfl
        have hel : Tryd.prog.elem 101 = 5 := by kernel_rfl
        have := run_sliceAt_array_l (P := Tryd.prog) W 101 ⟨w.heap.size, 0, none⟩ (by rw [h65, hel]; exact Tryd.underlying101) .i64 (t : Int) (by omega) (by rw [h65]; omega)
        rw [this, h65, hel, Tryd.sizeOf5]
        simp only [Result.andThen_ok, slicedAt, Int.toNat_natCast]
        rw [if_neg (by omega)]
        congr 3
        unfold Addr.add
        split <;> simp_all
      obtain ⟨c, hc⟩ : ∃ c, hd u = c := ⟨_, rfl⟩
      have hdv : (((⟨#[48, 49, 50, 51, 52, 53, 54, 55, 56, 57, 97, 98, 99, 100, 101, 102, 103, 104, 105, 106, 107, 108, 109, 110, 111, 112, 113, 114, 115, 116, 117, 118, 119, 120, 121, 122]⟩ : ByteArray)[u]'(by show u < 36; omega)).toNat : Int) = (c.toNat : Int) := by rw [digit_at u h16, hc]
      have HX : Hid (hexT n = c :: S) := Lib.hid (by rw [hS.out.2.2, hexT_lt h16, hc]; rfl)
      have hstr : (convert 31 9 (.slice (some ⟨w.heap.size, t, none⟩) (65 - t) (65 - t))).run Tryd.prog (wr.setCell ⟨w.heap.size, t, none⟩ (.int .u8 (c.toNat : Int))) = .ok (.string ⟨(c :: S).toArray⟩) (wr.setCell ⟨w.heap.size, t, none⟩ (.int .u8 (c.toNat : Int))) := by
        have hrow := hS.out.2.1.push (c := c) ⟨v0, HC.out⟩ rfl
        have hlen : (c :: S).length = 65 - t := by have := hS.out.1; simp; omega
        have := run_convert_bytes_back (P := Tryd.prog) (wr.setCell ⟨w.heap.size, t, none⟩ (.int .u8 (c.toNat : Int))) 31 9 5 ⟨w.heap.size, t, none⟩ (65 - t) (c :: S) Tryd.underlying31 Tryd.underlying5 Tryd.underlying9 (fun j hj => by
          have ha : (⟨w.heap.size, t, none⟩ : Addr).add j = ⟨w.heap.size, t + j, none⟩ := by unfold Addr.add; split <;> simp_all
          rw [ha, hrow j _ (List.getElem?_eq_getElem hj)])
        rw [hlen] at this
        exact this
      clear hc
      go_wp2
      go_ret2
      exact ⟨by rw [HX.out]; rfl, hb.setCell (Nat.le_refl _) _⟩
    · obtain ⟨d, hde⟩ : ∃ d, u % 16 = d := ⟨_, rfl⟩
      have hd16 : d < 16 := by omega
      obtain ⟨c, hc⟩ : ∃ c, hd d = c := ⟨_, rfl⟩
      have hdv : (((⟨#[48, 49, 50, 51, 52, 53, 54, 55, 56, 57, 97, 98, 99, 100, 101, 102, 103, 104, 105, 106, 107, 108, 109, 110, 111, 112, 113, 114, 115, 116, 117, 118, 119, 120, 121, 122]⟩ : ByteArray)[d]'(by show d < 36; omega)).toNat : Int) = (c.toNat : Int) := by rw [digit_at d hd16, hc]
      have HX : Hid (hexT u = hexT (u / 16) ++ [c]) := Lib.hid (by rw [hexT_ge h16, hde, hc])
      have hand : bits .and .u64 (u : Int) 15 = (d : Int) := by rw [and15 u hu, hde]
      go_wp2
      go_roundw
      case rel =>
        exact ⟨u / 16, t - 1, c :: S, by omega, by go_num, by go_num, Lib.hid ⟨by have := hS.out.1; simp; omega, by
          have := hS.out.2.1.push (c := c) ⟨v0, HC.out⟩ rfl
          rw [show t - 1 + 1 = t by omega]
          exact this, by rw [hS.out.2.2, HX.out]; simp⟩, Lib.hid (hR.out.step (by omega)), hb.setCell (Nat.le_refl _) _⟩
      case measure => simp [RowKit.intOf]; omega
theorem fuint_in (n : Nat) (w : World) (hn : n < 65536) (hT : Tz w) :
    Calls Tryd.prog 49 #[.int .u64 (n : Int), .int .i64 16] w fun e w' => e = .returned (.string ⟨(hexT n).toArray⟩) ∧ Below w.heap.size w w' := by
  have HF := Lib.hid (fbits_any n w hn hT)
  clear hT
  obtain ⟨R, hR⟩ : ∃ R : ByteArray, (⟨(hexT n).toArray⟩ : ByteArray) = R := ⟨_, rfl⟩
  rw [hR] at HF ⊢
  go_enter Tryd.func49, Tryd.ntmps49
  go_wp2_with (go_at_call 71; refine HF.out.mono ?_; rintro e w' ⟨rfl, hb⟩)
  go_ret
  exact ⟨rfl, hb⟩
theorem fuint_any (n : Nat) (w : World) (hn : n < 65536) (hT : Tz w) :
    Calls Tryd.prog 34 #[.int .u64 (n : Int), .int .i64 16] w fun e w' => e = .returned (.string ⟨(hexT n).toArray⟩) ∧ Below w.heap.size w w' := by
  have HF := Lib.hid (fuint_in n w hn hT)
  clear hT
  obtain ⟨R, hR⟩ : ∃ R : ByteArray, (⟨(hexT n).toArray⟩ : ByteArray) = R := ⟨_, rfl⟩
  rw [hR] at HF ⊢
  go_enter Tryd.func34, Tryd.ntmps34
  go_wp2_with (go_at_call 49; refine HF.out.mono ?_; rintro e w' ⟨rfl, hb⟩)
  go_ret
  exact ⟨rfl, hb⟩
end Go.Proofs.YtbhmmdkipmddlaaDoor
