/- What the law of cuts writes to a disk, and the contracts of its calls. -/
import Derived.Test.YtfpgobbkeocokaaDm
namespace Go.Proofs.Ytfpgobbkeocokaa
open Go.RowKit Go.Mp Go.Rb Go.Lib
def dB : ByteArray := ⟨#[100]⟩
def bsU (i : Nat) : List UInt8 := (List.range i).map UInt8.ofNat
def FFc (i : Nat) (s : ByteArray) : List UInt8 := if s = dB then bsU i else []
def ULc (s i : Nat) : List (ByteArray × List UInt8) := (List.range (i - s)).map fun j => (dB, bsU (s + j))
theorem bsU_len (i : Nat) : (bsU i).length = i := by simp [bsU]
theorem bsU_succ (i : Nat) : bsU (i + 1) = bsU i ++ [UInt8.ofNat i] := by simp [bsU, List.range_succ]
theorem ULc_len (s i : Nat) : (ULc s i).length = i - s := by simp [ULc]
theorem ULc_self (s : Nat) : ULc s s = [] := by simp [ULc]
theorem FFc_d (i : Nat) : FFc i dB = bsU i := by simp [FFc]
theorem FFc_len (i : Nat) (t : ByteArray) : (FFc i t).length ≤ i := by
  unfold FFc
  by_cases h : t = dB
  · rw [if_pos h, bsU_len]; exact Nat.le_refl _
  · rw [if_neg h]; exact Nat.zero_le _
theorem FFc_succ (i : Nat) : updF (FFc i) dB (FFc i dB ++ [UInt8.ofNat i]) = FFc (i + 1) := by
  funext t
  unfold updF FFc
  by_cases h : t = dB
  · simp [h, bsU_succ]
  · simp [h]
theorem ULc_succ {s i : Nat} (h : s ≤ i) : ULc s i ++ [(dB, FFc i dB)] = ULc s (i + 1) := by
  unfold ULc
  rw [show i + 1 - s = (i - s) + 1 from by omega, List.range_succ, List.map_append, FFc_d]
  simp
  congr 1
  omega
theorem ULc_at {s i j : Nat} (h : j < i - s) : (ULc s i)[j]? = some (dB, bsU (s + j)) := by
  simp [ULc, h]
theorem ULc_name {s i : Nat} {e : ByteArray × List UInt8} (h : e ∈ ULc s i) : e.1 = dB ∧ e.2.length ≤ i := by
  unfold ULc at h
  obtain ⟨j, hj, rfl⟩ := List.mem_map.1 h
  have := List.mem_range.1 hj
  exact ⟨rfl, by simp [bsU_len]; omega⟩
theorem fstB_mem {L : List (ByteArray × List UInt8)} {t : ByteArray} {l : List UInt8} (h : fstB L t = some l) : (t, l) ∈ L := by
  unfold fstB at h
  obtain ⟨e, he, rfl⟩ := Option.map_eq_some_iff.1 h
  have h1 := List.find?_some he
  have h2 := List.mem_of_find?_eq_some he
  have : e.1 = t := of_decide_eq_true h1
  rw [← this]
  exact h2
theorem cut_len (s i k : Nat) (t : ByteArray) : ((fstB ((ULc s i).drop k) t).getD (FFc i t)).length ≤ i := by
  cases hf : fstB ((ULc s i).drop k) t with
  | none => exact FFc_len i t
  | some l => exact (ULc_name (List.mem_of_mem_drop (fstB_mem hf))).2
theorem cut_is {s N i : Nat} (h1 : s ≤ N) (h2 : N ≤ i) (t : ByteArray) : (fstB ((ULc s i).drop (N - s)) t).getD (FFc i t) = FFc N t := by
  by_cases ht : t = dB
  · subst ht
    by_cases hN : N = i
    · subst hN
      rw [List.drop_of_length_le (by rw [ULc_len]; exact Nat.le_refl _)]
      rfl
    · have hl : N - s < (ULc s i).length := by rw [ULc_len]; omega
      have he : (ULc s i)[N - s] = (dB, bsU N) := by
        have := ULc_at (s := s) (i := i) (j := N - s) (by omega)
        rw [List.getElem?_eq_getElem hl] at this
        rw [Option.some.inj this, show s + (N - s) = N from by omega]
      rw [List.drop_eq_getElem_cons hl, he, fstB_cons, if_pos rfl, FFc_d]
      rfl
  · cases hf : fstB ((ULc s i).drop (N - s)) t with
    | none => simp [FFc, ht]
    | some l => exact absurd (ULc_name (List.mem_of_mem_drop (fstB_mem hf))).1 ht
def c0D : Value × Value × Value × Value × Value := (.int .i64 0, .int .i64 0, .map none, .slice none 0 0, .slice none 0 0)
theorem DKS.below {w w' : World} {b B K : Nat} {c : Value × Value × Value × Value × Value} {syn : Nat} {F : ByteArray → List UInt8} {UL : List (ByteArray × List UInt8)} (h : DKS w b B K c syn F UL) (hb : Below w.heap.size w w') : DKS w' b B K c syn F UL := by
  obtain ⟨mp, D, V, p, cap, hd⟩ := h
  exact ⟨mp, D, V, p, cap, hd.below hb⟩
theorem DKS.lt {w : World} {b B K : Nat} {c : Value × Value × Value × Value × Value} {syn : Nat} {F : ByteArray → List UInt8} {UL : List (ByteArray × List UInt8)} (h : DKS w b B K c syn F UL) : b < w.heap.size := by
  obtain ⟨mp, D, V, p, cap, hd⟩ := h
  exact hd.wd.lt
theorem DKS.fresh (w : World) (B : Nat) (hB : B ≤ w.heap.size) : DKS (w.alloc zWorld) w.heap.size B 0 c0D 0 (FFc 0) [] := by
  refine ⟨none, .map [], [], none, 0, ?_⟩
  exact {
    wd := heap_alloc_new w _
    base := hB
    map := .inl ⟨rfl, rfl⟩
    undo := World.ownsRow_nil _ _ _ _
    body := fun t ht => .inl ⟨valOf_nil t, by simp [FFc, bsU]⟩
    len := rfl
    old := fun j e l h1 _ => by simp at h1
    apart := fun s t a n c a' n' c' _ _ _ h1 _ => by rw [valOf_nil] at h1; cases h1
    elder := fun t j x a n c a' n' c'' _ h1 => by simp at h1
    named := fun j x h1 => by simp at h1 }
/-- The law's world ahead of write i, synced at s. -/
structure CutSt (W wr : World) (b s i : Nat) : Prop where
  ks : DKS wr b W.heap.size i c0D s (FFc i) (ULc s i)
  le : s ≤ i
  bel : Below W.heap.size W wr
section
variable {W wr : World} {b s i : Nat}
theorem CutSt.below (h : CutSt W wr b s i) {w' : World} (hb : Below wr.heap.size wr w') : CutSt W w' b s i :=
  ⟨h.ks.below hb, h.le, h.bel.trans (hb.mono h.bel.size)⟩
theorem CutSt.append (h : CutSt W wr b s i) (hi : i ≤ 40) :
    Calls Try.prog 21 #[.pointer (some ⟨b, 0, none⟩), .string dB, .slice (some ⟨wr.heap.size, 0, none⟩) 1 1] (wr.alloc (.cells #[.int .u8 (i : Int)] 5)) fun e w' => e = .returned (.tuple #[]) ∧ CutSt W w' b s (i + 1) := by
  have hx : ((UInt8.ofNat i).toNat : Int) = (i : Int) := by rw [UInt8.toNat_ofNat_of_lt' (by show i < 256; omega)]
  have hb0 : Below wr.heap.size wr (wr.alloc (.cells #[.int .u8 (i : Int)] 5)) := (Below.refl _ _).alloc (Nat.le_refl _) _
  have hrow : RowB 5 (wr.alloc (.cells #[.int .u8 (i : Int)] 5)) wr.heap.size 1 [UInt8.ofNat i] :=
    ⟨_, 0, 0, heap_alloc_new wr _, .inr rfl, rfl, Nat.le_refl _, fun j c h => by
      cases j with
      | zero =>
        cases h
        simp only [List.getElem?_toArray, List.getElem?_cons_zero, hx]
      | succ j => simp at h⟩
  refine (append_any (h.ks.below hb0) (by omega) (by rw [ULc_len]; omega) dB (by decide) _ _ _ [UInt8.ofNat i] (Src.row hrow) (by have := FFc_len i dB; simp; omega)).mono ?_
  rintro e w' ⟨he, hk, hb⟩
  rw [FFc_succ, ULc_succ h.le] at hk
  exact ⟨he, hk, by have := h.le; omega, (h.bel.trans (hb0.mono h.bel.size)).trans hb⟩
theorem CutSt.sync (h : CutSt W wr b s i) (hi : i ≤ 40) :
    Calls Try.prog 23 #[.pointer (some ⟨b, 0, none⟩)] wr fun e w' => e = .returned (.tuple #[]) ∧ CutSt W w' b i i := by
  have hle := h.le
  refine (wsync_any h.ks (by omega) (by rw [ULc_len]; omega)).mono ?_
  rintro e w' ⟨he, hk, hb⟩
  rw [ULc_len, show s + (i - s) = i from by omega] at hk
  exact ⟨he, by rw [ULc_self]; exact hk, Nat.le_refl _, h.bel.trans hb⟩
theorem CutSt.cut (h : CutSt W wr b s i) (hi : i ≤ 40) (n : Int) (hn : -9223372036854775808 ≤ n ∧ n ≤ 9223372036854775807) (N : Nat) (hN : min (max n (s : Int)) (i : Int) = (N : Int)) :
    Calls Try.prog 24 #[.pointer (some ⟨b, 0, none⟩), .int .i64 n] wr fun e w' => ∃ bn, e = .returned (.pointer (some ⟨bn, 0, none⟩)) ∧ DKS w' bn wr.heap.size i c0D N (FFc N) [] ∧ Below wr.heap.size wr w' := by
  have hle := h.le
  refine (wcut_dks h.ks n hn (by omega) (by rw [ULc_len]; omega) (by omega) (fun k t _ => Nat.le_trans (cut_len s i k t) (by omega)) N (by rw [ULc_len]; omega)).mono ?_
  rintro e w' ⟨bn, he, hb, hk, hbl⟩
  have : (fun t => (fstB ((ULc s i).drop (N - s)) t).getD (FFc i t)) = FFc N := funext fun t => cut_is (by omega) (by omega) t
  rw [this] at hk
  exact ⟨bn, he, hk, hbl⟩
end
theorem cut_again {w : World} {b B K N : Nat} (h : DKS w b B K c0D N (FFc N) []) (hN : N ≤ 40) (hK : K ≤ 1000000) :
    Calls Try.prog 24 #[.pointer (some ⟨b, 0, none⟩), .int .i64 0] w fun e w' => ∃ bn, e = .returned (.pointer (some ⟨bn, 0, none⟩)) ∧ DKS w' bn w.heap.size K c0D N (FFc N) [] ∧ Below w.heap.size w w' := by
  refine (wcut_dks h 0 (by decide) (by omega) (by simp) hK (fun k t _ => by simp only [List.drop_nil]; show (FFc N t).length ≤ 1000000; have := FFc_len N t; omega) N (by simp)).mono ?_
  rintro e w' ⟨bn, he, hb, hk, hbl⟩
  refine ⟨bn, he, ?_, hbl⟩
  rw [List.drop_nil] at hk
  exact hk
theorem raw_is {w : World} {b B K s : Nat} {F : ByteArray → List UInt8} {UL : List (ByteArray × List UInt8)} (h : DKS w b B K c0D s F UL) (hs : s ≤ 40) (hU : UL.length ≤ 40) (R : Nat) (hR : s + UL.length = R) :
    Calls Try.prog 27 #[.pointer (some ⟨b, 0, none⟩)] w fun e w' => e = .returned (.int .i64 (R : Int)) ∧ Below w.heap.size w w' := by
  refine (raw_any h (by omega) (by omega)).mono ?_
  rintro e w' ⟨he, q, rfl⟩
  exact ⟨by rw [he, ← hR]; simp, bel_drewN (Below.refl _ _) q⟩
theorem load_is {w : World} {b B K s N : Nat} {UL : List (ByteArray × List UInt8)} (h : DKS w b B K c0D s (FFc N) UL) (hN : N ≤ 40) :
    Calls Try.prog 28 #[.pointer (some ⟨b, 0, none⟩), .string dB] w fun e w' => ∃ p c', e = .returned (.slice p N c') ∧ Below w.heap.size w w' := by
  refine (load_any h dB (by decide) (by have := FFc_len N dB; omega)).mono ?_
  rintro e w' ⟨p, c', he, _, hb⟩
  rw [FFc_d, bsU_len] at he
  exact ⟨p, c', he, hb⟩
end Go.Proofs.Ytfpgobbkeocokaa
