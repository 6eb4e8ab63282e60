/- Contract: four bytes printed. -/
import Derived.Test.YtjlaiimcbkbciaaDoorTb6
import Derived.WalkKit
import Derived.LoopTactic
namespace Go.Proofs.YtjlaiimcbkbciaaDoor
open Go.RowKit Go.Ev Go.Fr Go.Lib
/-- An array of four texts that is being filled. -/
structure Four (w : World) (b k : Nat) (l : List UInt8) : Prop where
  lt : b < w.heap.size
  free : ∀ j, j < 4 → w.frozen? ⟨b, j, none⟩ = false
  held : ∀ j, j < 4 → ∃ v, w.cell? ⟨b, j, none⟩ = some v
  told : ∀ (j : Nat) c, j < k → l[j]? = some c → w.cell? ⟨b, j, none⟩ = some (.string (bs (decD c.toNat)))
theorem Four.below {w w' : World} {b k : Nat} {l : List UInt8} (h : Four w b k l) (hb : Below w.heap.size w w') : Four w' b k l :=
  ⟨Nat.lt_of_lt_of_le h.lt hb.size, fun j hj => by rw [World.frozen?_of_block (w := w) (hb.block b h.lt)]; exact h.free j hj, fun j hj => by rw [hb.cell (p := ⟨b, j, none⟩) h.lt]; exact h.held j hj,
    fun j c hj hc => by rw [hb.cell (p := ⟨b, j, none⟩) h.lt]; exact h.told j c hj hc⟩
theorem decD_len (n : Nat) : (decD n).length ≤ 3 := by unfold decD; split; simp; split <;> simp
theorem joinTail_small (sep : List UInt8) (hsep : sep.length ≤ 1) : ∀ (l : List (List UInt8)), (∀ x ∈ l, x.length ≤ 3) → (Lib.joinTail sep l).length ≤ 4 * l.length
  | [], _ => by simp [Lib.joinTail]
  | y :: r, h => by
    have h1 := joinTail_small sep hsep r fun x hx => h x (by simp [hx])
    have h2 := h y (by simp)
    have e : Lib.joinTail sep (y :: r) = sep ++ y ++ Lib.joinTail sep r := by simp [Lib.joinTail]
    rw [e]
    simp only [List.length_append, List.length_cons]
    omega
theorem join_few (sep : List UInt8) (hsep : sep.length ≤ 1) (l : List (List UInt8)) (h : ∀ x ∈ l, x.length ≤ 3) : (Lib.join l sep).length ≤ 4 * l.length := by
  cases l with
  | nil => simp [Lib.join]
  | cons x r =>
    have h1 := joinTail_small sep hsep r fun y hy => h y (by simp [hy])
    have h2 := h x (by simp)
    rw [Lib.join_cons]
    simp only [List.length_append, List.length_cons]
    omega
theorem join_small (l : List UInt8) (h : l.length ≤ 100) : (Lib.join (l.map ((fun x => x.data.toList) ∘ fun c => bs (decD c.toNat))) [46]).length ≤ 140737488355328 := by
  have := join_few [46] (by decide) (l.map ((fun x => x.data.toList) ∘ fun c => bs (decD c.toNat))) (fun x hx => by
    obtain ⟨c, _, rfl⟩ := List.mem_map.1 hx
    have := decD_len c.toNat
    simp only [Function.comp, bs_list, List.length_map]
    exact this)
  rw [List.length_map] at this
  omega
theorem four_new (w : World) (arr : Array Value) (e : TypeId) (h : arr.size = 4) (l : List UInt8) : Four (w.alloc (.cells arr e)) w.heap.size 0 l :=
  ⟨by show w.heap.size < (w.heap.push _).size; simp, fun j hj => World.frozen?_alloc_at arr e _ j rfl, fun j hj => by rw [World.cell?_alloc_new]; exact ⟨arr[j], by simp [h, hj]⟩, fun j c hj => by omega⟩
theorem Four.step {w : World} {b k : Nat} {l : List UInt8} {c : UInt8} (h : Four w b k l) (hk : k < 4) (hc : l[k]? = some c) : Four (w.setCell ⟨b, k, none⟩ (.string (bs (decD c.toNat)))) b (k + 1) l := by
  have hne : ∀ j, j ≠ k → (⟨b, k, none⟩ : Addr) ≠ ⟨b, j, none⟩ := fun j hj e => by cases e; exact hj rfl
  obtain ⟨u, hu⟩ := h.held k hk
  refine ⟨by simpa using h.lt, fun j hj => by simpa using h.free j hj, fun j hj => ?_, fun j d hj hd => ?_⟩
  · by_cases e : j = k
    · subst e; exact ⟨_, World.cell?_setCell_same w _ _ hu⟩
    · rw [World.cell?_setCell_other w _ _ _ (hne j e)]; exact h.held j hj
  · by_cases e : j = k
    · subst e
      rw [hc] at hd
      cases hd
      exact World.cell?_setCell_same w _ _ hu
    · rw [World.cell?_setCell_other w _ _ _ (hne j e)]; exact h.told j d (by omega) hd
set_option maxHeartbeats 1000000 in
theorem printShort_any {W : World} (s : ByteArray) (w : World) (hs : s.size = 4) (h : EOK E0 (Bas.of W)) (hb : Below W.heap.size W w) :
    Calls Tryd.prog 34 #[.string s] w fun e w' => e = .returned (.string ⟨(Lib.join (s.data.toList.map fun c => (bs (decD c.toNat)).data.toList) [46]).toArray⟩) ∧ Below w.heap.size w w' := by
  have HI := Lib.hid (fun (w : World) (hb : Below W.heap.size W w) (n : Nat) hn => itoa_later (W := W) (w := w) h hb n hn)
  have HB := Lib.hid hb
  have hsz := hb.size
  have hlen : s.data.toList.length = 4 := hs
  have HJ : Hid (∀ (w : World) (b : Nat), Four w b 4 s.data.toList → Calls Tryd.prog 38 #[.slice (some ⟨b, 0, none⟩) 4 4, .string ⟨#[46]⟩] w fun e w' => e = .returned (.string ⟨(Lib.join (s.data.toList.map fun c => (bs (decD c.toNat)).data.toList) [46]).toArray⟩) ∧ Below w.heap.size w w') := Lib.hid (fun w b hf => by
    have hj := Tryd.strings_Join b 0 4 (s.data.toList.map fun c => bs (decD c.toNat)) ⟨#[46]⟩ w (fun j x hx => by
      rw [List.getElem?_map] at hx
      obtain ⟨c, hc, rfl⟩ := Option.map_eq_some_iff.1 hx
      have hjl := (List.getElem?_eq_some_iff.1 hc).1
      rw [Nat.zero_add]
      exact hf.told j c (by omega) hc) hf.lt (by rw [List.length_map, hlen]; decide) (by rw [List.length_map, hlen]; decide) (by
        rw [List.map_map]
        exact join_small _ (by rw [hlen]; decide))
    rw [List.length_map, hlen, List.map_map] at hj
    exact hj)
  clear h hb
  generalize (⟨(Lib.join (s.data.toList.map fun c => (bs (decD c.toNat)).data.toList) [46]).toArray⟩ : ByteArray) = R at *
  go_enter Tryd.func34, Tryd.ntmps34
  go_wp2
  go_loopw [5] (fun i wr => ∃ k : Nat, k ≤ 4 ∧ i = .int .i64 k ∧ Four wr w.heap.size k s.data.toList ∧ Below w.heap.size w wr) (fun i _ => 4 - (intOf i).toNat)
  case atStart => exact ⟨0, by omega, rfl, four_new _ _ _ rfl _, (Below.refl _ _).alloc (Nat.le_refl _) _⟩
  case round =>
    obtain ⟨k, hk, rfl, hf, hbel⟩ := hrel
    by_cases hlt : k < 4
    · have hks : k < s.size := by omega
      have HK : Hid (s.data.toList[k]? = some s[k]) := Lib.hid (List.getElem?_eq_getElem hks)
      have hu := s[k].toNat_lt
      have HF := Lib.hid hf
      clear hf
      go_wp2_with (go_at_call 48; refine (HI.out _ (HB.out.trans (hbel.mono hsz)) _ hu).mono ?_; rintro e w2 ⟨rfl, hb2⟩; have hf2 := HF.out.below hb2; obtain ⟨u, hcell⟩ := hf2.held k hlt; have hfree := hf2.free k hlt; have HF2 := Lib.hid hf2; clear hf2)
      go_roundw
      case rel => exact ⟨k + 1, hlt, by go_num, HF2.out.step hlt HK.out, (hbel.trans (hb2.mono hbel.size)).setCell (Nat.le_refl _) _⟩
      case measure => simp [intOf]; omega
    · obtain rfl : k = 4 := by omega
      have HF := Lib.hid hf
      clear hf
      go_wp2_with (go_at_call 38; refine (HJ.out _ _ HF.out).mono ?_; rintro e w2 ⟨rfl, hb2⟩)
      go_ret
      exact ⟨rfl, hbel.trans (hb2.mono hbel.size)⟩
end Go.Proofs.YtjlaiimcbkbciaaDoor
