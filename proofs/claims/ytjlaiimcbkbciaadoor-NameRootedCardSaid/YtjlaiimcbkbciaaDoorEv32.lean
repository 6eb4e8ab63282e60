/- More functions that are known by a contract: strings.Count at one byte, functions that turn each byte of a text. -/
import Derived.Test.YtjlaiimcbkbciaaDoorEv31
import Derived.Lib.Bytealg
noncomputable section
namespace Go.Ev
open Go Go.RowKit
def countN (b : Nat) : List Nat → Nat → Nat
  | [], n => n
  | x :: l, n => match Nat.beq x b with
    | true => countN b l (n + 1)
    | false => countN b l n
def countF (l : List AV) (H : AHeap) : Option (AV × AHeap) :=
  match l with
  | [.str s, .str [b]] => some (.int .i64 (Int.ofNat (countN b s 0)), H)
  | _ => none
theorem countN_eq (b : Nat) (hb : b < 256) : ∀ (l : List Nat) (n : Nat), (∀ x ∈ l, x < 256) → countN b l n = n + (l.map UInt8.ofNat).count (UInt8.ofNat b)
  | [], n, _ => by simp [countN]
  | x :: l, n, h => by
    unfold countN
    have hx := h x (by simp)
    have hl : ∀ y ∈ l, y < 256 := fun y hy => h y (by simp [hy])
    by_cases e : x = b
    · subst e
      rw [Nat.beq_refl]
      simp only [List.map_cons, List.count_cons_self]
      rw [countN_eq x hb l (n + 1) hl]
      omega
    · have h1 : Nat.beq x b = false := by
        cases hh : Nat.beq x b
        · rfl
        · exact absurd (Nat.eq_of_beq_eq_true hh) e
      have h2 : UInt8.ofNat x ≠ UInt8.ofNat b := fun he => e (ofNat_inj hx hb he)
      rw [h1]
      simp only [List.map_cons]
      rw [countN_eq b hb l n hl, List.count_cons_of_ne h2]
theorem FnOK.count {P : Program} {B : Bas} {f : Nat}
    (c : ∀ (s : ByteArray) (c : UInt8) (w : World), Calls P f #[.string s, .string ⟨#[c]⟩] w fun e w' => e = .returned (.int .i64 (Lib.countByte s.data.toList c)) ∧ w' = w) : FnOK P B f countF := by
  refine FnOK.of fun l H r H' hh => ?_
  unfold countF at hh
  split at hh
  · rename_i s b
    cases hh
    refine ⟨rfl, fun ρ w vs hr hv => ?_⟩
    obtain ⟨v, ws, rfl, ⟨rfl, hs⟩, u, ws', rfl, ⟨rfl, hm⟩, hn⟩ := hv
    simp only [VRL] at hn
    subst hn
    refine (c (bs s) (UInt8.ofNat b) w).mono fun e w' ⟨h3, h4⟩ => ?_
    subst h4
    refine ⟨_, h3, ?_, Below.refl _ _⟩
    rw [bs_list, countN_eq b (hm b (by simp)) s 0 hs]
    simp [VR, Lib.countByte]
  · cases hh
/-- Each byte of a text turned. -/
def mapF (g : Nat → Nat) (l : List AV) (H : AHeap) : Option (AV × AHeap) :=
  match l with
  | [.str s] => match Nat.ble s.length 140737488351232 with
    | true => some (.str (s.map g), H)
    | false => none
  | _ => none
theorem FnOK.map {P : Program} {B : Bas} {f : Nat} (g : Nat → Nat) (k : UInt8 → UInt8) (hk : ∀ x, x < 256 → g x < 256 ∧ k (UInt8.ofNat x) = UInt8.ofNat (g x))
    (c : ∀ (s : ByteArray) (w : World), s.size ≤ 140737488351232 → Calls P f #[.string s] w fun e w' => e = .returned (.string ⟨(s.data.toList.map k).toArray⟩) ∧ Below w.heap.size w w') : FnOK P B f (mapF g) := by
  refine FnOK.of fun l H r H' hh => ?_
  unfold mapF at hh
  split at hh
  · rename_i s
    split at hh
    · rename_i hl
      cases hh
      refine ⟨rfl, fun ρ w vs hr hv => ?_⟩
      obtain ⟨v, ws, rfl, ⟨rfl, hs⟩, hn⟩ := hv
      simp only [VRL] at hn
      subst hn
      refine (c (bs s) w (by rw [bs_size]; exact Nat.le_of_ble_eq_true hl)).mono fun e w' ⟨h3, h4⟩ => ⟨_, h3, ⟨?_, fun x hx => ?_⟩, h4⟩
      · rw [bs_list, List.map_map]
        have : s.map (k ∘ UInt8.ofNat) = (s.map g).map UInt8.ofNat := by
          rw [List.map_map]
          exact List.map_congr_left fun x hx => (hk x (hs x hx)).2
        rw [this]
        rfl
      · obtain ⟨y, hy, rfl⟩ := List.mem_map.1 hx
        exact (hk y (hs y hy)).1
    · cases hh
  · cases hh
/-- A to Z as a to z. -/
def lowN (x : Nat) : Nat := match Nat.ble 65 x, Nat.ble x 90 with
  | true, true => x + 32
  | _, _ => x
end Go.Ev
