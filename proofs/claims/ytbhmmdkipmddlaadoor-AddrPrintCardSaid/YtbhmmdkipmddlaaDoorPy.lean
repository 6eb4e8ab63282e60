/- Contracts: the longest run of zeros, sixteen bytes printed, Print. -/
import Derived.Test.YtbhmmdkipmddlaaDoorPx
import Derived.BigQuiet
namespace Go.Tx
/-- Where the longest run begins and ends, as the program keeps it. -/
def fromTo : Option (Nat × Nat) → Nat × Nat
  | none => (0, 0)
  | some (i, m) => (i, i + m)
theorem fromTo_step {Z : List Bool} {k f g r : Nat} (h : fromTo (best Z k) = (f, g)) (hr : runL Z k = r) : fromTo (best Z (k + 1)) = if max (g - f) 1 < r then (k, k + r) else (f, g) := by
  cases hb : best Z k with
  | none =>
    rw [hb] at h
    cases h
    rw [best_none hb, hr]
    by_cases h1 : 1 < r
    · rw [if_pos h1, if_pos (by omega)]; rfl
    · rw [if_neg h1, if_neg (by omega)]; rfl
  | some p =>
    obtain ⟨i, m⟩ := p
    have hm := best_ok Z k i m hb
    rw [hb] at h
    simp only [fromTo, Prod.mk.injEq] at h
    obtain ⟨rfl, rfl⟩ := h
    rw [best_some hb, hr]
    by_cases h1 : m < r
    · rw [if_pos h1, if_pos (by omega)]; rfl
    · rw [if_neg h1, if_neg (by omega)]; rfl
theorem fromTo_le (Z : List Bool) (k : Nat) : (fromTo (best Z k)).1 ≤ (fromTo (best Z k)).2 ∧ (fromTo (best Z k)).2 ≤ Z.length := by
  cases hb : best Z k with
  | none => exact ⟨Nat.le_refl _, Nat.zero_le _⟩
  | some p =>
    obtain ⟨i, m⟩ := p
    have hm := best_ok Z k i m hb
    simp only [fromTo]
    omega
end Go.Tx
namespace Go.Proofs.YtbhmmdkipmddlaaDoor
open Go.RowKit Go.Lib Go.Tx Go.Rb
def zerosOf (X : List ByteArray) : List Bool := X.map fun x => decide (x.data.toList = [48])
set_option maxHeartbeats 2000000 in
set_option maxRecDepth 100000 in
theorem plrun_any (x0 x1 x2 x3 x4 x5 x6 x7 : ByteArray) (w : World) (f g : Nat) (hfg : fromTo (best (zerosOf [x0, x1, x2, x3, x4, x5, x6, x7]) 8) = (f, g)) :
    Calls Tryd.prog 35 #[.agg #[.string x0, .string x1, .string x2, .string x3, .string x4, .string x5, .string x6, .string x7]] w fun e w' => e = .returned (.tuple #[.int .i64 (f : Int), .int .i64 (g : Int)]) ∧ Below w.heap.size w w' := by
  have HFG := Lib.hid hfg
  clear hfg
  have hcells : ∀ (e : TypeId) (j : Nat) (x : ByteArray), [x0, x1, x2, x3, x4, x5, x6, x7][j]? = some x → (w.alloc (.cells #[.string x0, .string x1, .string x2, .string x3, .string x4, .string x5, .string x6, .string x7] e)).cell? ⟨w.heap.size, j, none⟩ = some (.string x) := by
    intro e j x hj
    rw [World.cell?_alloc_new]
    match j, hj with
    | 0, hj => cases hj; rfl
    | 1, hj => cases hj; rfl
    | 2, hj => cases hj; rfl
    | 3, hj => cases hj; rfl
    | 4, hj => cases hj; rfl
    | 5, hj => cases hj; rfl
    | 6, hj => cases hj; rfl
    | 7, hj => cases hj; rfl
    | j + 8, hj => simp at hj
  have HCE := Lib.hid hcells
  clear hcells
  have hXl : [x0, x1, x2, x3, x4, x5, x6, x7].length = 8 := rfl
  go_enter Tryd.func35, Tryd.ntmps35
  go_wp2
  have HC := Lib.hid (HCE.out 52)
  have hb : Below w.heap.size w (w.alloc (.cells #[.string x0, .string x1, .string x2, .string x3, .string x4, .string x5, .string x6, .string x7] 52)) := (Below.refl _ _).alloc (Nat.le_refl _) _
  clear HCE
  generalize hXX : [x0, x1, x2, x3, x4, x5, x6, x7] = X at *
  generalize (w.alloc (.cells #[.string x0, .string x1, .string x2, .string x3, .string x4, .string x5, .string x6, .string x7] 52)) = w2 at *
  clear hXX
  have hZl : (zerosOf X).length = 8 := by unfold zerosOf; rw [List.length_map]; exact hXl
  have HXL := Lib.hid hXl
  have HZL := Lib.hid hZl
  have HZA : Hid (∀ (j : Nat) x, X[j]? = some x → (zerosOf X)[j]? = some (decide (x.data.toList = [48]))) := Lib.hid (fun j x h => by unfold zerosOf; rw [List.getElem?_map, h]; rfl)
  clear hXl hZl
  generalize zerosOf X = Z at *
  go_loop [2, 3, 6] (fun a b i => ∃ (k p q : Nat), k ≤ 8 ∧ i = .int .i64 k ∧ a = .int .i64 p ∧ b = .int .i64 q ∧ p ≤ q ∧ q ≤ 8 ∧ Hid (fromTo (best Z k) = (p, q))) (fun _ _ i => 8 - (RowKit.intOf i).toNat)
  case atStart => exact ⟨0, 0, 0, Nat.zero_le _, rfl, rfl, rfl, Nat.le_refl _, Nat.zero_le _, Lib.hid rfl⟩
  case round =>
    obtain ⟨k, p, q, hk, rfl, rfl, rfl, hpq, hq8, hI⟩ := hrel
    by_cases hlt : k < 8
    · go_wp2
      go_loop [5] (fun v => ∃ n : Nat, k + n ≤ 8 ∧ v = .int .i64 ((k + n : Nat) : Int) ∧ Hid (∀ j, j < n → Z[k + j]? = some true)) (fun v => 8 - (RowKit.intOf v).toNat)
      case atStart => exact ⟨0, by omega, rfl, Lib.hid (fun j h => by omega)⟩
      case round =>
        obtain ⟨n, hn, rfl, hN⟩ := hrel
        by_cases hlt2 : k + n < 8
        · obtain ⟨x, hx⟩ : ∃ x, X[k + n]? = some x := ⟨_, List.getElem?_eq_getElem (by rw [HXL.out]; exact hlt2)⟩
          have hcell := HC.out (k + n) x hx
          have hz := HZA.out (k + n) x hx
          by_cases h48 : x.data.toList = [48]
          · have e : (x.toList == [48]) = true := by rw [toList_data, h48]; rfl
            have HZ1 : Hid (Z[k + n]? = some true) := Lib.hid (by rw [hz, decide_eq_true h48])
            clear h48 hz hx
            go_wp2
            go_round
            case rel => exact ⟨n + 1, by omega, by go_num, Lib.hid (fun j hj => by
              by_cases hjn : j = n
              · rw [hjn]; exact HZ1.out
              · exact hN.out j (by omega))⟩
            case measure => simp [RowKit.intOf]; omega
          · have e : (x.toList == [48]) = false := by rw [toList_data, beq_eq_false_iff_ne]; exact h48
            have HR : Hid (runL Z k = n) := Lib.hid (runL_eq hN.out (by rw [hz, decide_eq_false h48]; simp))
            clear h48 hz hx
            have HS := Lib.hid (fromTo_step hI.out HR.out)
            by_cases hm : max (q - p) 1 < n
            · have HS2 : Hid (fromTo (best Z (k + 1)) = (k, k + n)) := Lib.hid (by have := HS.out; rw [if_pos hm] at this; exact this)
              go_wp2
              go_round
              case rel => exact ⟨k + 1, k, k + n, by omega, by go_num, rfl, by go_num, by omega, by omega, HS2⟩
              case measure => simp [RowKit.intOf]; omega
            · have HS2 : Hid (fromTo (best Z (k + 1)) = (p, q)) := Lib.hid (by have := HS.out; rw [if_neg hm] at this; exact this)
              go_wp2
              go_round
              case rel => exact ⟨k + 1, p, q, by omega, by go_num, rfl, rfl, hpq, hq8, HS2⟩
              case measure => simp [RowKit.intOf]; omega
        · have HR : Hid (runL Z k = n) := Lib.hid (runL_eq hN.out (by rw [List.getElem?_eq_none (by rw [HZL.out]; omega)]; simp))
          have hn8 : k + n = 8 := by omega
          have HS := Lib.hid (fromTo_step hI.out HR.out)
          by_cases hm : max (q - p) 1 < n
          · have HS2 : Hid (fromTo (best Z (k + 1)) = (k, k + n)) := Lib.hid (by have := HS.out; rw [if_pos hm] at this; exact this)
            go_wp2
            go_round
            case rel => exact ⟨k + 1, k, k + n, by omega, by go_num, rfl, by go_num, by omega, by omega, HS2⟩
            case measure => simp [RowKit.intOf]; omega
          · have HS2 : Hid (fromTo (best Z (k + 1)) = (p, q)) := Lib.hid (by have := HS.out; rw [if_neg hm] at this; exact this)
            go_wp2
            go_round
            case rel => exact ⟨k + 1, p, q, by omega, by go_num, rfl, rfl, hpq, hq8, HS2⟩
            case measure => simp [RowKit.intOf]; omega
    · obtain rfl : k = 8 := by omega
      have hf : p = f ∧ q = g := by
        have h1 := hI.out
        have h2 := HFG.out
        rw [h1] at h2
        exact ⟨congrArg Prod.fst h2, congrArg Prod.snd h2⟩
      obtain ⟨rfl, rfl⟩ := hf
      go_wp2
      go_ret2
      exact ⟨rfl, hb⟩
end Go.Proofs.YtbhmmdkipmddlaaDoor
