/- Contract of svctab.namesAmong. -/
import Derived.Test.YtmnahgeledddhaaVc
namespace Go.Tx
open Go.RowKit
theorem svc_take {r : List (List UInt8)} {j : Nat} {l : List UInt8} (h : r[j]? = some l) : (r.take (j + 1)).filter svcB = (r.take j).filter svcB ++ if svcB l = true then [l] else [] := by
  rw [takeH h, List.filter_append]
  by_cases hb : svcB l = true <;> simp [hb]
end Go.Tx
namespace Go.Proofs.Ytmnahgeledddhaa
open Go.RowKit Go.Lib Go.Tx
theorem own_lit (w : World) (x : List UInt8) : StrC w.heap.size (w.alloc (.cells #[.string ⟨x.toArray⟩] 9)) (.slice (some ⟨w.heap.size, 0, none⟩) 1 1) [x] :=
  ⟨rfl, .inr ⟨_, 1, _, rfl, Nat.le_refl _, heap_alloc_new w _, Nat.le_refl _, by decide, rfl, rfl⟩⟩
theorem one_textsH (w : World) (x : ByteArray) : TextsIn (w.alloc (.cells #[.string x] 9)) (.slice (some ⟨w.heap.size, 0, none⟩) 1 1) [x.data.toList] := by
  refine .inr ⟨_, 1, rfl, fun i l hi => ?_⟩
  have ha : (⟨w.heap.size, 0, none⟩ : Addr).add i = ⟨w.heap.size, i, none⟩ := by unfold Addr.add; split <;> simp_all
  rw [ha, World.cell?_alloc_new]
  match i, hi with
  | 0, hi => cases hi; rfl
/-- The words from the second on. -/
theorem tail2 (A m : Nat) (r : List (List UInt8)) (hm : r.length = m) : ∃ a' : Option Addr, (∀ W : World, (Instr.slice 34 (.slice (some ⟨A, 0, none⟩) (m + 2) (m + 2)) (some (.int .i64 2)) none none).run Try.prog W = .ok (.slice a' m m) W) ∧ ∀ (j : Nat) l, r[j]? = some l → ∃ x, a' = some x ∧ x.add j = ⟨A, 2 + j, none⟩ := by
  have hel : Try.prog.elem 34 = 9 := by kernel_rfl
  refine ⟨if m = 0 then some ⟨A, 0, none⟩ else some ((⟨A, 0, none⟩ : Addr).add 2), fun W => ?_, ?_⟩
  · have := run_slice_l (P := Try.prog) (w := W) 34 (some ⟨A, 0, none⟩) (m + 2) (m + 2) (by rw [hel]; exact Try.underlying34) .i64 2 (by omega) (by omega)
    rw [this, hel, Try.sizeOf9]
    simp only [Result.andThen_ok, sliced]
    by_cases h0 : m = 0
    · rw [if_pos (by rw [h0]; rfl), if_pos h0, h0]; rfl
    · rw [if_neg (by show ¬ m + 2 = 2; omega), if_neg h0]
      rfl
  · intro j l hj
    have h0 : ¬ m = 0 := by have := (List.getElem?_eq_some_iff.1 hj).1; omega
    rw [if_neg h0]
    refine ⟨_, rfl, ?_⟩
    rw [Addr.add_add]
    unfold Addr.add
    split <;> simp_all
set_option maxHeartbeats 2000000 in
set_option maxRecDepth 100000 in
theorem namesAmong_any (A : Nat) (x y : List UInt8) (r : List (List UInt8)) (m : Nat) (w : World) (h : Words w A (x :: y :: r)) (hA : A < w.heap.size) (hm : r.length = m) (hmax : m ≤ 1000) :
    Calls Try.prog 21 #[.slice (some ⟨A, 0, none⟩) (m + 2) (m + 2)] w fun e w' => ∃ v, e = .returned v ∧ StrC w.heap.size w' v (x :: r.filter svcB) ∧ Below w.heap.size w w' := by
  obtain ⟨a', hsl, hat⟩ := tail2 A m r hm
  have HWd := Lib.hid (fun W (hb : Below w.heap.size w W) => h.below hA hb)
  have HAt := Lib.hid hat
  have HM := Lib.hid hm
  have hx0 := h 0 x rfl
  have HO := Lib.hid (own_lit w x)
  obtain ⟨xb, hxb⟩ : ∃ q : ByteArray, (⟨x.toArray⟩ : ByteArray) = q := ⟨_, rfl⟩
  rw [hxb] at hx0 HO
  have hB0 : Below w.heap.size w (w.alloc (.cells #[.string xb] 9)) := (Below.refl _ w).alloc (Nat.le_refl _) _
  clear h hat hm hxb
  have h2 : ((m + 2 : Nat) : Int) = (m : Int) + 2 := by omega
  go_enter Try.func21, Try.ntmps21
  go_wp2
  go_loopw [3, 13] (fun ov iv wr => ∃ k : Nat, k ≤ m ∧ iv = .int .i64 k ∧ StrC w.heap.size wr ov (x :: (r.take k).filter svcB) ∧ Below w.heap.size w wr) (fun _ iv _ => m - (intOf iv).toNat)
  case atStart => exact ⟨0, Nat.zero_le _, rfl, HO.out, hB0⟩
  case round =>
    obtain ⟨k, hk, rfl, hown, hbel⟩ := hrel
    obtain ⟨pv, cv, rfl⟩ := hown.shape
    have hfl : (x :: (r.take k).filter svcB).length ≤ 1001 := by
      have h1 := List.length_filter_le svcB (r.take k)
      have h2 := List.length_take_le k r
      simp only [List.length_cons]; omega
    have HOwn := Lib.hid hown
    clear hown
    by_cases hlt : k < m
    · obtain ⟨z, hz⟩ : ∃ z, r[k]? = some z := ⟨_, List.getElem?_eq_getElem (by rw [HM.out]; exact hlt)⟩
      obtain ⟨ad, rfl, had⟩ := HAt.out k z hz
      have hcz := HWd.out wr hbel (2 + k) z (by rw [show 2 + k = k + 2 from by omega]; simpa using hz)
      have HTk := Lib.hid (svc_take hz)
      have hcell : wr.cell? (ad.add k) = some (.string ⟨z.toArray⟩) := by rw [had]; exact hcz
      have HN := Lib.hid (fun w => svcName_any ⟨z.toArray⟩ w)
      have e1 : (ByteArray.data ⟨z.toArray⟩).toList = z := rfl
      rw [e1] at HN
      obtain ⟨zb, hzb⟩ : ∃ q : ByteArray, (⟨z.toArray⟩ : ByteArray) = q := ⟨_, rfl⟩
      rw [hzb] at hcell HN
      have HZ : Hid (zb.data.toList = z) := Lib.hid (by rw [← hzb])
      clear hz hcz had e1 hzb
      by_cases hs : svcB z = true
      · rw [hs] at HN
        rw [if_pos hs] at HTk
        clear hs
        go_wp2_with (first | (go_at_call 32; refine (HN.out _).mono ?_; rintro e w2 ⟨rfl, hb2⟩) | (at_builtin; refine wpList_append_texts rfl _ _ rfl (B := w.heap.size) rfl rfl (World.ownsRow.alloc (own_below HOwn.out hb2) _) (one_textsH _ _) (by simp only [List.length_cons, List.length_nil] at hfl ⊢; omega) (by have := hbel.size; have := hb2.size; show w.heap.size ≤ (Array.push _ _).size; simp; omega) ?_; intro v' w5 hown5 hb5))
        go_roundw
        case rel =>
          have hb23 := hbel.trans (hb2.mono hbel.size)
          exact ⟨k + 1, hlt, by go_num, by rw [HTk.out, ← List.cons_append, ← HZ.out]; exact hown5, (hb23.alloc hb23.size _).trans hb5⟩
        case measure => simp [intOf]; omega
      · have hs' : svcB z = false := by simpa using hs
        rw [hs'] at HN
        rw [if_neg hs] at HTk
        clear hs hs'
        go_wp2_with (go_at_call 32; refine (HN.out _).mono ?_; rintro e w2 ⟨rfl, hb2⟩)
        go_roundw
        case rel => exact ⟨k + 1, hlt, by go_num, by rw [HTk.out, List.append_nil]; exact own_below HOwn.out hb2, hbel.trans (hb2.mono hbel.size)⟩
        case measure => simp [intOf]; omega
    · obtain rfl : k = m := by omega
      have HE : Hid (r.take k = r) := Lib.hid (List.take_of_length_le (by rw [HM.out]; exact Nat.le_refl _))
      go_wp2
      go_ret
      exact ⟨_, rfl, by have := HOwn.out; rw [HE.out] at this ⊢; exact this, hbel⟩
end Go.Proofs.Ytmnahgeledddhaa
