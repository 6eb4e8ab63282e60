/- Contracts and plain facts that the law leans on. -/
import Derived.Test.YtaoapkbfcofamaaDoorQcCb
namespace Go.Proofs.YtaoapkbfcofamaaDoor
open Go.RowKit Go.Lib Go.Tx Go.Extern.Stop Go.Stop

theorem kq0 (w : World) (hl : LibAt w) : Calls Tryd.prog 12 #[.agg #[.int .i64 1, .string ⟨#[65, 98, 46, 67]⟩, .string ⟨#[]⟩, .int .i64 0]] w fun e w' => e = .returned (.string ⟨#[49, 47, 48, 47, 47, 97, 98, 46, 99]⟩) ∧ Below w.heap.size w w' := by
  have h := key_any ⟨1, ⟨#[65, 98, 46, 67]⟩, ⟨#[]⟩, 0⟩ w (by decide) (by decide) hl
  have hk : keyL ⟨1, ⟨#[65, 98, 46, 67]⟩, ⟨#[]⟩, 0⟩ = [49, 47, 48, 47, 47, 97, 98, 46, 99] := by decide +kernel
  rw [hk] at h
  exact h
theorem kq1 (w : World) (hl : LibAt w) : Calls Tryd.prog 12 #[.agg #[.int .i64 1, .string ⟨#[97, 66, 46, 99]⟩, .string ⟨#[105, 103, 110, 111, 114, 101, 100]⟩, .int .i64 7]] w fun e w' => e = .returned (.string ⟨#[49, 47, 48, 47, 47, 97, 98, 46, 99]⟩) ∧ Below w.heap.size w w' := by
  have h := key_any ⟨1, ⟨#[97, 66, 46, 99]⟩, ⟨#[105, 103, 110, 111, 114, 101, 100]⟩, 7⟩ w (by decide) (by decide) hl
  have hk : keyL ⟨1, ⟨#[97, 66, 46, 99]⟩, ⟨#[105, 103, 110, 111, 114, 101, 100]⟩, 7⟩ = [49, 47, 48, 47, 47, 97, 98, 46, 99] := by decide +kernel
  rw [hk] at h
  exact h
theorem kq2 (w : World) (hl : LibAt w) : Calls Tryd.prog 12 #[.agg #[.int .i64 1, .string ⟨#[97, 98, 46, 99, 46]⟩, .string ⟨#[]⟩, .int .i64 0]] w fun e w' => e = .returned (.string ⟨#[49, 47, 48, 47, 47, 97, 98, 46, 99, 46]⟩) ∧ Below w.heap.size w w' := by
  have h := key_any ⟨1, ⟨#[97, 98, 46, 99, 46]⟩, ⟨#[]⟩, 0⟩ w (by decide) (by decide) hl
  have hk : keyL ⟨1, ⟨#[97, 98, 46, 99, 46]⟩, ⟨#[]⟩, 0⟩ = [49, 47, 48, 47, 47, 97, 98, 46, 99, 46] := by decide +kernel
  rw [hk] at h
  exact h
theorem kq3 (w : World) (hl : LibAt w) : Calls Tryd.prog 12 #[.agg #[.int .i64 3, .string ⟨#[97, 98]⟩, .string ⟨#[84, 67, 80]⟩, .int .i64 0]] w fun e w' => e = .returned (.string ⟨#[51, 47, 48, 47, 116, 99, 112, 47, 97, 98]⟩) ∧ Below w.heap.size w w' := by
  have h := key_any ⟨3, ⟨#[97, 98]⟩, ⟨#[84, 67, 80]⟩, 0⟩ w (by decide) (by decide) hl
  have hk : keyL ⟨3, ⟨#[97, 98]⟩, ⟨#[84, 67, 80]⟩, 0⟩ = [51, 47, 48, 47, 116, 99, 112, 47, 97, 98] := by decide +kernel
  rw [hk] at h
  exact h
theorem kq4 (w : World) (hl : LibAt w) : Calls Tryd.prog 12 #[.agg #[.int .i64 3, .string ⟨#[97, 98]⟩, .string ⟨#[116, 99, 112]⟩, .int .i64 0]] w fun e w' => e = .returned (.string ⟨#[51, 47, 48, 47, 116, 99, 112, 47, 97, 98]⟩) ∧ Below w.heap.size w w' := by
  have h := key_any ⟨3, ⟨#[97, 98]⟩, ⟨#[116, 99, 112]⟩, 0⟩ w (by decide) (by decide) hl
  have hk : keyL ⟨3, ⟨#[97, 98]⟩, ⟨#[116, 99, 112]⟩, 0⟩ = [51, 47, 48, 47, 116, 99, 112, 47, 97, 98] := by decide +kernel
  rw [hk] at h
  exact h
theorem kq5 (w : World) (hl : LibAt w) : Calls Tryd.prog 12 #[.agg #[.int .i64 3, .string ⟨#[65, 66]⟩, .string ⟨#[116, 99, 112]⟩, .int .i64 0]] w fun e w' => e = .returned (.string ⟨#[51, 47, 48, 47, 116, 99, 112, 47, 65, 66]⟩) ∧ Below w.heap.size w w' := by
  have h := key_any ⟨3, ⟨#[65, 66]⟩, ⟨#[116, 99, 112]⟩, 0⟩ w (by decide) (by decide) hl
  have hk : keyL ⟨3, ⟨#[65, 66]⟩, ⟨#[116, 99, 112]⟩, 0⟩ = [51, 47, 48, 47, 116, 99, 112, 47, 65, 66] := by decide +kernel
  rw [hk] at h
  exact h
theorem kq6 (w : World) (hl : LibAt w) : Calls Tryd.prog 12 #[.agg #[.int .i64 4, .string ⟨#[120]⟩, .string ⟨#[]⟩, .int .i64 80]] w fun e w' => e = .returned (.string ⟨#[52, 47, 56, 48, 47, 47]⟩) ∧ Below w.heap.size w w' := by
  have h := key_any ⟨4, ⟨#[120]⟩, ⟨#[]⟩, 80⟩ w (by decide) (by decide) hl
  have hk : keyL ⟨4, ⟨#[120]⟩, ⟨#[]⟩, 80⟩ = [52, 47, 56, 48, 47, 47] := by decide +kernel
  rw [hk] at h
  exact h
theorem kq7 (w : World) (hl : LibAt w) : Calls Tryd.prog 12 #[.agg #[.int .i64 4, .string ⟨#[]⟩, .string ⟨#[]⟩, .int .i64 80]] w fun e w' => e = .returned (.string ⟨#[52, 47, 56, 48, 47, 47]⟩) ∧ Below w.heap.size w w' := by
  have h := key_any ⟨4, ⟨#[]⟩, ⟨#[]⟩, 80⟩ w (by decide) (by decide) hl
  have hk : keyL ⟨4, ⟨#[]⟩, ⟨#[]⟩, 80⟩ = [52, 47, 56, 48, 47, 47] := by decide +kernel
  rw [hk] at h
  exact h
theorem kq8 (w : World) (hl : LibAt w) : Calls Tryd.prog 12 #[.agg #[.int .i64 1, .string ⟨#[97, 46, 98, 46]⟩, .string ⟨#[]⟩, .int .i64 0]] w fun e w' => e = .returned (.string ⟨#[49, 47, 48, 47, 47, 97, 46, 98, 46]⟩) ∧ Below w.heap.size w w' := by
  have h := key_any ⟨1, ⟨#[97, 46, 98, 46]⟩, ⟨#[]⟩, 0⟩ w (by decide) (by decide) hl
  have hk : keyL ⟨1, ⟨#[97, 46, 98, 46]⟩, ⟨#[]⟩, 0⟩ = [49, 47, 48, 47, 47, 97, 46, 98, 46] := by decide +kernel
  rw [hk] at h
  exact h
theorem ck14 (w : World) (hl : LibAt w) : Calls Tryd.prog 8 #[.agg #[.int .i64 1, .string ⟨#[65, 46, 98, 46]⟩, .string ⟨#[120]⟩, .int .i64 0]] w fun e w' => e = .returned (.tuple #[.agg #[.int .i64 1, .string ⟨#[97, 46, 98, 46]⟩, .string ⟨#[]⟩, .int .i64 0], .nilIface]) ∧ Below w.heap.size w w' := by
  have h := pcheck_any ⟨1, ⟨#[65, 46, 98, 46]⟩, ⟨#[120]⟩, 0⟩ w (by decide) (by decide) hl
  have h1 : (checkP ⟨1, ⟨#[65, 46, 98, 46]⟩, ⟨#[120]⟩, 0⟩).1 = ⟨1, ⟨#[97, 46, 98, 46]⟩, ⟨#[]⟩, 0⟩ := (eqQ_iff _ _).1 (by decide +kernel)
  have h2 : (checkP ⟨1, ⟨#[65, 46, 98, 46]⟩, ⟨#[120]⟩, 0⟩).2 = 0 := by decide +kernel
  rw [h1, h2] at h
  exact h
theorem fr14 (w : World) (hl : LibAt w) : Calls Tryd.prog 13 #[.string ⟨#[49, 47, 48, 47, 47, 97, 46, 98, 46]⟩] w fun e w' => e = .returned (.tuple #[.agg #[.int .i64 1, .string ⟨#[97, 46, 98, 46]⟩, .string ⟨#[]⟩, .int .i64 0], .bool true]) ∧ Below w.heap.size w w' := by
  have h := from_any ⟨#[49, 47, 48, 47, 47, 97, 46, 98, 46]⟩ w (by decide) hl
  have h2 : (checkP ⟨1, ⟨#[97, 46, 98, 46]⟩, ⟨#[]⟩, 0⟩).2 = 0 := by decide +kernel
  have hk : keyL ⟨1, ⟨#[97, 46, 98, 46]⟩, ⟨#[]⟩, 0⟩ = [49, 47, 48, 47, 47, 97, 46, 98, 46] := by decide +kernel
  have h1 : (checkP ⟨1, ⟨#[97, 46, 98, 46]⟩, ⟨#[]⟩, 0⟩).1 = ⟨1, ⟨#[97, 46, 98, 46]⟩, ⟨#[]⟩, 0⟩ := (eqQ_iff _ _).1 (by decide +kernel)
  have hf := from_key ⟨1, ⟨#[97, 46, 98, 46]⟩, ⟨#[]⟩, 0⟩ h2
  rw [hk, h1] at hf
  have hf' : fromP (ByteArray.data ⟨#[49, 47, 48, 47, 47, 97, 46, 98, 46]⟩).toList = some ⟨1, ⟨#[97, 46, 98, 46]⟩, ⟨#[]⟩, 0⟩ := hf
  rw [hf'] at h
  exact h
theorem eq14 (w : World) : Calls Tryd.prog 11 #[.agg #[.int .i64 1, .string ⟨#[97, 46, 98, 46]⟩, .string ⟨#[]⟩, .int .i64 0], .agg #[.int .i64 1, .string ⟨#[97, 46, 98, 46]⟩, .string ⟨#[]⟩, .int .i64 0]] w fun e w' => e = .returned (.bool true) ∧ Below w.heap.size w w' := by
  have h := reqq_any ⟨1, ⟨#[97, 46, 98, 46]⟩, ⟨#[]⟩, 0⟩ ⟨1, ⟨#[97, 46, 98, 46]⟩, ⟨#[]⟩, 0⟩ w
  rw [(eqQ_iff _ _).2 rfl] at h
  exact h
set_option maxHeartbeats 4000000 in
set_option maxRecDepth 100000 in
theorem begun14_any (w : World) (hl : LibAt w) : Calls Tryd.prog 6 #[] w fun e w' => e = .returned (.bool true) ∧ Below w.heap.size w w' := by
  have HC := Lib.hid (ck14 w hl)
  have HK : Hid (∀ W, Below w.heap.size w W → Calls Tryd.prog 12 #[.agg #[.int .i64 1, .string ⟨#[97, 46, 98, 46]⟩, .string ⟨#[]⟩, .int .i64 0]] W fun e w' => e = .returned (.string ⟨#[49, 47, 48, 47, 47, 97, 46, 98, 46]⟩) ∧ Below W.heap.size W w') := Lib.hid (fun W hb => kq8 W (hl.below hb))
  have HF : Hid (∀ W, Below w.heap.size w W → Calls Tryd.prog 13 #[.string ⟨#[49, 47, 48, 47, 47, 97, 46, 98, 46]⟩] W fun e w' => e = .returned (.tuple #[.agg #[.int .i64 1, .string ⟨#[97, 46, 98, 46]⟩, .string ⟨#[]⟩, .int .i64 0], .bool true]) ∧ Below W.heap.size W w') := Lib.hid (fun W hb => fr14 W (hl.below hb))
  have HE := Lib.hid eq14
  have HA : Hid (∀ w2 W, Below w.heap.size w w2 → w2.alloc (.cells #[.int .i64 1, .string ⟨#[97, 46, 98, 46]⟩, .string ⟨#[]⟩, .int .i64 0] 23) = W → KS w w2.heap.size 1 ⟨#[97, 46, 98, 46]⟩ ⟨#[]⟩ 0 W) := Lib.hid (fun w2 W hb hW => by
    subst hW
    have h := heap_alloc_new w2 (.cells #[.int .i64 1, .string ⟨#[97, 46, 98, 46]⟩, .string ⟨#[]⟩, .int .i64 0] 23)
    exact ⟨⟨cellJ h rfl, cellJ h rfl, cellJ h rfl, cellJ h rfl⟩, lt_of h, keepE hb (al_bel w2 _)⟩)
  have n1 := nilN
  clear hl
  go_enter Tryd.func6, Tryd.ntmps6
  go_upto_region 2 with (go_at_call 8; refine HC.out.mono ?_; rintro e w2 ⟨rfl, hb⟩; have HB2 := Lib.hid hb; clear hb)
  obtain ⟨W2, hW2⟩ : ∃ W, w2.alloc (.cells #[.int .i64 1, .string ⟨#[97, 46, 98, 46]⟩, .string ⟨#[]⟩, .int .i64 0] 23) = W := ⟨_, rfl⟩
  have HK2 := Lib.hid (HA.out w2 W2 HB2.out hW2)
  rw [hW2]
  clear hW2
  obtain ⟨⟨a0, a1, a2, a3⟩, _⟩ := HK2.out
  go_upto_region 3 with (go_at_call 12; refine (HK.out _ HK2.out.2.2).mono ?_; rintro e w3 ⟨rfl, hb⟩; have HK3 := Lib.hid (HK2.out.below hb); clear hb)
  go_upto_region 4 with (go_at_call 13; refine (HF.out _ HK3.out.2.2).mono ?_; rintro e w4 ⟨rfl, hb⟩; have HK4 := Lib.hid (HK3.out.below hb); clear hb)
  obtain ⟨W5, hW5⟩ : ∃ W, w4.alloc (.cells #[.int .i64 1, .string ⟨#[97, 46, 98, 46]⟩, .string ⟨#[]⟩, .int .i64 0] 23) = W := ⟨_, rfl⟩
  have HK5 := Lib.hid (HA.out w4 W5 HK4.out.2.2 hW5)
  have HJ5 := Lib.hid (HK4.out.below (show Below w4.heap.size w4 W5 by rw [← hW5]; exact al_bel w4 _))
  rw [hW5]
  clear hW5
  obtain ⟨⟨b0, b1, b2, b3⟩, _⟩ := HK5.out
  obtain ⟨⟨c0, c1, c2, c3⟩, _⟩ := HJ5.out
  go_wp2_with (go_at_call 11; refine (HE.out _).mono ?_; rintro e w6 ⟨rfl, hb⟩; have HB6 := Lib.hid (keepE HK5.out.2.2 hb); clear hb)
  go_ret
  exact ⟨rfl, HB6.out⟩
set_option maxHeartbeats 4000000 in
set_option maxRecDepth 100000 in
theorem queryFolds_walk (w : World) (hl : LibAt w) : Calls Tryd.prog 5 #[] w fun e w' => e = .returned (.bool true) ∧ Below w.heap.size w w' := by
  have HL := Lib.hid hl
  have HB0 := Lib.hid (Below.refl w.heap.size w)
  clear hl
  go_enter Tryd.func5, Tryd.ntmps5
  go_upto_region 2 with (go_at_call 12; refine (kq0 _ (HL.out.below HB0.out)).mono ?_; rintro e w1 ⟨rfl, hb⟩; have HB1 := Lib.hid (keepE HB0.out hb); clear hb)
  go_upto_region 3 with (go_at_call 12; refine (kq1 _ (HL.out.below HB1.out)).mono ?_; rintro e w2 ⟨rfl, hb⟩; have HB2 := Lib.hid (keepE HB1.out hb); clear hb)
  go_upto_region 4 with (go_at_call 12; refine (kq2 _ (HL.out.below HB2.out)).mono ?_; rintro e w3 ⟨rfl, hb⟩; have HB3 := Lib.hid (keepE HB2.out hb); clear hb)
  go_upto_region 5 with (go_at_call 12; refine (kq3 _ (HL.out.below HB3.out)).mono ?_; rintro e w4 ⟨rfl, hb⟩; have HB4 := Lib.hid (keepE HB3.out hb); clear hb)
  go_upto_region 6 with (go_at_call 12; refine (kq4 _ (HL.out.below HB4.out)).mono ?_; rintro e w5 ⟨rfl, hb⟩; have HB5 := Lib.hid (keepE HB4.out hb); clear hb)
  go_upto_region 7 with (go_at_call 12; refine (kq5 _ (HL.out.below HB5.out)).mono ?_; rintro e w6 ⟨rfl, hb⟩; have HB6 := Lib.hid (keepE HB5.out hb); clear hb)
  go_upto_region 8 with (go_at_call 12; refine (kq6 _ (HL.out.below HB6.out)).mono ?_; rintro e w7 ⟨rfl, hb⟩; have HB7 := Lib.hid (keepE HB6.out hb); clear hb)
  go_upto_region 9 with (go_at_call 12; refine (kq7 _ (HL.out.below HB7.out)).mono ?_; rintro e w8 ⟨rfl, hb⟩; have HB8 := Lib.hid (keepE HB7.out hb); clear hb)
  go_wp2_with (go_at_call 6; refine (begun14_any _ (HL.out.below HB8.out)).mono ?_; rintro e w9 ⟨rfl, hb⟩; have HB9 := Lib.hid (keepE HB8.out hb); clear hb)
  go_ret
  exact ⟨rfl, HB9.out⟩
end Go.Proofs.YtaoapkbfcofamaaDoor

namespace Go.Proofs.YtaoapkbfcofamaaDoor
open Go.RowKit Go.Lib Go.Tx
/-- A query's block, of the call's own. -/
structure KB (w0 : World) (b : Nat) (r0 : Int) (r1 r2 : ByteArray) (r3 : Int) (W : World) : Prop where
  at_ : W.heap[b]? = some (.cells #[.int .i64 r0, .string r1, .string r2, .int .i64 r3] 23 (0, 0))
  own : w0.heap.size ≤ b
  bel : Below w0.heap.size w0 W
theorem KB.below {w0 W W' : World} {b : Nat} {r0 r3 : Int} {r1 r2 : ByteArray} (h : KB w0 b r0 r1 r2 r3 W) (hb : Below W.heap.size W W') : KB w0 b r0 r1 r2 r3 W' := ⟨(hb.block _ (lt_of h.at_)).trans h.at_, h.own, keepE h.bel hb⟩
theorem KB.new {w0 W : World} (hb : Below w0.heap.size w0 W) (r0 : Int) (r1 r2 : ByteArray) (r3 : Int) : KB w0 W.heap.size r0 r1 r2 r3 (W.alloc (.cells #[.int .i64 r0, .string r1, .string r2, .int .i64 r3] 23)) := ⟨heap_alloc_new W _, hb.size, keepE hb (al_bel W _)⟩
theorem KB.cells {w0 W : World} {b : Nat} {r0 r3 : Int} {r1 r2 : ByteArray} (h : KB w0 b r0 r1 r2 r3 W) : W.cell? ⟨b, 0, none⟩ = some (.int .i64 r0) ∧ W.cell? ⟨b, 1, none⟩ = some (.string r1) ∧ W.cell? ⟨b, 2, none⟩ = some (.string r2) ∧ W.cell? ⟨b, 3, none⟩ = some (.int .i64 r3) :=
  ⟨cellJ h.at_ rfl, cellJ h.at_ rfl, cellJ h.at_ rfl, cellJ h.at_ rfl⟩
theorem KB.frees {w0 W : World} {b : Nat} {r0 r3 : Int} {r1 r2 : ByteArray} (h : KB w0 b r0 r1 r2 r3 W) : W.frozen? ⟨b, 0, none⟩ = false ∧ W.frozen? ⟨b, 1, none⟩ = false ∧ W.frozen? ⟨b, 2, none⟩ = false ∧ W.frozen? ⟨b, 3, none⟩ = false :=
  ⟨freeJ h.at_ 0, freeJ h.at_ 1, freeJ h.at_ 2, freeJ h.at_ 3⟩
theorem KB.put {w0 W : World} {b : Nat} {r0 r3 : Int} {r1 r2 : ByteArray} (h : KB w0 b r0 r1 r2 r3 W) (s0 : Int) (s1 s2 : ByteArray) (s3 : Int) : KB w0 b s0 s1 s2 s3 ((((W.setCell ⟨b, 0, none⟩ (.int .i64 s0)).setCell ⟨b, 1, none⟩ (.string s1)).setCell ⟨b, 2, none⟩ (.string s2)).setCell ⟨b, 3, none⟩ (.int .i64 s3)) :=
  ⟨set4_at h.at_ _ _ _ _, h.own, bel_set4 h.bel h.own _ _ _ _⟩
theorem KB.other {w0 W : World} {b c : Nat} {r0 r3 : Int} {r1 r2 : ByteArray} (h : KB w0 c r0 r1 r2 r3 W) (hne : c ≠ b) (hb : w0.heap.size ≤ b) (x0 x1 x2 x3 : Value) : KB w0 c r0 r1 r2 r3 ((((W.setCell ⟨b, 0, none⟩ x0).setCell ⟨b, 1, none⟩ x1).setCell ⟨b, 2, none⟩ x2).setCell ⟨b, 3, none⟩ x3) :=
  ⟨(set4_ne hne x0 x1 x2 x3).trans h.at_, h.own, bel_set4 h.bel hb _ _ _ _⟩
theorem cut_sizes (q : QryL) : (cutQ q).name.size ≤ 300 ∧ (cutQ q).proto.size ≤ 20 := ⟨cutB_le 300 q.name, cutB_le 20 q.proto⟩
set_option maxHeartbeats 4000000 in
set_option maxRecDepth 100000 in
theorem queryCheck_walk (Q0 : QryL) (w : World) (hq : QIn Q0) (hl : LibAt w) : Calls Tryd.prog 3 #[qV Q0] w fun e w' => e = .returned (.bool true) ∧ Below w.heap.size w w' := by
  obtain ⟨hq1, hq2, _, _⟩ := hq
  obtain ⟨hc1, hc2⟩ := cut_sizes Q0
  have HX : Hid (∀ W, Calls Tryd.prog 7 #[qV Q0] W fun e w' => e = .returned (qV (cutQ Q0)) ∧ Below W.heap.size W w') := Lib.hid (fun W => cutq_any Q0 W hq1 hq2)
  have HB : Hid (∀ W, Below w.heap.size w W → Calls Tryd.prog 6 #[] W fun e w' => e = .returned (.bool true) ∧ Below W.heap.size W w') := Lib.hid (fun W hb => begun14_any W (hl.below hb))
  generalize cutQ Q0 = C at *
  have HP : Hid (∀ W, Below w.heap.size w W → Calls Tryd.prog 8 #[qV C] W (PRes W (checkP C).1 (checkP C).2)) := Lib.hid (fun W hb => pcheck_any C W (by omega) (by omega) (hl.below hb))
  have HR : Hid (∀ W, Calls Tryd.prog 9 #[qV C] W (QRes W (checkP C).1 (checkP C).2)) := Lib.hid (fun W => rcheck_any C W (by omega) (by omega))
  have HCo : Hid (∀ W, Calls Tryd.prog 10 #[errQ (checkP C).2] W fun e w' => e = .returned (.int .i64 (checkP C).2) ∧ Below W.heap.size W w') := Lib.hid (fun W => code_any C W)
  have HE : Hid (∀ W, Calls Tryd.prog 11 #[qV (checkP C).1, qV (checkP C).1] W fun e w' => e = .returned (.bool true) ∧ Below W.heap.size W w') := Lib.hid (fun W => by
    have h := reqq_any (checkP C).1 (checkP C).1 W
    rw [(eqQ_iff _ _).2 rfl] at h
    exact h)
  clear hc1 hc2 hq1 hq2 hl
  obtain ⟨R, hR⟩ : ∃ R, checkP C = R := ⟨_, rfl⟩
  rw [hR] at HP HR HCo HE
  clear hR
  obtain ⟨⟨r0, r1, r2, r3⟩, c⟩ := R
  obtain ⟨db, nm, pr, po⟩ := Q0
  obtain ⟨c0, c1, c2, c3⟩ := C
  unfold PRes qV qC at HP
  unfold QRes qV qC at HR
  unfold qV qC at HE HX
  simp only at HP HR HE HX HCo
  generalize errQ c = ev at *
  have hcc : (c == c) = true := by simp
  show Calls Tryd.prog 3 #[.agg #[.int .i64 db, .string nm, .string pr, .int .i64 po]] w _
  have HN : Hid (∀ W', w.alloc (.cells #[.int .i64 db, .string nm, .string pr, .int .i64 po] 23) = W' → KB w w.heap.size db nm pr po W') := Lib.hid (fun W' h => by
    subst h
    exact KB.new (Below.refl _ _) _ _ _ _)
  go_enter Tryd.func3, Tryd.ntmps3
  go_upto_region 1 with (fail)
  obtain ⟨W, hW⟩ : ∃ W, w.alloc (.cells #[.int .i64 db, .string nm, .string pr, .int .i64 po] 23) = W := ⟨_, rfl⟩
  have H0 := Lib.hid (HN.out W hW)
  rw [hW]
  clear hW HN
  go_upto_region 2 with (go_at_call 6; refine (HB.out _ H0.out.bel).mono ?_; rintro e w1 ⟨rfl, hb⟩; have H1 := Lib.hid (H0.out.below hb); clear hb)
  obtain ⟨a0, a1, a2, a3⟩ := H1.out.cells
  obtain ⟨f0, f1, f2, f3⟩ := H1.out.frees
  go_upto_region 5 with (go_at_call 7; refine (HX.out _).mono ?_; rintro e w2 ⟨rfl, hb⟩; have H2 := Lib.hid (H1.out.below hb); obtain ⟨b0, b1, b2, b3⟩ := H2.out.cells; obtain ⟨g0, g1, g2, g3⟩ := H2.out.frees; clear hb)
  obtain ⟨W3, hW3⟩ : ∃ W3, ((((w2.setCell ⟨w.heap.size, 0, none⟩ (.int .i64 c0)).setCell ⟨w.heap.size, 1, none⟩ (.string c1)).setCell ⟨w.heap.size, 2, none⟩ (.string c2)).setCell ⟨w.heap.size, 3, none⟩ (.int .i64 c3)) = W3 := ⟨_, rfl⟩
  have H3 := Lib.hid (H2.out.put c0 c1 c2 c3)
  rw [hW3] at H3 ⊢
  clear hW3 a0 a1 a2 a3 f0 f1 f2 f3 b0 b1 b2 b3 g0 g1 g2 g3
  obtain ⟨a0, a1, a2, a3⟩ := H3.out.cells
  go_upto_region 6 with (go_at_call 8; refine (HP.out _ H3.out.bel).mono ?_; rintro e w4 ⟨rfl, hb⟩; have H4 := Lib.hid (H3.out.below hb); clear hb)
  obtain ⟨W5, hW5⟩ : ∃ W5, w4.alloc (.cells #[.int .i64 r0, .string r1, .string r2, .int .i64 r3] 23) = W5 := ⟨_, rfl⟩
  have H5 := Lib.hid (H4.out.below (al_bel w4 (.cells #[.int .i64 r0, .string r1, .string r2, .int .i64 r3] 23)))
  have X5 := Lib.hid (KB.new H4.out.bel r0 r1 r2 r3)
  rw [hW5] at H5 X5 ⊢
  clear hW5 a0 a1 a2 a3
  obtain ⟨a0, a1, a2, a3⟩ := H5.out.cells
  go_upto_region 7 with (go_at_call 9; refine (HR.out _).mono ?_; rintro e w6 ⟨rfl, hb⟩; have H6 := Lib.hid (H5.out.below hb); have X6 := Lib.hid (X5.out.below hb); clear hb)
  obtain ⟨W7, hW7⟩ : ∃ W7, w6.alloc (.cells #[.int .i64 r0, .string r1, .string r2, .int .i64 r3] 23) = W7 := ⟨_, rfl⟩
  have X7 := Lib.hid (X6.out.below (al_bel w6 (.cells #[.int .i64 r0, .string r1, .string r2, .int .i64 r3] 23)))
  have Y7 := Lib.hid (KB.new X6.out.bel r0 r1 r2 r3)
  rw [hW7] at X7 Y7 ⊢
  clear hW7 a0 a1 a2 a3
  go_wp2_with (first | (go_at_call 10; refine (HCo.out _).mono ?_; rintro e w8 ⟨rfl, hb⟩; have X8 := Lib.hid (X7.out.below hb); have Y8 := Lib.hid (Y7.out.below hb); obtain ⟨a0, a1, a2, a3⟩ := X8.out.cells; obtain ⟨b0, b1, b2, b3⟩ := Y8.out.cells; clear hb) | (go_at_call 11; refine (HE.out _).mono ?_; rintro e w9 ⟨rfl, hb⟩; have HB9 := Lib.hid (keepE X8.out.bel hb); clear hb))
  go_ret
  exact ⟨rfl, HB9.out⟩
end Go.Proofs.YtaoapkbfcofamaaDoor

