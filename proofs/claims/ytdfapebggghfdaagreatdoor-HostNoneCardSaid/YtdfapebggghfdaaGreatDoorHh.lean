/- Contract of the closed run at the head of the host tables' laws. -/
import Derived.Test.YtdfapebggghfdaaGreatDoorHg
namespace Go.Proofs.YtdfapebggghfdaaGreatDoor
open Go.RowKit Go.Lib Go.Tx Go.Mp
theorem mark_any {w : World} {b : Nat} {arr : Array Value} (h : w.heap[b]? = some (.cells arr 5 (0, 0))) (n c : Nat) :
    ∃ w' fr', (convert 22 22 (.slice (some ⟨b, 0, none⟩) n c)).run Tryz.prog w = .ok (.slice (some ⟨b, 0, none⟩) n c) w' ∧ w'.heap[b]? = some (.cells arr 5 fr') ∧ (∀ k, k ≠ b → w'.heap[k]? = w.heap[k]?) ∧ w'.heap.size = w.heap.size ∧ w'.os = w.os ∧ w'.tape = w.tape ∧ w'.output = w.output := by
  obtain ⟨w', fr', e1, e2, e3, e4, e5, e6, e7, e8⟩ := Go.Ev.freeze_at h ⟨fun i hi h => by simp only at h; omega, by simp⟩
  have hsh : w.shape? b = some (5, arr.size) := by unfold World.shape?; rw [h]
  refine ⟨w', fr', ?_, e3, e4, e5, e6, e7, e8⟩
  simp [convert, Go.Ev.run_und Tryz.underlying22, Go.Ev.run_und Tryz.underlying5, markStringish, hsh, e1]
theorem ba_lit {w : World} {b : Nat} {arr : Array Value} {fr : Nat × Nat} {l : List UInt8} (h : w.heap[b]? = some (.cells arr 5 fr)) (ha : arr = (l.map fun c => Value.int .u8 (c.toNat : Int)).toArray) (hl : l.length ≤ 9223372036854775807) : BA w (some ⟨b, 0, none⟩) l.length l.length l :=
  ⟨rfl, Nat.le_refl _, hl, (fun h => by cases h), fun x hx j c hj => by
    cases hx
    have e : (⟨b, 0, none⟩ : Addr).add j = ⟨b, j, none⟩ := by unfold Addr.add; split <;> simp_all
    rw [e]
    subst ha
    simp [World.cell?, h, hj]⟩
/-- Bytes written as a literal, marked: what a caller reads. -/
theorem lit_any (w : World) (arr : Array Value) (l : List UInt8) (ha : arr = (l.map fun c => Value.int .u8 (c.toNat : Int)).toArray) (hl : l.length ≤ 9223372036854775807) :
    ∃ w', (convert 22 22 (.slice (some ⟨w.heap.size, 0, none⟩) l.length l.length)).run Tryz.prog (w.alloc (.cells arr 5)) = .ok (.slice (some ⟨w.heap.size, 0, none⟩) l.length l.length) w' ∧ BA w' (some ⟨w.heap.size, 0, none⟩) l.length l.length l ∧ w.heap.size < w'.heap.size ∧ Below w.heap.size w w' := by
  obtain ⟨w', fr', h1, h2, h3, h4, h5, h6, h7⟩ := mark_any (heap_alloc_new w (.cells arr 5)) l.length l.length
  have hs : (w.alloc (.cells arr 5)).heap.size = w.heap.size + 1 := by show (w.heap.push _).size = _; simp
  refine ⟨w', h1, ba_lit h2 ha hl, by omega, h5, h6, h7, by omega, fun k hk => ?_⟩
  rw [h3 k (by omega)]
  exact heap_push_lt _ _ _ hk
def bytes0 : List UInt8 := [49, 48, 46, 48, 46, 48, 46, 49, 32, 97, 32, 66, 32, 35, 32, 99, 10, 58, 58, 49, 32, 97, 10]
theorem plain0 : (rowsOf (toldG 1 [] bytes0)).length = 2 ∧ (byNm (rowsOf (toldG 1 [] bytes0)) [65, 46]).length = 2 ∧ byA (rowsOf (toldG 1 [] bytes0)) [10, 0, 0, 1] = [[97], [98]] := by decide +kernel
set_option maxRecDepth 100000 in
theorem begun_any (w : World) (hg : GloAt w) (hm : MaxAt w) :
    Calls Tryz.prog 7 #[] w fun e w' => e = .returned (.bool true) ∧ Below w.heap.size w w' := by
  have HG := Lib.hid hg
  have HM := Lib.hid hm
  obtain ⟨h1, h2, h3⟩ := plain0
  obtain ⟨w1, hc, hba, hlt, hb1⟩ := lit_any w _ bytes0 rfl (by decide)
  have HP : Hid (Calls Tryz.prog 10 #[.slice (some ⟨w.heap.size, 0, none⟩) 23 23] w1 fun e w' => ∃ p, e = .returned (.pointer (some ⟨p, 0, none⟩)) ∧ Tab w1.heap.size w' p (rowsOf (toldG 1 [] bytes0)) ∧ Below w1.heap.size w1 w') := Lib.hid (parse_any _ _ _ _ w1 hba (fun x hx => by cases hx; exact hlt) (by decide) (hg.below hb1) (hm.below hb1))
  have hc2 : (convert 22 22 (.slice (some ⟨w.heap.size, 0, none⟩) 23 23)).run Tryz.prog (w.alloc (.cells #[.int .u8 49, .int .u8 48, .int .u8 46, .int .u8 48, .int .u8 46, .int .u8 48, .int .u8 46, .int .u8 49, .int .u8 32, .int .u8 97, .int .u8 32, .int .u8 66, .int .u8 32, .int .u8 35, .int .u8 32, .int .u8 99, .int .u8 10, .int .u8 58, .int .u8 58, .int .u8 49, .int .u8 32, .int .u8 97, .int .u8 10] 5)) = .ok (.slice (some ⟨w.heap.size, 0, none⟩) 23 23) w1 := hc
  generalize rowsOf (toldG 1 [] bytes0) = R at *
  have HN : Hid (∀ W p, Tab w1.heap.size W p R → MaxAt W → Calls Tryz.prog 14 #[.pointer (some ⟨p, 0, none⟩), .string ⟨#[65, 46]⟩] W fun e w' => (∃ q c, e = .returned (.slice q 2 c)) ∧ Below W.heap.size W w') := Lib.hid (fun W p hT hM => (byName_any ⟨#[65, 46]⟩ W hT (by decide) hM).mono (by
    rintro e w' ⟨v, rfl, hv, hb⟩
    obtain ⟨q, c, rfl⟩ := hv.shape
    have e2 : (byNm R (ByteArray.data ⟨#[65, 46]⟩).toList).length = 2 := h2
    rw [e2]
    exact ⟨⟨q, c, rfl⟩, hb⟩))
  have HA : Hid (∀ W p, Tab w1.heap.size W p R → Calls Tryz.prog 16 #[.pointer (some ⟨p, 0, none⟩), .string ⟨#[10, 0, 0, 1]⟩] W fun e w' => (∃ g c, e = .returned (.slice (some ⟨g, 0, none⟩) 2 c) ∧ 2 ≤ c ∧ w'.cell? ⟨g, 1, none⟩ = some (.string ⟨#[98]⟩)) ∧ Below W.heap.size W w') := Lib.hid (fun W p hT => by
    have e3 : byA R (ByteArray.data ⟨#[10, 0, 0, 1]⟩).toList = [[97], [98]] := h3
    have := byAddr_any ⟨#[10, 0, 0, 1]⟩ W hT (by rw [e3]; decide)
    rw [e3] at this
    refine this.mono ?_
    rintro e w' ⟨v, rfl, hv, hb⟩
    obtain ⟨q, c, rfl, hc, _, hr⟩ := hv.read
    obtain ⟨g, rfl, _, hcell⟩ := hr 1 [98] rfl
    exact ⟨⟨g, c, rfl, hc, hcell⟩, hb⟩)
  clear hg hm hc hba hlt h2 h3
  go_enter Tryz.func7, Tryz.ntmps7
  go_upto_region 4 with (go_at_call 10; refine HP.out.mono ?_; rintro e w2 ⟨p, rfl, hT, hb2⟩; have HT := Lib.hid hT; have hb := hb1.trans (hb2.mono hb1.size); clear hT)
  go_wp2_with (first | (go_at_call 14; refine (HN.out _ _ HT.out (HM.out.below hb)).mono ?_; rintro e w3 ⟨⟨q3, c3, rfl⟩, hb3⟩; have HT3 := Lib.hid (HT.out.below hb3)) | (go_at_call 16; refine (HA.out _ _ HT3.out).mono ?_; rintro e w4 ⟨⟨g4, c4, rfl, hc4, hcell4⟩, hb4⟩; have HT4 := Lib.hid (HT3.out.below hb4)) | (go_at_call 12; refine (len_any _ HT4.out).mono ?_; rw [h1]; rintro e w5 ⟨rfl, hw⟩; obtain rfl := hw))
  go_ret
  exact ⟨rfl, (hb.trans (hb3.mono hb.size)).trans (hb4.mono (Nat.le_trans hb.size hb3.size))⟩
end Go.Proofs.YtdfapebggghfdaaGreatDoor
