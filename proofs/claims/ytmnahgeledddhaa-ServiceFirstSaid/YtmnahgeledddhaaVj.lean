/- Contract of the closed run at the head of the service tables' laws; a text made into bytes. -/
import Derived.Test.YtmnahgeledddhaaVi
namespace Go.Proofs.Ytmnahgeledddhaa
open Go.RowKit Go.Lib Go.Tx
theorem mark_any {w : World} {b : Nat} {arr : Array Value} (h : w.heap[b]? = some (.cells arr 5 (0, 0))) (n c : Nat) :
    ∃ w' fr', (convert 22 22 (.slice (some ⟨b, 0, none⟩) n c)).run Try.prog w = .ok (.slice (some ⟨b, 0, none⟩) n c) w' ∧ w'.heap[b]? = some (.cells arr 5 fr') ∧ (∀ k, k ≠ b → w'.heap[k]? = w.heap[k]?) ∧ w'.heap.size = w.heap.size ∧ w'.os = w.os ∧ w'.tape = w.tape ∧ w'.output = w.output := by
  obtain ⟨w', fr', e1, e2, e3, e4, e5, e6, e7, e8⟩ := Go.Ev.freeze_at h ⟨fun i hi h => by simp only at h; omega, by simp⟩
  have hsh : w.shape? b = some (5, arr.size) := by unfold World.shape?; rw [h]
  refine ⟨w', fr', ?_, e3, e4, e5, e6, e7, e8⟩
  simp [convert, Go.Ev.run_und Try.underlying22, Go.Ev.run_und Try.underlying5, markStringish, hsh, e1]
theorem ba_lit {w : World} {b : Nat} {arr : Array Value} {fr : Nat × Nat} {l : List UInt8} (h : w.heap[b]? = some (.cells arr 5 fr)) (ha : arr = (l.map fun c => Value.int .u8 (c.toNat : Int)).toArray) (hl : l.length ≤ 9223372036854775807) : BA w (some ⟨b, 0, none⟩) l.length l.length l :=
  ⟨rfl, Nat.le_refl _, hl, (fun h => by cases h), fun x hx j c hj => by
    cases hx
    have e : (⟨b, 0, none⟩ : Addr).add j = ⟨b, j, none⟩ := by unfold Addr.add; split <;> simp_all
    rw [e]
    subst ha
    simp [World.cell?, h, hj]⟩
/-- Bytes written as a literal, marked: what a caller reads. -/
theorem lit_any (w : World) (arr : Array Value) (l : List UInt8) (ha : arr = (l.map fun c => Value.int .u8 (c.toNat : Int)).toArray) (hl : l.length ≤ 9223372036854775807) :
    ∃ w', (convert 22 22 (.slice (some ⟨w.heap.size, 0, none⟩) l.length l.length)).run Try.prog (w.alloc (.cells arr 5)) = .ok (.slice (some ⟨w.heap.size, 0, none⟩) l.length l.length) w' ∧ BA w' (some ⟨w.heap.size, 0, none⟩) l.length l.length l ∧ w.heap.size < w'.heap.size ∧ Below w.heap.size w w' := by
  obtain ⟨w', fr', h1, h2, h3, h4, h5, h6, h7⟩ := mark_any (heap_alloc_new w (.cells arr 5)) l.length l.length
  have hs : (w.alloc (.cells arr 5)).heap.size = w.heap.size + 1 := by show (w.heap.push _).size = _; simp
  refine ⟨w', h1, ba_lit h2 ha hl, by omega, h5, h6, h7, by omega, fun k hk => ?_⟩
  rw [h3 k (by omega)]
  exact heap_push_lt _ _ _ hk
def bytes0 : List UInt8 := [104, 116, 116, 112, 32, 56, 48, 47, 84, 67, 80, 32, 119, 119, 119, 10, 120, 32, 48, 47, 116, 99, 112, 10]
theorem plain0 : (svcsOf (toldG 1 [] bytes0)).length = 1 ∧ svcN (svcsOf (toldG 1 [] bytes0)) [119, 119, 119] [116, 99, 112] = some 80 ∧ svcP (svcsOf (toldG 1 [] bytes0)) 80 [] = some [[104, 116, 116, 112], [119, 119, 119]] := by decide +kernel
set_option maxRecDepth 100000 in
theorem begun_any (w : World) :
    Calls Try.prog 6 #[] w fun e w' => e = .returned (.bool true) ∧ Below w.heap.size w w' := by
  obtain ⟨h1, h2, h3⟩ := plain0
  obtain ⟨w1, hc, hba, hlt, hb1⟩ := lit_any w _ bytes0 rfl (by decide)
  have HP : Hid (Calls Try.prog 9 #[.slice (some ⟨w.heap.size, 0, none⟩) 24 24] w1 fun e w' => ∃ p, e = .returned (.pointer (some ⟨p, 0, none⟩)) ∧ Tab w1.heap.size w' p (svcsOf (toldG 1 [] bytes0)) ∧ Below w1.heap.size w1 w') := Lib.hid (parse_any _ _ _ _ w1 hba (fun x hx => by cases hx; exact hlt) (by decide))
  have hc2 : (convert 22 22 (.slice (some ⟨w.heap.size, 0, none⟩) 24 24)).run Try.prog (w.alloc (.cells #[.int .u8 104, .int .u8 116, .int .u8 116, .int .u8 112, .int .u8 32, .int .u8 56, .int .u8 48, .int .u8 47, .int .u8 84, .int .u8 67, .int .u8 80, .int .u8 32, .int .u8 119, .int .u8 119, .int .u8 119, .int .u8 10, .int .u8 120, .int .u8 32, .int .u8 48, .int .u8 47, .int .u8 116, .int .u8 99, .int .u8 112, .int .u8 10] 5)) = .ok (.slice (some ⟨w.heap.size, 0, none⟩) 24 24) w1 := hc
  generalize svcsOf (toldG 1 [] bytes0) = R at *
  have HN : Hid (∀ W p, Tab w1.heap.size W p R → Calls Try.prog 12 #[.pointer (some ⟨p, 0, none⟩), .string ⟨#[119, 119, 119]⟩, .string ⟨#[116, 99, 112]⟩] W fun e w' => e = .returned (.tuple #[.int .i64 80, .bool true]) ∧ Below W.heap.size W w') := Lib.hid (fun W p hT => (byName_any ⟨#[119, 119, 119]⟩ ⟨#[116, 99, 112]⟩ W hT (by decide)).mono (by
    rintro e w' ⟨rfl, hb⟩
    have e2 : svcN R (ByteArray.data ⟨#[119, 119, 119]⟩).toList (ByteArray.data ⟨#[116, 99, 112]⟩).toList = some 80 := h2
    rw [e2]
    exact ⟨rfl, hb⟩))
  have HA : Hid (∀ W p, Tab w1.heap.size W p R → Calls Try.prog 14 #[.pointer (some ⟨p, 0, none⟩), .int .i64 80, .string ⟨#[]⟩] W fun e w' => (∃ g c, e = .returned (.tuple #[.slice (some ⟨g, 0, none⟩) 2 c, .bool true]) ∧ 2 ≤ c ∧ w'.cell? ⟨g, 0, none⟩ = some (.string ⟨#[104, 116, 116, 112]⟩)) ∧ Below W.heap.size W w') := Lib.hid (fun W p hT => by
    have e3 : svcP R 80 (ByteArray.data ⟨#[]⟩).toList = some [[104, 116, 116, 112], [119, 119, 119]] := h3
    have := byPort_any 80 ⟨#[]⟩ W hT (by decide) (by rw [e3]; decide)
    rw [e3] at this
    refine this.mono ?_
    rintro e w' ⟨v, rfl, hv, hb⟩
    obtain ⟨q, c, rfl, hc, _, hr⟩ := StrC.read hv
    obtain ⟨g, rfl, _, hcell⟩ := hr 0 [104, 116, 116, 112] rfl
    exact ⟨⟨g, c, rfl, hc, hcell⟩, hb⟩)
  clear hc hba hlt h2 h3
  go_enter Try.func6, Try.ntmps6
  go_upto_region 4 with (go_at_call 9; refine HP.out.mono ?_; rintro e w2 ⟨p, rfl, hT, hb2⟩; have HT := Lib.hid hT; have hb := hb1.trans (hb2.mono hb1.size); clear hT)
  go_wp2_with (first | (go_at_call 12; refine (HN.out _ _ HT.out).mono ?_; rintro e w3 ⟨rfl, hb3⟩; have HT3 := Lib.hid (HT.out.below hb3)) | (go_at_call 14; refine (HA.out _ _ HT3.out).mono ?_; rintro e w4 ⟨⟨g4, c4, rfl, hc4, hcell4⟩, hb4⟩; have HT4 := Lib.hid (HT3.out.below hb4)) | (go_at_call 11; refine (len_any _ HT4.out).mono ?_; rw [h1]; rintro e w5 ⟨rfl, hw⟩; obtain rfl := hw))
  go_ret
  exact ⟨rfl, (hb.trans (hb3.mono hb.size)).trans (hb4.mono (Nat.le_trans hb.size hb3.size))⟩
end Go.Proofs.Ytmnahgeledddhaa
