/- Contract: those of the words that are names, cleaned. -/
import Derived.Test.YtdfapebggghfdaaGreatDoorHa
import Derived.Test.YtdfapebggghfdaaGreatDoorAt
import Derived.Test.YtdfapebggghfdaaGreatDoorCb
import Derived.Test.YtdfapebggghfdaaGreatDoorNn
namespace Go.Tx
open Go.RowKit
/-- Where texts are read, from whatever address on. -/
def TxAt (w : World) (a : Option Addr) (ws : List (List UInt8)) : Prop := ∀ (j : Nat) l, ws[j]? = some l → ∃ x, a = some x ∧ x.block < w.heap.size ∧ w.cell? (x.add j) = some (.string ⟨l.toArray⟩)
theorem add_block (x : Addr) (j : Nat) : (x.add j).block = x.block := by unfold Addr.add; split <;> simp_all
theorem TxAt.below {w w' : World} {a : Option Addr} {ws : List (List UInt8)} (h : TxAt w a ws) (hb : Below w.heap.size w w') : TxAt w' a ws := fun j l hj => by
  obtain ⟨x, h1, h2, h3⟩ := h j l hj
  exact ⟨x, h1, Nat.lt_of_lt_of_le h2 hb.size, by rw [hb.cell (p := x.add j) (by rw [add_block]; exact h2)]; exact h3⟩
theorem nm_none {l : List UInt8} (h : nameB (bare l) = false) : nm l = none := by unfold nm; rw [if_neg (by rw [h]; decide)]
theorem nm_some {l : List UInt8} (h : nameB (bare l) = true) : nm l = some ((bare l).map low) := by unfold nm; rw [if_pos h]
theorem nm_snoc (T : List (List UInt8)) (l : List UInt8) : (T ++ [l]).filterMap nm = T.filterMap nm ++ (nm l).toList := by
  rw [List.filterMap_append]
  cases h : nm l <;> simp [h]
end Go.Tx
namespace Go.Proofs.YtdfapebggghfdaaGreatDoor
open Go.RowKit Go.Lib Go.Tx
theorem one_textsH (w : World) (x : ByteArray) : TextsIn (w.alloc (.cells #[.string x] 9)) (.slice (some ⟨w.heap.size, 0, none⟩) 1 1) [x.data.toList] := by
  refine .inr ⟨_, 1, rfl, fun i l hi => ?_⟩
  have ha : (⟨w.heap.size, 0, none⟩ : Addr).add i = ⟨w.heap.size, i, none⟩ := by unfold Addr.add; split <;> simp_all
  rw [ha, World.cell?_alloc_new]
  match i, hi with
  | 0, hi => cases hi; rfl
set_option maxHeartbeats 2000000 in
set_option maxRecDepth 100000 in
theorem cleaned_any (a : Option Addr) (n c : Nat) (ws : List (List UInt8)) (w : World) (h : TxAt w a ws) (hn : ws.length = n) (hc : n ≤ c) (hm : c ≤ 9223372036854775807) (hf : n ≤ 1000) (hs : ∀ x ∈ ws, x.length ≤ 1000000) (hg : MaxAt w) :
    Calls Tryz.prog 21 #[.slice a n c] w fun e w' => ∃ v, e = .returned v ∧ StrC w.heap.size w' v (ws.filterMap nm) ∧ Below w.heap.size w w' := by
  have HS := Lib.hid hs
  have HT := Lib.hid h
  have HG := Lib.hid hg
  have HN := Lib.hid hn
  clear hs h hg hn
  go_enter Tryz.func21, Tryz.ntmps21
  go_wp2
  go_loopw [3, 11] (fun v i wr => ∃ k : Nat, k ≤ n ∧ i = .int .i64 k ∧ StrC w.heap.size wr v ((ws.take k).filterMap nm) ∧ ((ws.take k).filterMap nm).length ≤ k ∧ Below w.heap.size w wr) (fun _ i _ => n - (intOf i).toNat)
  case atStart => exact ⟨0, Nat.zero_le _, rfl, World.ownsRow_nil _ _ _ _, Nat.le_refl _, Below.refl _ _⟩
  case round =>
    obtain ⟨k, hk, rfl, hstr, hfew, hbel⟩ := hrel
    by_cases hlt : k < n
    · have hkl : k < ws.length := by rw [HN.out]; exact hlt
      have HK := Lib.hid (List.getElem?_eq_getElem hkl)
      have hdl := HS.out ws[k] (List.getElem_mem hkl)
      obtain ⟨x, rfl, hg, hcell⟩ := (HT.out.below hbel) k ws[k] HK.out
      have HTk := Lib.hid (takeH HK.out)
      generalize ws[k] = d at HK hdl hcell HTk
      have HC := Lib.hid (clean_any ⟨d.toArray⟩ wr (by show d.toArray.size ≤ maxLen; simp; unfold maxLen; omega) (HG.out.below hbel))
      have hstrH := Lib.hid hstr
      clear hstr
      rcases cleanV_cases d with ⟨hnb, hcv⟩ | ⟨hnb, hcv⟩
      · have HNm : Hid ((ws.take (k + 1)).filterMap nm = (ws.take k).filterMap nm ++ [(bare d).map low]) := Lib.hid (by rw [HTk.out, nm_snoc, nm_some hnb]; rfl)
        have HCV : Hid (cleanV (ByteArray.data ⟨d.toArray⟩).toList = .tuple #[.string ⟨((bare d).map low).toArray⟩, .bool (isRoot d), .bool true]) := Lib.hid hcv
        clear hcv hnb
        go_wp2_with (first | (go_at_call 26; refine HC.out.mono ?_; rw [HCV.out]; rintro e w2 ⟨rfl, hb2⟩) | (refine wpList_append_texts rfl _ _ rfl (B := w.heap.size) rfl rfl (World.ownsRow.alloc (own_below hstrH.out hb2) _) (one_textsH _ _) (by simp; omega) (by have := hbel.size; have := hb2.size; show w.heap.size ≤ (Array.push _ _).size; simp; omega) ?_; intro v' w5 hown5 hb5))
        go_roundw
        case rel =>
          have hb23 := hbel.trans (hb2.mono hbel.size)
          exact ⟨k + 1, hlt, by go_num, by rw [HNm.out]; exact hown5, by rw [HNm.out]; simp; omega, (hb23.alloc hb23.size _).trans hb5⟩
        case measure => simp [intOf]; omega
      · have HNm : Hid ((ws.take (k + 1)).filterMap nm = (ws.take k).filterMap nm) := Lib.hid (by rw [HTk.out, nm_snoc, nm_none hnb]; simp)
        have HCV : Hid (cleanV (ByteArray.data ⟨d.toArray⟩).toList = .tuple #[.string ⟨#[]⟩, .bool false, .bool false]) := Lib.hid hcv
        clear hcv hnb
        go_wp2_with (go_at_call 26; refine HC.out.mono ?_; rw [HCV.out]; rintro e w2 ⟨rfl, hb2⟩)
        go_roundw
        case rel => exact ⟨k + 1, hlt, by go_num, by rw [HNm.out]; exact own_below hstrH.out hb2, by rw [HNm.out]; omega, hbel.trans (hb2.mono hbel.size)⟩
        case measure => simp [intOf]; omega
    · obtain rfl : k = n := by omega
      have HE : Hid ((ws.take k).filterMap nm = ws.filterMap nm) := Lib.hid (by rw [List.take_of_length_le (by rw [HN.out]; exact Nat.le_refl _)])
      have hstrH := Lib.hid hstr
      clear hstr
      go_wp2
      go_ret
      exact ⟨_, rfl, by rw [← HE.out]; exact hstrH.out, hbel⟩
end Go.Proofs.YtdfapebggghfdaaGreatDoor
