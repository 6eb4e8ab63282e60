/- Contract: the law's Cut. -/
import Derived.Test.YtpdkjifalgeodaaSw
import Derived.Deep.CutBlock
namespace Go.Tx
open Go.RowKit
/-- Where texts are read, from whatever address on. -/
def TxAt (w : World) (a : Option Addr) (ws : List (List UInt8)) : Prop := ∀ (j : Nat) l, ws[j]? = some l → ∃ x, a = some x ∧ x.block < w.heap.size ∧ w.cell? (x.add j) = some (.string ⟨l.toArray⟩)
theorem add_block (x : Addr) (j : Nat) : (x.add j).block = x.block := by unfold Addr.add; split <;> simp_all
theorem TxAt.below {w w' : World} {a : Option Addr} {ws : List (List UInt8)} (h : TxAt w a ws) (hb : Below w.heap.size w w') : TxAt w' a ws := fun j l hj => by
  obtain ⟨x, h1, h2, h3⟩ := h j l hj
  exact ⟨x, h1, Nat.lt_of_lt_of_le h2 hb.size, by rw [hb.cell (p := x.add j) (by rw [add_block]; exact h2)]; exact h3⟩
end Go.Tx
namespace Go.Proofs.Ytpdkjifalgeodaa
open Go.RowKit Go.Extern.Stop Go.Stop Go.Extern Go.Lib Go.Tx
theorem takeH {α : Type} {T : List α} {k : Nat} {t : α} (h : T[k]? = some t) : T.take (k + 1) = T.take k ++ [t] := by
  rw [List.take_add_one, h]
  rfl
theorem one_textsH (w : World) (x : ByteArray) : TextsIn (w.alloc (.cells #[.string x] 9)) (.slice (some ⟨w.heap.size, 0, none⟩) 1 1) [x.data.toList] := by
  refine .inr ⟨_, 1, rfl, fun i l hi => ?_⟩
  have ha : (⟨w.heap.size, 0, none⟩ : Addr).add i = ⟨w.heap.size, i, none⟩ := by unfold Addr.add; split <;> simp_all
  rw [ha, World.cell?_alloc_new]
  match i, hi with
  | 0, hi => cases hi; rfl
theorem cut2_short (s : ByteArray) (n : Int) (w : World) (hs : s.size ≤ maxLen) (h : (s.size : Int) ≤ n) :
    Calls Try.prog 24 #[.string s, .int .i64 n] w fun e w' => e = .returned (.string s) ∧ w' = w := by
  unfold maxLen at hs
  go_enter Try.func24, Try.ntmps24
  go_wp2
  go_ret
  exact ⟨rfl, rfl⟩
theorem cut2_long (s : ByteArray) (n : Nat) (w : World) (hs : s.size ≤ maxLen) (h : n < s.size) :
    Calls Try.prog 24 #[.string s, .int .i64 n] w fun e w' => e = .returned (.string (s.extract 0 n)) ∧ w' = w := by
  unfold maxLen at hs
  go_enter Try.func24, Try.ntmps24
  go_wp2
  go_ret
  exact ⟨rfl, rfl⟩
/-- A text, cut. -/
def cutB (n : Nat) (s : ByteArray) : ByteArray := ⟨(s.data.toList.take n).toArray⟩
theorem cut2_any (s : ByteArray) (n : Nat) (w : World) (hs : s.size ≤ maxLen) :
    Calls Try.prog 24 #[.string s, .int .i64 n] w fun e w' => e = .returned (.string (cutB n s)) ∧ w' = w := by
  by_cases h : s.size ≤ n
  · have e : cutB n s = s := by
      unfold cutB
      rw [List.take_of_length_le (by rw [Array.length_toList]; exact h)]
    rw [e]
    exact cut2_short s n w hs (by omega)
  · have e : cutB n s = s.extract 0 n := by
      apply ByteArray.ext
      unfold cutB
      rw [ByteArray.data_extract]
      apply Array.ext'
      simp
    rw [e]
    exact cut2_long s n w hs (by omega)
theorem own_at {B : Nat} {e : TypeId} {size n : Nat} {v : Value} {xs : List Value} {w w' : World} (h : w.ownsRow B e size v n xs) (hb : ∀ j, B ≤ j → w'.heap[j]? = w.heap[j]?) : w'.ownsRow B e size v n xs := by
  refine ⟨h.1, ?_⟩
  rcases h.2 with h | ⟨g, cap, cur, h1, h2, h3, h4⟩
  · exact .inl h
  · exact .inr ⟨g, cap, cur, h1, h2, by rw [hb g h2]; exact h3, h4⟩
abbrev zDef : Array Value := #[.string ⟨#[]⟩, .bool false, .bool false, .bool false, .bool false, .bool false, .bool false, .int .i64 0, .int .i64 0, .bool false, .int .i64 0, .bool false, .slice none 0 0, .slice none 0 0, .int .i64 0, .int .i64 0, .slice none 0 0, .bool false]
/-- A source, cut. -/
def cutD (d : DefL) (p1 : Option Addr) (n1 c1 : Nat) (p2 : Option Addr) (n2 c2 : Nat) : DefL := { d with label := cutB 20 d.label, np := p1, nn := n1, nc := c1, ap := p2, an := n2, ac := c2, dn := if 4 < d.dn then 4 else d.dn, polls := if d.polls < 0 ∨ 4 < d.polls then 0 else d.polls }
/-- Texts, cut. -/
def cutTs (ns : List (List UInt8)) : List (List UInt8) := (ns.take 40).map (·.take 40)
set_option maxHeartbeats 2000000 in
set_option maxRecDepth 100000 in
theorem cut12_any (d : DefL) (ns as_ : List (List UInt8)) (w : World) (hl : d.label.size ≤ maxLen) (hn : TxAt w d.np ns) (ha : TxAt w d.ap as_) (hnn : ns.length = d.nn) (han : as_.length = d.an) (hnc : d.nn ≤ maxLen) (hac : d.an ≤ maxLen) (hns : ∀ x ∈ ns, x.length ≤ maxLen) (has : ∀ x ∈ as_, x.length ≤ maxLen) (hdn : d.dn ≤ d.dc) (hdc : d.dc ≤ maxLen) (hdp : d.dp = none → d.dc = 0) :
    Calls Try.prog 8 #[defV d] w fun e w' => ∃ p1 n1 c1 p2 n2 c2, e = .returned (defV (cutD d p1 n1 c1 p2 n2 c2)) ∧ (∃ B, w.heap.size ≤ B ∧ StrC B w' (.slice p1 n1 c1) (cutTs ns)) ∧ (∃ B, w.heap.size ≤ B ∧ StrC B w' (.slice p2 n2 c2) (cutTs as_)) ∧ Below w.heap.size w w' := by
  have sz := sz_def d
  have h1c : (defC d).all (·.oneCell') = true := by simp [defC, Value.oneCell']
  unfold defV
  obtain ⟨cs, hcs⟩ : ∃ cs, defC d = cs := ⟨_, rfl⟩
  rw [hcs] at sz h1c ⊢
  have HCs := Lib.hid hcs
  clear hcs
  go_enter Try.func8, Try.ntmps8
  go_upto_region 1 with (fail)
  obtain ⟨W0, hW0, hA, hB, hz0, hb0⟩ := two_new w (.cells cs 28) (.cells #[.string ⟨#[]⟩, .bool false, .bool false, .bool false, .bool false, .bool false, .bool false, .int .i64 0, .int .i64 0, .bool false, .int .i64 0, .bool false, .slice none 0 0, .slice none 0 0, .int .i64 0, .int .i64 0, .slice none 0 0, .bool false] 28)
  rw [hW0]
  clear hW0
  have hA0 : W0.heap[w.heap.size]? = some (.cells (defC d) 28 (0, 0)) := by rw [HCs.out]; exact hA
  have k0 : W0.cell? ⟨w.heap.size, 0, none⟩ = some (.string d.label) := cellJ hA0 rfl
  have f0 := freeJ hA0 0
  have HL : Hid (∀ W, Calls Try.prog 24 #[.string d.label, .int .i64 20] W fun e w' => e = .returned (.string (cutB 20 d.label)) ∧ w' = W) := Lib.hid (fun W => cut2_any d.label 20 W hl)
  obtain ⟨d1, hd1⟩ : ∃ d1, d1 = { d with label := cutB 20 d.label } := ⟨_, rfl⟩
  have HA0 := Lib.hid hA0
  have HB0 := Lib.hid hB
  have HBl0 := Lib.hid hb0
  have HZ0 := Lib.hid hz0
  have HD1 := Lib.hid hd1
  clear hA hB hz0 hb0 hA0 hd1
  go_upto_region 2 with (go_at_call 24; refine (HL.out _).mono ?_; rintro e w2 ⟨rfl, rfl⟩)
  obtain ⟨W1, hW1⟩ : ∃ W, w2.setCell ⟨w.heap.size, 0, none⟩ (.string (cutB 20 d.label)) = W := ⟨_, rfl⟩
  have hA1 : W1.heap[w.heap.size]? = some (.cells (defC d1) 28 (0, 0)) := by rw [← hW1, HD1.out]; exact setJ HA0.out
  have hB1 : W1.heap[w.heap.size + 1]? = some (.cells #[.string ⟨#[]⟩, .bool false, .bool false, .bool false, .bool false, .bool false, .bool false, .int .i64 0, .int .i64 0, .bool false, .int .i64 0, .bool false, .slice none 0 0, .slice none 0 0, .int .i64 0, .int .i64 0, .slice none 0 0, .bool false] 28 (0, 0)) := by rw [← hW1]; exact (setN (by omega)).trans HB0.out
  have hb1 : Below w.heap.size w W1 := by rw [← hW1]; exact ((ButL.of_below HBl0.out).set (S := []) (.inr (Nat.le_refl _)) _ _).toBelow
  have hz1 : W1.heap.size = w.heap.size + 2 := by rw [← hW1, set_size]; exact HZ0.out
  have k12 : W1.cell? ⟨w.heap.size, 12, none⟩ = some (.slice d.np d.nn d.nc) := cellJ hA1 (by rw [HD1.out]; rfl)
  have k13 : W1.cell? ⟨w.heap.size, 13, none⟩ = some (.slice d.ap d.an d.ac) := cellJ hA1 (by rw [HD1.out]; rfl)
  have HK12 := Lib.hid k12
  have HK13 := Lib.hid k13
  have HNS : Hid (TxAt W1 d.np ns) := Lib.hid (hn.below hb1)
  have HAS : Hid (TxAt W1 d.ap as_) := Lib.hid (ha.below hb1)
  have HA1 := Lib.hid hA1
  have HB1 := Lib.hid hB1
  have HBl1 := Lib.hid hb1
  have HZ1 := Lib.hid hz1
  have HLn := Lib.hid hns
  have HLa := Lib.hid has
  have HNn := Lib.hid hnn
  have HAn := Lib.hid han
  rw [hW1]
  clear hW1 k0 f0 hA1 hB1 hb1 hz1 k12 k13 hn ha hns has hnn han HA0 HB0 HBl0 HZ0
  unfold maxLen at hnc hac hdc
  generalize hge : w.heap.size = g at *
  have HGe := Lib.hid hge
  clear hge
  go_upto_block 0 with (fail)
  go_cut [3] from 5 to 32 (fun v wx => ∃ p1 c1, v = .slice p1 (cutTs ns).length c1 ∧ StrC W1.heap.size wx v (cutTs ns) ∧ Below W1.heap.size W1 wx)
  case first =>
    go_upto_region 4 with (fail)
    go_loopw [3, 5] (fun v i wr => ∃ k : Nat, k ≤ d.nn ∧ k ≤ 40 ∧ i = .int .i64 k ∧ StrC W1.heap.size wr v ((ns.take k).map (·.take 40)) ∧ Below W1.heap.size W1 wr) (fun _ i _ => 40 - (intOf i).toNat)
    case atStart => exact ⟨0, Nat.zero_le _, Nat.zero_le _, rfl, World.ownsRow_nil _ _ _ _, Below.refl _ _⟩
    case round =>
      obtain ⟨k, hk, hk4, rfl, hstr, hbel⟩ := hrel
      have kc : wr.cell? ⟨g, 12, none⟩ = some (.slice d.np d.nn d.nc) := (hbel.cell (p := ⟨g, 12, none⟩) (by show g < _; have := HZ1.out; omega)).trans HK12.out
      by_cases hlt : k < d.nn ∧ k < 40
      · obtain ⟨hl1, hl2⟩ := hlt
        have hkl : k < ns.length := by rw [HNn.out]; exact hl1
        have HK := Lib.hid (List.getElem?_eq_getElem hkl)
        have hdl := HLn.out ns[k] (List.getElem_mem hkl)
        obtain ⟨x, hx, hg, hcell⟩ := (HNS.out.below hbel) k ns[k] HK.out
        have HTk := Lib.hid (takeH HK.out)
        generalize ns[k] = t at HK hdl hcell HTk
        have HC : Hid (Calls Try.prog 24 #[.string ⟨t.toArray⟩, .int .i64 40] wr fun e w' => e = .returned (.string ⟨(t.take 40).toArray⟩) ∧ w' = wr) := Lib.hid (cut2_any ⟨t.toArray⟩ 40 wr (by show t.toArray.size ≤ maxLen; simpa using hdl))
        have hstrH := Lib.hid hstr
        clear hstr
        rw [hx] at kc
        go_wp2_with (first | (go_at_call 24; refine HC.out.mono ?_; rintro e w2 ⟨rfl, rfl⟩) | (refine wpList_append_texts rfl _ _ rfl (B := W1.heap.size) rfl rfl (World.ownsRow.alloc hstrH.out _) (one_textsH _ _) (by simp; omega) (by have := hbel.size; rw [al_size]; omega) (fun v' w' hown5 hb5 => ?_)))
        go_roundw
        case rel =>
          refine ⟨k + 1, hl1, hl2, by go_num, ?_, (hbel.alloc hbel.size _).trans hb5⟩
          rw [HTk.out, List.map_append]
          exact hown5
        case measure => simp [intOf]; omega
      · have hkN : ns.take k = ns.take 40 := by
          by_cases h4 : k = 40
          · rw [h4]
          · have : k = d.nn := by omega
            rw [List.take_of_length_le (by rw [HNn.out]; omega), List.take_of_length_le (by rw [HNn.out]; omega)]
        rw [hkN] at hstr
        obtain ⟨p1, c1, hv⟩ := hstr.shape
        have HS1 := Lib.hid hstr
        have HV1 := Lib.hid hv
        clear hstr hkN hv
        go_wp2
        all_goals
          go_meet
          exact ⟨p1, c1, by rw [HV1.out]; rfl, HS1.out, hbel⟩
  case rest =>
  obtain ⟨p1, c1, rfl, hs1, hbl1⟩ := hcut
  have HS1 := Lib.hid hs1
  have HBr := Lib.hid hbl1
  clear hs1 hbl1
  have HASc : Hid (TxAt wc d.ap as_) := Lib.hid (HAS.out.below HBr.out)
  have HZc : Hid (g < wc.heap.size) := Lib.hid (by have := HZ1.out; have := HBr.out.size; omega)
  have HK13c : Hid (wc.cell? ⟨g, 13, none⟩ = some (.slice d.ap d.an d.ac)) := Lib.hid ((HBr.out.cell (p := ⟨g, 13, none⟩) (by show g < _; have := HZ1.out; omega)).trans HK13.out)
  go_upto_block 2 with (fail)
  go_cut [4] from 6 to 54 (fun v wx => ∃ p1 c1, v = .slice p1 (cutTs as_).length c1 ∧ StrC wc.heap.size wx v (cutTs as_) ∧ Below wc.heap.size wc wx)
  case first =>
    go_upto_region 8 with (fail)
    go_loopw [4, 6] (fun v i wr => ∃ k : Nat, k ≤ d.an ∧ k ≤ 40 ∧ i = .int .i64 k ∧ StrC wc.heap.size wr v ((as_.take k).map (·.take 40)) ∧ Below wc.heap.size wc wr) (fun _ i _ => 40 - (intOf i).toNat)
    case atStart => exact ⟨0, Nat.zero_le _, Nat.zero_le _, rfl, World.ownsRow_nil _ _ _ _, Below.refl _ _⟩
    case round =>
      obtain ⟨k, hk, hk4, rfl, hstr, hbel⟩ := hrel
      have kc : wr.cell? ⟨g, 13, none⟩ = some (.slice d.ap d.an d.ac) := (hbel.cell (p := ⟨g, 13, none⟩) (by exact HZc.out)).trans HK13c.out
      by_cases hlt : k < d.an ∧ k < 40
      · obtain ⟨hl1, hl2⟩ := hlt
        have hkl : k < as_.length := by rw [HAn.out]; exact hl1
        have HK := Lib.hid (List.getElem?_eq_getElem hkl)
        have hdl := HLa.out as_[k] (List.getElem_mem hkl)
        obtain ⟨x, hx, hg, hcell⟩ := (HASc.out.below hbel) k as_[k] HK.out
        have HTk := Lib.hid (takeH HK.out)
        generalize as_[k] = t at HK hdl hcell HTk
        have HC : Hid (Calls Try.prog 24 #[.string ⟨t.toArray⟩, .int .i64 40] wr fun e w' => e = .returned (.string ⟨(t.take 40).toArray⟩) ∧ w' = wr) := Lib.hid (cut2_any ⟨t.toArray⟩ 40 wr (by show t.toArray.size ≤ maxLen; simpa using hdl))
        have hstrH := Lib.hid hstr
        clear hstr
        rw [hx] at kc
        go_wp2_with (first | (go_at_call 24; refine HC.out.mono ?_; rintro e w2 ⟨rfl, rfl⟩) | (refine wpList_append_texts rfl _ _ rfl (B := wc.heap.size) rfl rfl (World.ownsRow.alloc hstrH.out _) (one_textsH _ _) (by simp; omega) (by have := hbel.size; rw [al_size]; omega) (fun v' w' hown5 hb5 => ?_)))
        go_roundw
        case rel =>
          refine ⟨k + 1, hl1, hl2, by go_num, ?_, (hbel.alloc hbel.size _).trans hb5⟩
          rw [HTk.out, List.map_append]
          exact hown5
        case measure => simp [intOf]; omega
      · have hkN : as_.take k = as_.take 40 := by
          by_cases h4 : k = 40
          · rw [h4]
          · have : k = d.an := by omega
            rw [List.take_of_length_le (by rw [HAn.out]; omega), List.take_of_length_le (by rw [HAn.out]; omega)]
        rw [hkN] at hstr
        obtain ⟨p1, c1, hv⟩ := hstr.shape
        have HS1 := Lib.hid hstr
        have HV1 := Lib.hid hv
        clear hstr hkN hv
        go_wp2
        all_goals
          go_meet
          exact ⟨p1, c1, by rw [HV1.out]; rfl, HS1.out, hbel⟩
  case rest =>
  obtain ⟨p2, c2, rfl, hs2, hbl2⟩ := hcut
  have HS2 := Lib.hid hs2
  have HSo := Lib.hid (own_below HS1.out hbl2)
  have HBs := Lib.hid (HBr.out.trans (hbl2.mono HBr.out.size))
  clear hs2 hbl2
  have hA2 : wc.heap[g]? = some (.cells (defC d1) 28 (0, 0)) := (HBs.out.block g (by have := HZ1.out; omega)).trans HA1.out
  have hR2 := (HBs.out.block (g + 1) (by have := HZ1.out; omega)).trans HB1.out
  have k12 : wc.cell? ⟨g, 12, none⟩ = some (.slice d.np d.nn d.nc) := cellJ hA2 (by rw [HD1.out]; rfl)
  have k13 : wc.cell? ⟨g, 13, none⟩ = some (.slice d.ap d.an d.ac) := cellJ hA2 (by rw [HD1.out]; rfl)
  have k16 : wc.cell? ⟨g, 16, none⟩ = some (.slice d.dp d.dn d.dc) := cellJ hA2 (by rw [HD1.out]; rfl)
  have k8 : wc.cell? ⟨g, 8, none⟩ = some (.int .i64 d.polls) := cellJ hA2 (by rw [HD1.out]; rfl)
  have f12 := freeJ hA2 12
  have f13 := freeJ hA2 13
  have f16 := freeJ hA2 16
  have f8 := freeJ hA2 8
  have HA2 := Lib.hid hA2
  have HR2 := Lib.hid hR2
  have HBw : Hid (Below g w wc) := Lib.hid (HBl1.out.trans (HBs.out.mono (by have := HZ1.out; omega)))
  have HS2w : Hid (∃ B, g + 2 ≤ B ∧ StrC B wc (.slice p2 (cutTs as_).length c2) (cutTs as_)) := Lib.hid ⟨_, by have := HZ1.out; have := HBr.out.size; omega, HS2.out⟩
  have HSow : Hid (StrC (g + 2) wc (.slice p1 (cutTs ns).length c1) (cutTs ns)) := Lib.hid (by have := HSo.out; rw [HZ1.out] at this; exact this)
  clear hA2 hR2
  generalize (cutTs ns).length = n1 at *
  generalize (cutTs as_).length = n2 at *
  by_cases h4 : 4 < d.dn
  · obtain ⟨ad, had⟩ : ∃ ad, d.dp = some ad := by
      cases hh : d.dp with
      | none => have := hdp hh; omega
      | some ad => exact ⟨ad, rfl⟩
    rw [had] at k16
    by_cases hp : d.polls < 0
    · go_upto_region 16 with (fail)
      obtain ⟨W9, hW9⟩ : ∃ W, (((wc.setCell ⟨g, 12, none⟩ (.slice p1 n1 c1)).setCell ⟨g, 13, none⟩ (.slice p2 n2 c2)).setCell ⟨g, 16, none⟩ (.slice (some ad) 4 d.dc)).setCell ⟨g, 8, none⟩ (.int .i64 0) = W := ⟨_, rfl⟩
      obtain ⟨d9, hd9⟩ : ∃ x : DefL, x = { d1 with np := p1, nn := n1, nc := c1, ap := p2, an := n2, ac := c2, dp := some ad, dn := 4, dc := d.dc, polls := 0 } := ⟨_, rfl⟩
      have hg9 : W9.heap[g]? = some (.cells (defC d9) 28 (0, 0)) := by rw [← hW9, hd9]; exact setJ (setJ (setJ (setJ (HA2.out))))
      have hr9 : W9.heap[g + 1]? = some (.cells zDef 28 (0, 0)) := by rw [← hW9]; exact (setN (by omega)).trans ((setN (by omega)).trans ((setN (by omega)).trans ((setN (by omega)).trans (HR2.out))))
      have hb9 : Below g w W9 := by rw [← hW9]; exact (((((ButL.of_below HBw.out).set (S := []) (.inr (Nat.le_refl _)) _ _).set (S := []) (.inr (Nat.le_refl _)) _ _).set (S := []) (.inr (Nat.le_refl _)) _ _).set (S := []) (.inr (Nat.le_refl _)) _ _).toBelow
      have hk9 : ∀ k, g + 2 ≤ k → W9.heap[k]? = wc.heap[k]? := fun k hk => by rw [← hW9]; rw [setN (by omega), setN (by omega), setN (by omega), setN (by omega)]
      have HF : Hid (d9 = cutD d p1 n1 c1 p2 n2 c2) := Lib.hid (by rw [hd9, HD1.out]; simp [cutD, h4, had, hp])
      have HG9 := Lib.hid hg9
      have HR9 := Lib.hid hr9
      have HB9 := Lib.hid hb9
      have HK9 := Lib.hid hk9
      rw [hW9]
      have sz9 := sz_def d9
      have z9 : Hid ((zDef : Array Value).size = (defC d9).size) := Lib.hid rfl
      have o9 : Hid ((defC d9).all (·.oneCell') = true) := Lib.hid (by simp [defC, Value.oneCell'])
      obtain ⟨c9, hc9⟩ : ∃ c, c = defC d9 := ⟨_, rfl⟩
      rw [← hc9] at sz9 z9 o9 HG9
      have HC9 := Lib.hid hc9
      clear hW9 hd9 hg9 hr9 hb9 hk9 hc9 k12 k13 k16 k8 f12 f13 f16 f8
      go_wp2_with (first | (with_reducible refine wpList_load_row rfl 28 _ rfl g rfl 28 c9 (0, 0) _ HG9.out Try.underlying28 rfl sz9 ?_) | (with_reducible show wpList _ _ _ (⟨none, _, _, _, _, _⟩ :: _) _ _; refine wpList_store_row rfl 28 _ _ rfl (g + 1) c9 rfl rfl 28 _ HR9.out sz9 z9.out o9.out ?_))
      refine bodyPost_ret (results_cell_row rfl _ _ (g + 1) 28 c9 (0, 0) _ rfl (setRow_heap _ _ _ _ _ _ HR9.out) Try.underlying28 rfl sz9) rfl ?_
      refine ⟨p1, n1, c1, p2, n2, c2, by rw [HC9.out, HF.out], ?_, ?_, ?_⟩
      · exact ⟨_, by have := HGe.out; omega, own_at HSow.out (fun k hk => (setRow_other _ _ _ _ (by omega)).trans (HK9.out k hk))⟩
      · obtain ⟨B, hB, h⟩ := HS2w.out
        exact ⟨B, by have := HGe.out; omega, own_at h (fun k hk => (setRow_other _ _ _ _ (by omega)).trans (HK9.out k (by omega)))⟩
      · exact ⟨HB9.out.os, HB9.out.tape, HB9.out.output, by rw [setRow_size]; exact HB9.out.size, fun k hk => (setRow_other _ _ _ _ (by have := HGe.out; omega)).trans (HB9.out.block k (by rw [← HGe.out]; exact hk))⟩
    · by_cases hq : 4 < d.polls
      · go_upto_region 16 with (fail)
        obtain ⟨W9, hW9⟩ : ∃ W, (((wc.setCell ⟨g, 12, none⟩ (.slice p1 n1 c1)).setCell ⟨g, 13, none⟩ (.slice p2 n2 c2)).setCell ⟨g, 16, none⟩ (.slice (some ad) 4 d.dc)).setCell ⟨g, 8, none⟩ (.int .i64 0) = W := ⟨_, rfl⟩
        obtain ⟨d9, hd9⟩ : ∃ x : DefL, x = { d1 with np := p1, nn := n1, nc := c1, ap := p2, an := n2, ac := c2, dp := some ad, dn := 4, dc := d.dc, polls := 0 } := ⟨_, rfl⟩
        have hg9 : W9.heap[g]? = some (.cells (defC d9) 28 (0, 0)) := by rw [← hW9, hd9]; exact setJ (setJ (setJ (setJ (HA2.out))))
        have hr9 : W9.heap[g + 1]? = some (.cells zDef 28 (0, 0)) := by rw [← hW9]; exact (setN (by omega)).trans ((setN (by omega)).trans ((setN (by omega)).trans ((setN (by omega)).trans (HR2.out))))
        have hb9 : Below g w W9 := by rw [← hW9]; exact (((((ButL.of_below HBw.out).set (S := []) (.inr (Nat.le_refl _)) _ _).set (S := []) (.inr (Nat.le_refl _)) _ _).set (S := []) (.inr (Nat.le_refl _)) _ _).set (S := []) (.inr (Nat.le_refl _)) _ _).toBelow
        have hk9 : ∀ k, g + 2 ≤ k → W9.heap[k]? = wc.heap[k]? := fun k hk => by rw [← hW9]; rw [setN (by omega), setN (by omega), setN (by omega), setN (by omega)]
        have HF : Hid (d9 = cutD d p1 n1 c1 p2 n2 c2) := Lib.hid (by rw [hd9, HD1.out]; simp [cutD, h4, had, hq])
        have HG9 := Lib.hid hg9
        have HR9 := Lib.hid hr9
        have HB9 := Lib.hid hb9
        have HK9 := Lib.hid hk9
        rw [hW9]
        have sz9 := sz_def d9
        have z9 : Hid ((zDef : Array Value).size = (defC d9).size) := Lib.hid rfl
        have o9 : Hid ((defC d9).all (·.oneCell') = true) := Lib.hid (by simp [defC, Value.oneCell'])
        obtain ⟨c9, hc9⟩ : ∃ c, c = defC d9 := ⟨_, rfl⟩
        rw [← hc9] at sz9 z9 o9 HG9
        have HC9 := Lib.hid hc9
        clear hW9 hd9 hg9 hr9 hb9 hk9 hc9 k12 k13 k16 k8 f12 f13 f16 f8
        go_wp2_with (first | (with_reducible refine wpList_load_row rfl 28 _ rfl g rfl 28 c9 (0, 0) _ HG9.out Try.underlying28 rfl sz9 ?_) | (with_reducible show wpList _ _ _ (⟨none, _, _, _, _, _⟩ :: _) _ _; refine wpList_store_row rfl 28 _ _ rfl (g + 1) c9 rfl rfl 28 _ HR9.out sz9 z9.out o9.out ?_))
        refine bodyPost_ret (results_cell_row rfl _ _ (g + 1) 28 c9 (0, 0) _ rfl (setRow_heap _ _ _ _ _ _ HR9.out) Try.underlying28 rfl sz9) rfl ?_
        refine ⟨p1, n1, c1, p2, n2, c2, by rw [HC9.out, HF.out], ?_, ?_, ?_⟩
        · exact ⟨_, by have := HGe.out; omega, own_at HSow.out (fun k hk => (setRow_other _ _ _ _ (by omega)).trans (HK9.out k hk))⟩
        · obtain ⟨B, hB, h⟩ := HS2w.out
          exact ⟨B, by have := HGe.out; omega, own_at h (fun k hk => (setRow_other _ _ _ _ (by omega)).trans (HK9.out k (by omega)))⟩
        · exact ⟨HB9.out.os, HB9.out.tape, HB9.out.output, by rw [setRow_size]; exact HB9.out.size, fun k hk => (setRow_other _ _ _ _ (by have := HGe.out; omega)).trans (HB9.out.block k (by rw [← HGe.out]; exact hk))⟩
      · go_upto_region 16 with (fail)
        obtain ⟨W9, hW9⟩ : ∃ W, ((wc.setCell ⟨g, 12, none⟩ (.slice p1 n1 c1)).setCell ⟨g, 13, none⟩ (.slice p2 n2 c2)).setCell ⟨g, 16, none⟩ (.slice (some ad) 4 d.dc) = W := ⟨_, rfl⟩
        obtain ⟨d9, hd9⟩ : ∃ x : DefL, x = { d1 with np := p1, nn := n1, nc := c1, ap := p2, an := n2, ac := c2, dp := some ad, dn := 4, dc := d.dc, polls := d1.polls } := ⟨_, rfl⟩
        have hg9 : W9.heap[g]? = some (.cells (defC d9) 28 (0, 0)) := by rw [← hW9, hd9]; exact setJ (setJ (setJ (HA2.out)))
        have hr9 : W9.heap[g + 1]? = some (.cells zDef 28 (0, 0)) := by rw [← hW9]; exact (setN (by omega)).trans ((setN (by omega)).trans ((setN (by omega)).trans (HR2.out)))
        have hb9 : Below g w W9 := by rw [← hW9]; exact ((((ButL.of_below HBw.out).set (S := []) (.inr (Nat.le_refl _)) _ _).set (S := []) (.inr (Nat.le_refl _)) _ _).set (S := []) (.inr (Nat.le_refl _)) _ _).toBelow
        have hk9 : ∀ k, g + 2 ≤ k → W9.heap[k]? = wc.heap[k]? := fun k hk => by rw [← hW9]; rw [setN (by omega), setN (by omega), setN (by omega)]
        have HF : Hid (d9 = cutD d p1 n1 c1 p2 n2 c2) := Lib.hid (by rw [hd9, HD1.out]; simp [cutD, h4, had, hp, hq])
        have HG9 := Lib.hid hg9
        have HR9 := Lib.hid hr9
        have HB9 := Lib.hid hb9
        have HK9 := Lib.hid hk9
        rw [hW9]
        have sz9 := sz_def d9
        have z9 : Hid ((zDef : Array Value).size = (defC d9).size) := Lib.hid rfl
        have o9 : Hid ((defC d9).all (·.oneCell') = true) := Lib.hid (by simp [defC, Value.oneCell'])
        obtain ⟨c9, hc9⟩ : ∃ c, c = defC d9 := ⟨_, rfl⟩
        rw [← hc9] at sz9 z9 o9 HG9
        have HC9 := Lib.hid hc9
        clear hW9 hd9 hg9 hr9 hb9 hk9 hc9 k12 k13 k16 k8 f12 f13 f16 f8
        go_wp2_with (first | (with_reducible refine wpList_load_row rfl 28 _ rfl g rfl 28 c9 (0, 0) _ HG9.out Try.underlying28 rfl sz9 ?_) | (with_reducible show wpList _ _ _ (⟨none, _, _, _, _, _⟩ :: _) _ _; refine wpList_store_row rfl 28 _ _ rfl (g + 1) c9 rfl rfl 28 _ HR9.out sz9 z9.out o9.out ?_))
        refine bodyPost_ret (results_cell_row rfl _ _ (g + 1) 28 c9 (0, 0) _ rfl (setRow_heap _ _ _ _ _ _ HR9.out) Try.underlying28 rfl sz9) rfl ?_
        refine ⟨p1, n1, c1, p2, n2, c2, by rw [HC9.out, HF.out], ?_, ?_, ?_⟩
        · exact ⟨_, by have := HGe.out; omega, own_at HSow.out (fun k hk => (setRow_other _ _ _ _ (by omega)).trans (HK9.out k hk))⟩
        · obtain ⟨B, hB, h⟩ := HS2w.out
          exact ⟨B, by have := HGe.out; omega, own_at h (fun k hk => (setRow_other _ _ _ _ (by omega)).trans (HK9.out k (by omega)))⟩
        · exact ⟨HB9.out.os, HB9.out.tape, HB9.out.output, by rw [setRow_size]; exact HB9.out.size, fun k hk => (setRow_other _ _ _ _ (by have := HGe.out; omega)).trans (HB9.out.block k (by rw [← HGe.out]; exact hk))⟩
  · by_cases hp : d.polls < 0
    · go_upto_region 16 with (fail)
      obtain ⟨W9, hW9⟩ : ∃ W, ((wc.setCell ⟨g, 12, none⟩ (.slice p1 n1 c1)).setCell ⟨g, 13, none⟩ (.slice p2 n2 c2)).setCell ⟨g, 8, none⟩ (.int .i64 0) = W := ⟨_, rfl⟩
      obtain ⟨d9, hd9⟩ : ∃ x : DefL, x = { d1 with np := p1, nn := n1, nc := c1, ap := p2, an := n2, ac := c2, dp := d1.dp, dn := d1.dn, dc := d1.dc, polls := 0 } := ⟨_, rfl⟩
      have hg9 : W9.heap[g]? = some (.cells (defC d9) 28 (0, 0)) := by rw [← hW9, hd9]; exact setJ (setJ (setJ (HA2.out)))
      have hr9 : W9.heap[g + 1]? = some (.cells zDef 28 (0, 0)) := by rw [← hW9]; exact (setN (by omega)).trans ((setN (by omega)).trans ((setN (by omega)).trans (HR2.out)))
      have hb9 : Below g w W9 := by rw [← hW9]; exact ((((ButL.of_below HBw.out).set (S := []) (.inr (Nat.le_refl _)) _ _).set (S := []) (.inr (Nat.le_refl _)) _ _).set (S := []) (.inr (Nat.le_refl _)) _ _).toBelow
      have hk9 : ∀ k, g + 2 ≤ k → W9.heap[k]? = wc.heap[k]? := fun k hk => by rw [← hW9]; rw [setN (by omega), setN (by omega), setN (by omega)]
      have HF : Hid (d9 = cutD d p1 n1 c1 p2 n2 c2) := Lib.hid (by rw [hd9, HD1.out]; simp [cutD, h4, hp])
      have HG9 := Lib.hid hg9
      have HR9 := Lib.hid hr9
      have HB9 := Lib.hid hb9
      have HK9 := Lib.hid hk9
      rw [hW9]
      have sz9 := sz_def d9
      have z9 : Hid ((zDef : Array Value).size = (defC d9).size) := Lib.hid rfl
      have o9 : Hid ((defC d9).all (·.oneCell') = true) := Lib.hid (by simp [defC, Value.oneCell'])
      obtain ⟨c9, hc9⟩ : ∃ c, c = defC d9 := ⟨_, rfl⟩
      rw [← hc9] at sz9 z9 o9 HG9
      have HC9 := Lib.hid hc9
      clear hW9 hd9 hg9 hr9 hb9 hk9 hc9 k12 k13 k16 k8 f12 f13 f16 f8
      go_wp2_with (first | (with_reducible refine wpList_load_row rfl 28 _ rfl g rfl 28 c9 (0, 0) _ HG9.out Try.underlying28 rfl sz9 ?_) | (with_reducible show wpList _ _ _ (⟨none, _, _, _, _, _⟩ :: _) _ _; refine wpList_store_row rfl 28 _ _ rfl (g + 1) c9 rfl rfl 28 _ HR9.out sz9 z9.out o9.out ?_))
      refine bodyPost_ret (results_cell_row rfl _ _ (g + 1) 28 c9 (0, 0) _ rfl (setRow_heap _ _ _ _ _ _ HR9.out) Try.underlying28 rfl sz9) rfl ?_
      refine ⟨p1, n1, c1, p2, n2, c2, by rw [HC9.out, HF.out], ?_, ?_, ?_⟩
      · exact ⟨_, by have := HGe.out; omega, own_at HSow.out (fun k hk => (setRow_other _ _ _ _ (by omega)).trans (HK9.out k hk))⟩
      · obtain ⟨B, hB, h⟩ := HS2w.out
        exact ⟨B, by have := HGe.out; omega, own_at h (fun k hk => (setRow_other _ _ _ _ (by omega)).trans (HK9.out k (by omega)))⟩
      · exact ⟨HB9.out.os, HB9.out.tape, HB9.out.output, by rw [setRow_size]; exact HB9.out.size, fun k hk => (setRow_other _ _ _ _ (by have := HGe.out; omega)).trans (HB9.out.block k (by rw [← HGe.out]; exact hk))⟩
    · by_cases hq : 4 < d.polls
      · go_upto_region 16 with (fail)
        obtain ⟨W9, hW9⟩ : ∃ W, ((wc.setCell ⟨g, 12, none⟩ (.slice p1 n1 c1)).setCell ⟨g, 13, none⟩ (.slice p2 n2 c2)).setCell ⟨g, 8, none⟩ (.int .i64 0) = W := ⟨_, rfl⟩
        obtain ⟨d9, hd9⟩ : ∃ x : DefL, x = { d1 with np := p1, nn := n1, nc := c1, ap := p2, an := n2, ac := c2, dp := d1.dp, dn := d1.dn, dc := d1.dc, polls := 0 } := ⟨_, rfl⟩
        have hg9 : W9.heap[g]? = some (.cells (defC d9) 28 (0, 0)) := by rw [← hW9, hd9]; exact setJ (setJ (setJ (HA2.out)))
        have hr9 : W9.heap[g + 1]? = some (.cells zDef 28 (0, 0)) := by rw [← hW9]; exact (setN (by omega)).trans ((setN (by omega)).trans ((setN (by omega)).trans (HR2.out)))
        have hb9 : Below g w W9 := by rw [← hW9]; exact ((((ButL.of_below HBw.out).set (S := []) (.inr (Nat.le_refl _)) _ _).set (S := []) (.inr (Nat.le_refl _)) _ _).set (S := []) (.inr (Nat.le_refl _)) _ _).toBelow
        have hk9 : ∀ k, g + 2 ≤ k → W9.heap[k]? = wc.heap[k]? := fun k hk => by rw [← hW9]; rw [setN (by omega), setN (by omega), setN (by omega)]
        have HF : Hid (d9 = cutD d p1 n1 c1 p2 n2 c2) := Lib.hid (by rw [hd9, HD1.out]; simp [cutD, h4, hq])
        have HG9 := Lib.hid hg9
        have HR9 := Lib.hid hr9
        have HB9 := Lib.hid hb9
        have HK9 := Lib.hid hk9
        rw [hW9]
        have sz9 := sz_def d9
        have z9 : Hid ((zDef : Array Value).size = (defC d9).size) := Lib.hid rfl
        have o9 : Hid ((defC d9).all (·.oneCell') = true) := Lib.hid (by simp [defC, Value.oneCell'])
        obtain ⟨c9, hc9⟩ : ∃ c, c = defC d9 := ⟨_, rfl⟩
        rw [← hc9] at sz9 z9 o9 HG9
        have HC9 := Lib.hid hc9
        clear hW9 hd9 hg9 hr9 hb9 hk9 hc9 k12 k13 k16 k8 f12 f13 f16 f8
        go_wp2_with (first | (with_reducible refine wpList_load_row rfl 28 _ rfl g rfl 28 c9 (0, 0) _ HG9.out Try.underlying28 rfl sz9 ?_) | (with_reducible show wpList _ _ _ (⟨none, _, _, _, _, _⟩ :: _) _ _; refine wpList_store_row rfl 28 _ _ rfl (g + 1) c9 rfl rfl 28 _ HR9.out sz9 z9.out o9.out ?_))
        refine bodyPost_ret (results_cell_row rfl _ _ (g + 1) 28 c9 (0, 0) _ rfl (setRow_heap _ _ _ _ _ _ HR9.out) Try.underlying28 rfl sz9) rfl ?_
        refine ⟨p1, n1, c1, p2, n2, c2, by rw [HC9.out, HF.out], ?_, ?_, ?_⟩
        · exact ⟨_, by have := HGe.out; omega, own_at HSow.out (fun k hk => (setRow_other _ _ _ _ (by omega)).trans (HK9.out k hk))⟩
        · obtain ⟨B, hB, h⟩ := HS2w.out
          exact ⟨B, by have := HGe.out; omega, own_at h (fun k hk => (setRow_other _ _ _ _ (by omega)).trans (HK9.out k (by omega)))⟩
        · exact ⟨HB9.out.os, HB9.out.tape, HB9.out.output, by rw [setRow_size]; exact HB9.out.size, fun k hk => (setRow_other _ _ _ _ (by have := HGe.out; omega)).trans (HB9.out.block k (by rw [← HGe.out]; exact hk))⟩
      · go_upto_region 16 with (fail)
        obtain ⟨W9, hW9⟩ : ∃ W, (wc.setCell ⟨g, 12, none⟩ (.slice p1 n1 c1)).setCell ⟨g, 13, none⟩ (.slice p2 n2 c2) = W := ⟨_, rfl⟩
        obtain ⟨d9, hd9⟩ : ∃ x : DefL, x = { d1 with np := p1, nn := n1, nc := c1, ap := p2, an := n2, ac := c2, dp := d1.dp, dn := d1.dn, dc := d1.dc, polls := d1.polls } := ⟨_, rfl⟩
        have hg9 : W9.heap[g]? = some (.cells (defC d9) 28 (0, 0)) := by rw [← hW9, hd9]; exact setJ (setJ (HA2.out))
        have hr9 : W9.heap[g + 1]? = some (.cells zDef 28 (0, 0)) := by rw [← hW9]; exact (setN (by omega)).trans ((setN (by omega)).trans (HR2.out))
        have hb9 : Below g w W9 := by rw [← hW9]; exact (((ButL.of_below HBw.out).set (S := []) (.inr (Nat.le_refl _)) _ _).set (S := []) (.inr (Nat.le_refl _)) _ _).toBelow
        have hk9 : ∀ k, g + 2 ≤ k → W9.heap[k]? = wc.heap[k]? := fun k hk => by rw [← hW9]; rw [setN (by omega), setN (by omega)]
        have HF : Hid (d9 = cutD d p1 n1 c1 p2 n2 c2) := Lib.hid (by rw [hd9, HD1.out]; simp [cutD, h4, hp, hq])
        have HG9 := Lib.hid hg9
        have HR9 := Lib.hid hr9
        have HB9 := Lib.hid hb9
        have HK9 := Lib.hid hk9
        rw [hW9]
        have sz9 := sz_def d9
        have z9 : Hid ((zDef : Array Value).size = (defC d9).size) := Lib.hid rfl
        have o9 : Hid ((defC d9).all (·.oneCell') = true) := Lib.hid (by simp [defC, Value.oneCell'])
        obtain ⟨c9, hc9⟩ : ∃ c, c = defC d9 := ⟨_, rfl⟩
        rw [← hc9] at sz9 z9 o9 HG9
        have HC9 := Lib.hid hc9
        clear hW9 hd9 hg9 hr9 hb9 hk9 hc9 k12 k13 k16 k8 f12 f13 f16 f8
        go_wp2_with (first | (with_reducible refine wpList_load_row rfl 28 _ rfl g rfl 28 c9 (0, 0) _ HG9.out Try.underlying28 rfl sz9 ?_) | (with_reducible show wpList _ _ _ (⟨none, _, _, _, _, _⟩ :: _) _ _; refine wpList_store_row rfl 28 _ _ rfl (g + 1) c9 rfl rfl 28 _ HR9.out sz9 z9.out o9.out ?_))
        refine bodyPost_ret (results_cell_row rfl _ _ (g + 1) 28 c9 (0, 0) _ rfl (setRow_heap _ _ _ _ _ _ HR9.out) Try.underlying28 rfl sz9) rfl ?_
        refine ⟨p1, n1, c1, p2, n2, c2, by rw [HC9.out, HF.out], ?_, ?_, ?_⟩
        · exact ⟨_, by have := HGe.out; omega, own_at HSow.out (fun k hk => (setRow_other _ _ _ _ (by omega)).trans (HK9.out k hk))⟩
        · obtain ⟨B, hB, h⟩ := HS2w.out
          exact ⟨B, by have := HGe.out; omega, own_at h (fun k hk => (setRow_other _ _ _ _ (by omega)).trans (HK9.out k (by omega)))⟩
        · exact ⟨HB9.out.os, HB9.out.tape, HB9.out.output, by rw [setRow_size]; exact HB9.out.size, fun k hk => (setRow_other _ _ _ _ (by have := HGe.out; omega)).trans (HB9.out.block k (by rw [← HGe.out]; exact hk))⟩
end Go.Proofs.Ytpdkjifalgeodaa
