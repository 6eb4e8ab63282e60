/- Contract of the document's name. -/
import Derived.Test.YtepfeekfglpjoaaDoorWsCb
namespace Go.Wi
open Go.Tx
theorem BA.below {w w' : World} {a : Option Addr} {n c : Nat} {l : List UInt8} (h : BA w a n c l) (hb : RowKit.Below w.heap.size w w') (hlt : ∀ x, a = some x → x.block < w.heap.size) : BA w' a n c l :=
  ⟨h.len, h.cap, h.max, h.none, fun x hx j b hj => by
    rw [hb.cell (by rw [add_block]; exact hlt x hx)]; exact h.cell x hx j b hj⟩
/-- A label, folded; none: it is none. -/
def labH (m : List UInt8) : Option (List UInt8) := if nameB (bare m) = true ∧ Tx.isRoot m = false ∧ Lib.countByte ((bare m).map low) 46 = 0 then some ((bare m).map low) else none
def joinH (s m : List UInt8) : List UInt8 := if s = [] then m else s ++ [46] ++ m
/-- The document's name. -/
def nameH (l : List UInt8) : Nat → Nat → Nat → List UInt8 → Option Nat → Option (List UInt8 × Nat)
  | 0, _, _, _, _ => none
  | f + 1, lo, i, s, en =>
    match l[i]? with
    | none => none
    | some z =>
      if z.toNat = 0 then (if nameB (bare s) = true then some ((bare s).map low, en.getD (i + 1)) else none)
      else if 192 ≤ z.toNat then
        (match l[i + 1]? with
        | none => none
        | some y => if (z.toNat - 192) * 256 + y.toNat < i ∧ (z.toNat - 192) * 256 + y.toNat < (if en = none then i else lo) then nameH l f ((z.toNat - 192) * 256 + y.toNat) ((z.toNat - 192) * 256 + y.toNat) s (some (en.getD (i + 2))) else none)
      else if 63 < z.toNat then none
      else if i + 1 + z.toNat ≤ l.length then
        (match labH (tk l (i + 1) z.toNat) with
        | none => none
        | some m => if (joinH s m).length ≤ 253 then nameH l f lo (i + 1 + z.toNat) (joinH s m) en else none)
      else none
theorem nameH_end {l : List UInt8} {f lo i : Nat} {en : Option Nat} {s : List UInt8} (h : l[i]? = none) : nameH l f lo i s en = none := by
  cases f with
  | zero => rfl
  | succ f => unfold nameH; rw [h]
theorem nameH_bad {l : List UInt8} {f lo i : Nat} {en : Option Nat} {s : List UInt8} {z : UInt8} (h : l[i]? = some z) (hz : z.toNat = 0) (hn : nameB (bare s) = false) : nameH l f lo i s en = none := by
  cases f with
  | zero => rfl
  | succ f => unfold nameH; rw [h]; simp only; rw [if_pos hz, if_neg (by rw [hn]; decide)]
theorem nameH_fin {l : List UInt8} {f lo i : Nat} {en : Option Nat} {s : List UInt8} {z : UInt8} (h : l[i]? = some z) (hz : z.toNat = 0) (hn : nameB (bare s) = true) : nameH l (f + 1) lo i s en = some ((bare s).map low, en.getD (i + 1)) := by
  rw [nameH, h]; simp only; rw [if_pos hz, if_pos hn]
theorem nameH_short {l : List UInt8} {f lo i : Nat} {en : Option Nat} {s : List UInt8} {z : UInt8} (h : l[i]? = some z) (hz : 192 ≤ z.toNat) (h2 : l[i + 1]? = none) : nameH l f lo i s en = none := by
  cases f with
  | zero => rfl
  | succ f => unfold nameH; rw [h]; simp only; rw [if_neg (by omega), if_pos hz, h2]
theorem nameH_wild {l : List UInt8} {f lo i : Nat} {en : Option Nat} {s : List UInt8} {z y : UInt8} (h : l[i]? = some z) (hz : 192 ≤ z.toNat) (h2 : l[i + 1]? = some y) (ht : ¬ ((z.toNat - 192) * 256 + y.toNat < i ∧ (z.toNat - 192) * 256 + y.toNat < (if en = none then i else lo))) : nameH l f lo i s en = none := by
  cases f with
  | zero => rfl
  | succ f => unfold nameH; rw [h]; simp only; rw [if_neg (by omega), if_pos hz, h2]; simp only; rw [if_neg ht]
theorem nameH_ptr {l : List UInt8} {f lo i : Nat} {en : Option Nat} {s : List UInt8} {z y : UInt8} (h : l[i]? = some z) (hz : 192 ≤ z.toNat) (h2 : l[i + 1]? = some y) (ht : (z.toNat - 192) * 256 + y.toNat < i ∧ (z.toNat - 192) * 256 + y.toNat < (if en = none then i else lo)) :
    nameH l (f + 1) lo i s en = nameH l f ((z.toNat - 192) * 256 + y.toNat) ((z.toNat - 192) * 256 + y.toNat) s (some (en.getD (i + 2))) := by
  rw [nameH, h]; simp only; rw [if_neg (by omega), if_pos hz, h2]; simp only; rw [if_pos ht]
theorem nameH_big {l : List UInt8} {f lo i : Nat} {en : Option Nat} {s : List UInt8} {z : UInt8} (h : l[i]? = some z) (hz : ¬ 192 ≤ z.toNat) (hz2 : 63 < z.toNat) : nameH l f lo i s en = none := by
  cases f with
  | zero => rfl
  | succ f => unfold nameH; rw [h]; simp only; rw [if_neg (by omega), if_neg hz, if_pos hz2]
theorem nameH_long {l : List UInt8} {f lo i : Nat} {en : Option Nat} {s : List UInt8} {z : UInt8} (h : l[i]? = some z) (hz0 : ¬ z.toNat = 0) (hz : ¬ 63 < z.toNat) (hc : ¬ i + 1 + z.toNat ≤ l.length) : nameH l f lo i s en = none := by
  cases f with
  | zero => rfl
  | succ f => unfold nameH; rw [h]; simp only; rw [if_neg hz0, if_neg (by omega), if_neg hz, if_neg hc]
theorem nameH_nolab {l : List UInt8} {f lo i : Nat} {en : Option Nat} {s : List UInt8} {z : UInt8} (h : l[i]? = some z) (hz0 : ¬ z.toNat = 0) (hz : ¬ 63 < z.toNat) (hl : labH (tk l (i + 1) z.toNat) = none) : nameH l f lo i s en = none := by
  cases f with
  | zero => rfl
  | succ f =>
    unfold nameH; rw [h]; simp only; rw [if_neg hz0, if_neg (by omega), if_neg hz, hl]
    split <;> rfl
theorem nameH_many {l : List UInt8} {f lo i : Nat} {en : Option Nat} {s m : List UInt8} {z : UInt8} (h : l[i]? = some z) (hz0 : ¬ z.toNat = 0) (hz : ¬ 63 < z.toNat) (hl : labH (tk l (i + 1) z.toNat) = some m) (hj : ¬ (joinH s m).length ≤ 253) : nameH l f lo i s en = none := by
  cases f with
  | zero => rfl
  | succ f =>
    unfold nameH; rw [h]; simp only; rw [if_neg hz0, if_neg (by omega), if_neg hz, hl]
    simp only
    rw [if_neg hj]
    split <;> rfl
theorem nameH_lab {l : List UInt8} {f lo i : Nat} {en : Option Nat} {s m : List UInt8} {z : UInt8} (h : l[i]? = some z) (hz0 : ¬ z.toNat = 0) (hz : ¬ 63 < z.toNat) (hc : i + 1 + z.toNat ≤ l.length) (hl : labH (tk l (i + 1) z.toNat) = some m) (hj : (joinH s m).length ≤ 253) :
    nameH l (f + 1) lo i s en = nameH l f lo (i + 1 + z.toNat) (joinH s m) en := by
  rw [nameH, h]; simp only; rw [if_neg hz0, if_neg (by omega), if_neg hz, if_pos hc, hl]; simp only; rw [if_pos hj]
def nameX (l : List UInt8) (i : Nat) : Option (List UInt8 × Nat) := nameH l ((l.length + 1) * (l.length + 2) + 1) l.length i [] none
/-- How the document keeps where what follows stands. -/
def enV : Option Nat → Int
  | none => -1
  | some k => k
end Go.Wi
namespace Go.Proofs.YtepfeekfglpjoaaDoor
open Go.RowKit Go.Lib Go.Wi Go.Tx
def NameX (w : World) (n : Nat) (R : Option (List UInt8 × Nat)) (e : Ending) (w' : World) : Prop :=
  Below w.heap.size w w' ∧ match R with
    | some (m, j) => e = .returned (.tuple #[.string ⟨m.toArray⟩, .int .i64 (j : Int), .bool true]) ∧ j ≤ n
    | none => ∃ x : Int, e = .returned (.tuple #[.string ⟨#[]⟩, .int .i64 x, .bool false])
structure XI (n : Nat) (l : List UInt8) (R : Option (List UInt8 × Nat)) (s : ByteArray) (en : Option Nat) (lo k : Nat) : Prop where
  kn : k ≤ n
  lon : lo ≤ n
  sz : s.size ≤ 253
  enl : ∀ j, en = some j → j ≤ n
  enn : en = none → lo = n
  go : ∃ f, R = nameH l f lo k s.data.toList en ∧ lo * (n + 2) + (n + 1 - k) ≤ f
def muX (n : Nat) (lo i : Value) : Nat := 1 + (RowKit.intOf lo).toNat * (n + 2) + (n + 1 - (RowKit.intOf i).toNat)
set_option maxHeartbeats 4000000 in
set_option maxRecDepth 100000 in
theorem namex_any (w : World) (a : Option Addr) (n c : Nat) (l : List UInt8) (k0 : Nat) (h : Go.Wi.BA w a n c l) (ha : ∀ x, a = some x → x.block < w.heap.size) (hn : n ≤ 4096) (hk0 : k0 ≤ n) :
    Calls Tryd.prog 25 #[.slice a n c, .int .i64 (k0 : Int)] w (NameX w n (nameX l k0)) := by
  have hcap := h.cap
  have hmax := h.max
  have hl : l.length = n := h.len
  have HL := Lib.hid hl
  have HA := Lib.hid h
  have HLt := Lib.hid ha
  obtain ⟨R, hR⟩ : ∃ R, nameX l k0 = R := ⟨_, rfl⟩
  have HI : Hid (XI n l R ⟨#[]⟩ none n k0) := Lib.hid ⟨hk0, Nat.le_refl _, Nat.zero_le _, (fun j h => by cases h), fun _ => rfl, (n + 1) * (n + 2) + 1, by rw [← hR]; unfold nameX; rw [hl], by
    have : (n + 1) * (n + 2) = n * (n + 2) + (n + 2) := by rw [Nat.add_mul, Nat.one_mul]
    omega⟩
  rw [hR]
  clear h ha hl hR
  go_enter Tryd.func25, Tryd.ntmps25
  go_wp2
  go_loopw [7, 8, 9, 10] (fun sv ev lv iv wr => ∃ (s : ByteArray) (en : Option Nat) (lo k : Nat), sv = .string s ∧ ev = .int .i64 (enV en) ∧ lv = .int .i64 lo ∧ iv = .int .i64 k ∧ Hid (XI n l R s en lo k) ∧ Below w.heap.size w wr) (fun _ _ lv iv _ => muX n lv iv)
  case atStart => exact ⟨⟨#[]⟩, none, n, k0, rfl, rfl, rfl, rfl, HI, Below.refl _ _⟩
  case round =>
    obtain ⟨s, en, lo, k, rfl, rfl, rfl, rfl, hI, hbw⟩ := hrel
    have hkn := hI.out.kn
    have hlo := hI.out.lon
    have hsz := hI.out.sz
    obtain ⟨f, hRf, hf⟩ := hI.out.go
    have HRF := Lib.hid hRf
    have HF := Lib.hid hf
    have HEN := Lib.hid hI.out.enl
    have HENN := Lib.hid hI.out.enn
    have HB := Lib.hid hbw
    have HBA := Lib.hid (HA.out.below hbw HLt.out)
    clear hI hRf hf hbw
    by_cases hk : k < n
    · obtain ⟨z, hz⟩ : ∃ z, l[k]? = some z := ⟨_, List.getElem?_eq_getElem (by rw [HL.out]; exact hk)⟩
      have HZ := Lib.hid hz
      have hzl := z.toNat_lt
      have hlt : ¬ (n : Int) ≤ (k : Int) := by omega
      cases a with
      | none => have := HBA.out.none rfl; omega
      | some ad =>
        have hcz := HBA.out.cell ad rfl k z hz
        clear hz
        by_cases hz0 : z.toNat = 0
        · skip
          have hzi : ((z.toNat : Int) == 0) = true := by rw [hz0]; rfl
          cases en with
          | none =>
            have hen : enV none = -1 := rfl
            cases hnb : nameB (bare s.data.toList) with
            | true =>
              obtain ⟨f, rfl⟩ : ∃ g, f = g + 1 := ⟨f - 1, by have := HF.out; omega⟩
              have HRF2 := Lib.hid (HRF.out.trans (nameH_fin HZ.out hz0 hnb))
              obtain ⟨m, hm⟩ : ∃ m : ByteArray, (⟨((bare s.data.toList).map low).toArray⟩ : ByteArray) = m := ⟨_, rfl⟩
              have HM := Lib.hid hm
              have hv : cleanV s.data.toList = .tuple #[.string m, .bool (isRoot s.data.toList), .bool true] := by unfold cleanV; rw [if_pos hnb, hm]
              have HC : Hid (∀ W, Calls Tryd.prog 28 #[.string s] W fun e w' => e = .returned (.tuple #[.string m, .bool (isRoot s.data.toList), .bool true]) ∧ Below W.heap.size W w') := Lib.hid (fun W => by rw [← hv]; exact rclean_any s W (by omega))
              generalize isRoot s.data.toList = br at HC
              clear hnb hm hv
              go_wp2_with (first | (go_at_call 28; refine (HC.out _).mono ?_; rintro e w' ⟨rfl, hb3⟩; have HB := Lib.hid (HB.out.trans (hb3.mono HB.out.size)); clear hb3))
              go_ret3
              unfold NameX
              rw [HRF2.out]
              exact ⟨HB.out, by simp only [Option.getD_none, HM.out]; rfl, by simp only [Option.getD_none]; omega⟩
            | false =>
              have HNo := Lib.hid (HRF.out.trans (nameH_bad HZ.out hz0 hnb))
              have hv : cleanV s.data.toList = .tuple #[.string ⟨#[]⟩, .bool false, .bool false] := by unfold cleanV; rw [if_neg (by rw [hnb]; decide)]
              have HC : Hid (∀ W, Calls Tryd.prog 28 #[.string s] W fun e w' => e = .returned (.tuple #[.string ⟨#[]⟩, .bool false, .bool false]) ∧ Below W.heap.size W w') := Lib.hid (fun W => by rw [← hv]; exact rclean_any s W (by omega))
              clear hnb hv
              go_wp2_with (first | (go_at_call 28; refine (HC.out _).mono ?_; rintro e w' ⟨rfl, hb3⟩; have HB := Lib.hid (HB.out.trans (hb3.mono HB.out.size)); clear hb3))
              go_ret3
              unfold NameX
              rw [HNo.out]
              exact ⟨HB.out, _, rfl⟩
          | some je =>
            have hen : enV (some je) = (je : Int) := rfl
            have hje : ¬ (je : Int) < 0 := by omega
            cases hnb : nameB (bare s.data.toList) with
            | true =>
              obtain ⟨f, rfl⟩ : ∃ g, f = g + 1 := ⟨f - 1, by have := HF.out; omega⟩
              have HRF2 := Lib.hid (HRF.out.trans (nameH_fin HZ.out hz0 hnb))
              obtain ⟨m, hm⟩ : ∃ m : ByteArray, (⟨((bare s.data.toList).map low).toArray⟩ : ByteArray) = m := ⟨_, rfl⟩
              have HM := Lib.hid hm
              have hv : cleanV s.data.toList = .tuple #[.string m, .bool (isRoot s.data.toList), .bool true] := by unfold cleanV; rw [if_pos hnb, hm]
              have HC : Hid (∀ W, Calls Tryd.prog 28 #[.string s] W fun e w' => e = .returned (.tuple #[.string m, .bool (isRoot s.data.toList), .bool true]) ∧ Below W.heap.size W w') := Lib.hid (fun W => by rw [← hv]; exact rclean_any s W (by omega))
              generalize isRoot s.data.toList = br at HC
              clear hnb hm hv
              go_wp2_with (first | (go_at_call 28; refine (HC.out _).mono ?_; rintro e w' ⟨rfl, hb3⟩; have HB := Lib.hid (HB.out.trans (hb3.mono HB.out.size)); clear hb3))
              go_ret3
              unfold NameX
              rw [HRF2.out]
              exact ⟨HB.out, by simp only [Option.getD_some, HM.out]; rfl, by have := HEN.out je rfl; simpa using this⟩
            | false =>
              have HNo := Lib.hid (HRF.out.trans (nameH_bad HZ.out hz0 hnb))
              have hv : cleanV s.data.toList = .tuple #[.string ⟨#[]⟩, .bool false, .bool false] := by unfold cleanV; rw [if_neg (by rw [hnb]; decide)]
              have HC : Hid (∀ W, Calls Tryd.prog 28 #[.string s] W fun e w' => e = .returned (.tuple #[.string ⟨#[]⟩, .bool false, .bool false]) ∧ Below W.heap.size W w') := Lib.hid (fun W => by rw [← hv]; exact rclean_any s W (by omega))
              clear hnb hv
              go_wp2_with (first | (go_at_call 28; refine (HC.out _).mono ?_; rintro e w' ⟨rfl, hb3⟩; have HB := Lib.hid (HB.out.trans (hb3.mono HB.out.size)); clear hb3))
              go_ret3
              unfold NameX
              rw [HNo.out]
              exact ⟨HB.out, _, rfl⟩
        · by_cases hz1 : 192 ≤ z.toNat
          · skip
            have hz1i : ((z.toNat : Int) == 0) = false := by rw [beq_eq_false_iff_ne]; omega
            have hz2i : (192 : Int) ≤ (z.toNat : Int) := by omega
            by_cases hk2 : k + 1 < n
            · obtain ⟨y, hy⟩ : ∃ y, l[k + 1]? = some y := ⟨_, List.getElem?_eq_getElem (by rw [HL.out]; exact hk2)⟩
              have HY := Lib.hid hy
              have hyl := y.toNat_lt
              have hcy : wr.cell? { block := ad.block, off := ad.off + (k + 1) } = some (.int .u8 (y.toNat : Int)) := by
                have e : ad.add (k + 1) = { block := ad.block, off := ad.off + (k + 1) } := by unfold Addr.add; simp
                rw [← e]; exact HBA.out.cell ad rfl (k + 1) y hy
              have hb1 : ¬ (n : Int) ≤ (k : Int) + 1 := by omega
              clear hy
              obtain ⟨t, ht⟩ : ∃ t, (z.toNat - 192) * 256 + y.toNat = t := ⟨_, rfl⟩
              have hti : ((z.toNat : Int) - 192) * 256 + (y.toNat : Int) = (t : Int) := by omega
              have HTT := Lib.hid ht
              clear ht
              cases en with
              | none =>
                have hen : enV none = -1 := rfl
                have hlon := HENN.out rfl
                by_cases htk : t < k
                · skip
                  have hlt1 : ¬ (k : Int) ≤ (t : Int) := by omega
                  have hld1 : decide ((k : Int) ≤ (t : Int)) = false := decide_eq_false hlt1
                  obtain ⟨f, rfl⟩ : ∃ g, f = g + 1 := ⟨f - 1, by have := HF.out; omega⟩
                  have HRF2 := Lib.hid (HRF.out.trans (nameH_ptr HZ.out hz1 HY.out (by rw [HTT.out]; exact ⟨by omega, by simp; omega⟩)))
                  have HMu := Lib.hid (meas_ptr HF.out (show t < lo by omega) hkn)
                  go_wp2
                  go_roundw
                  case rel => exact ⟨s, some (k + 2), t, t, rfl, by first | rfl | (show Value.int _ _ = Value.int _ _; congr 1), rfl, rfl, Lib.hid ⟨by omega, by omega, hsz, (fun j h => by cases h; omega), (fun h => by cases h), f, by have h := HRF2.out; rw [HTT.out] at h; simpa using h, HMu.out⟩, HB.out⟩
                  case measure =>
                    show 1 + ((t : Int)).toNat * (n + 2) + (n + 1 - ((t : Int)).toNat) < 1 + ((lo : Int)).toNat * (n + 2) + (n + 1 - ((k : Int)).toNat)
                    rw [Int.toNat_natCast, Int.toNat_natCast, Int.toNat_natCast]
                    have := meas_lt (n := n) (k := k) (show t < lo by omega)
                    omega
                · have hlt1 : (k : Int) ≤ (t : Int) := by omega
                  have hld1 : decide ((k : Int) ≤ (t : Int)) = true := decide_eq_true hlt1
                  have HNo := Lib.hid (HRF.out.trans (nameH_wild HZ.out hz1 HY.out (by rw [HTT.out]; exact fun h => htk h.1)))
                  go_wp2
                  go_ret3
                  unfold NameX
                  rw [HNo.out]
                  exact ⟨HB.out, _, rfl⟩
              | some je =>
                have hen : enV (some je) = (je : Int) := rfl
                have hje : ¬ (je : Int) < 0 := by omega
                have hjen := HEN.out je rfl
                by_cases htk : t < k
                · by_cases htl : t < lo
                  · have hlt2 : ¬ (lo : Int) ≤ (t : Int) := by omega
                    have hld2 : decide ((lo : Int) ≤ (t : Int)) = false := decide_eq_false hlt2
                    have hlt1 : ¬ (k : Int) ≤ (t : Int) := by omega
                    have hld1 : decide ((k : Int) ≤ (t : Int)) = false := decide_eq_false hlt1
                    obtain ⟨f, rfl⟩ : ∃ g, f = g + 1 := ⟨f - 1, by have := HF.out; omega⟩
                    have HRF2 := Lib.hid (HRF.out.trans (nameH_ptr HZ.out hz1 HY.out (by rw [HTT.out]; exact ⟨by omega, by simp; omega⟩)))
                    have HMu := Lib.hid (meas_ptr HF.out (show t < lo by omega) hkn)
                    go_wp2
                    go_roundw
                    case rel => exact ⟨s, some (je), t, t, rfl, by first | rfl | (show Value.int _ _ = Value.int _ _; congr 1), rfl, rfl, Lib.hid ⟨by omega, by omega, hsz, (fun j h => by cases h; omega), (fun h => by cases h), f, by have h := HRF2.out; rw [HTT.out] at h; simpa using h, HMu.out⟩, HB.out⟩
                    case measure =>
                      show 1 + ((t : Int)).toNat * (n + 2) + (n + 1 - ((t : Int)).toNat) < 1 + ((lo : Int)).toNat * (n + 2) + (n + 1 - ((k : Int)).toNat)
                      rw [Int.toNat_natCast, Int.toNat_natCast, Int.toNat_natCast]
                      have := meas_lt (n := n) (k := k) (show t < lo by omega)
                      omega
                  · have hlt1 : ¬ (k : Int) ≤ (t : Int) := by omega
                    have hld1 : decide ((k : Int) ≤ (t : Int)) = false := decide_eq_false hlt1
                    have hlt2 : (lo : Int) ≤ (t : Int) := by omega
                    have hld2 : decide ((lo : Int) ≤ (t : Int)) = true := decide_eq_true hlt2
                    have HNo := Lib.hid (HRF.out.trans (nameH_wild HZ.out hz1 HY.out (by rw [HTT.out]; exact fun h => htl (by have := h.2; simpa using this))))
                    go_wp2
                    go_ret3
                    unfold NameX
                    rw [HNo.out]
                    exact ⟨HB.out, _, rfl⟩
                · have hlt1 : (k : Int) ≤ (t : Int) := by omega
                  have hld1 : decide ((k : Int) ≤ (t : Int)) = true := decide_eq_true hlt1
                  have HNo := Lib.hid (HRF.out.trans (nameH_wild HZ.out hz1 HY.out (by rw [HTT.out]; exact fun h => htk h.1)))
                  go_wp2
                  go_ret3
                  unfold NameX
                  rw [HNo.out]
                  exact ⟨HB.out, _, rfl⟩
            · have HNo := Lib.hid (HRF.out.trans (nameH_short HZ.out hz1 (List.getElem?_eq_none (by rw [HL.out]; omega))))
              have hb1 : (n : Int) ≤ (k : Int) + 1 := by omega
              go_wp2
              go_ret3
              unfold NameX
              rw [HNo.out]
              exact ⟨HB.out, _, rfl⟩
          · by_cases hz63 : 63 < z.toNat
            · skip
              have hz1i : ((z.toNat : Int) == 0) = false := by rw [beq_eq_false_iff_ne]; omega
              have hz2i : (z.toNat : Int) < 192 := by omega
              have hz3i : (63 : Int) < (z.toNat : Int) := by omega
              have HNo := Lib.hid (HRF.out.trans (nameH_big HZ.out hz1 hz63))
              go_wp2
              go_ret3
              unfold NameX
              rw [HNo.out]
              exact ⟨HB.out, _, rfl⟩
            · skip
              have hz1i : ((z.toNat : Int) == 0) = false := by rw [beq_eq_false_iff_ne]; omega
              have hz2i : (z.toNat : Int) < 192 := by omega
              have hz3i : (z.toNat : Int) ≤ 63 := by omega
              by_cases hfit : k + 1 + z.toNat ≤ n
              · have hfi : ¬ (n : Int) < (k : Int) + 1 + (z.toNat : Int) := by omega
                have hsl : ∀ W : World, (Instr.slice 29 (.slice (some ad) n c) (some (.int .i64 ((k : Int) + 1))) (some (.int .i64 ((k : Int) + 1 + (z.toNat : Int)))) none).run Tryd.prog W = .ok (.slice (some (ad.add (k + 1))) z.toNat (c - (k + 1))) W := fun W => by
                  have hel : Tryd.prog.elem 29 = 5 := by kernel_rfl
                  have := run_slice_lh (P := Tryd.prog) (w := W) 29 (some ad) n c (by rw [hel]; exact Tryd.underlying29) .i64 .i64 ((k : Int) + 1) ((k : Int) + 1 + (z.toNat : Int)) (by omega) (by omega) (by omega)
                  rw [this, hel, Tryd.sizeOf5]
                  simp only [Result.andThen_ok, sliced]
                  rw [show ((k : Int) + 1).toNat = k + 1 by omega, show ((k : Int) + 1 + (z.toNat : Int)).toNat = k + 1 + z.toNat by omega, if_neg (by omega), show k + 1 + z.toNat - (k + 1) = z.toNat by omega, Nat.mul_one]
                  rfl
                have hpart := HBA.out.part (k + 1) z.toNat hfit
                rw [if_neg (by omega)] at hpart
                obtain ⟨q, hq⟩ : ∃ q : ByteArray, (⟨(tk l (k + 1) z.toNat).toArray⟩ : ByteArray) = q := ⟨_, rfl⟩
                have hstr := BA.str hpart
                simp only [Option.map_some] at hstr
                rw [hq] at hstr
                have hqd : q.data.toList = tk l (k + 1) z.toNat := by rw [← hq]
                have hqs : q.size = z.toNat := by
                  have e : q.data.toList.length = q.size := rfl
                  rw [← e, hqd]
                  unfold tk
                  rw [List.length_take, List.length_drop, HL.out]
                  omega
                obtain ⟨ad2, had2⟩ : ∃ x, ad.add (k + 1) = x := ⟨_, rfl⟩
                rw [had2] at hsl hstr
                clear hpart hq had2
                cases hnb : nameB (bare q.data.toList) with
                | false =>
                  have hv : cleanV q.data.toList = .tuple #[.string ⟨#[]⟩, .bool false, .bool false] := by unfold cleanV; rw [if_neg (by rw [hnb]; decide)]
                  have HC : Hid (∀ W, Calls Tryd.prog 28 #[.string q] W fun e w' => e = .returned (.tuple #[.string ⟨#[]⟩, .bool false, .bool false]) ∧ Below W.heap.size W w') := Lib.hid (fun W => by rw [← hv]; exact rclean_any q W (by omega))
                  have HNo := Lib.hid (HRF.out.trans (nameH_nolab HZ.out hz0 hz63 (by rw [← hqd]; unfold labH; rw [if_neg (fun h => by rw [hnb] at h; cases h.1)])))
                  clear hnb hv hqd
                  go_wp2_with (first | (go_at_call 28; refine (HC.out _).mono ?_; rintro e w' ⟨rfl, hb3⟩; have HB := Lib.hid (HB.out.trans (hb3.mono HB.out.size)); clear hb3))
                  go_ret3
                  unfold NameX
                  rw [HNo.out]
                  exact ⟨HB.out, _, rfl⟩
                | true =>
                  obtain ⟨m, hm⟩ : ∃ m : ByteArray, (⟨((bare q.data.toList).map low).toArray⟩ : ByteArray) = m := ⟨_, rfl⟩
                  have hmd : m.data.toList = (bare q.data.toList).map low := by rw [← hm]
                  have hms : m.size ≤ 63 := by
                    have e : m.data.toList.length = m.size := rfl
                    have := bare_len q.data.toList
                    have e2 : q.data.toList.length = q.size := rfl
                    rw [hmd, List.length_map] at e
                    omega
                  cases hrt : isRoot q.data.toList with
                  | true =>
                    have hv : cleanV q.data.toList = .tuple #[.string m, .bool true, .bool true] := by unfold cleanV; rw [if_pos hnb, hm, hrt]
                    have HC : Hid (∀ W, Calls Tryd.prog 28 #[.string q] W fun e w' => e = .returned (.tuple #[.string m, .bool true, .bool true]) ∧ Below W.heap.size W w') := Lib.hid (fun W => by rw [← hv]; exact rclean_any q W (by omega))
                    have HNo := Lib.hid (HRF.out.trans (nameH_nolab HZ.out hz0 hz63 (by rw [← hqd]; unfold labH; rw [if_neg (fun h => by have := h.2.1; rw [hrt] at this; cases this)])))
                    clear hnb hv hqd hm hmd hrt
                    go_wp2_with (first | (go_at_call 28; refine (HC.out _).mono ?_; rintro e w' ⟨rfl, hb3⟩; have HB := Lib.hid (HB.out.trans (hb3.mono HB.out.size)); clear hb3))
                    go_ret3
                    unfold NameX
                    rw [HNo.out]
                    exact ⟨HB.out, _, rfl⟩
                  | false =>
                    have hv : cleanV q.data.toList = .tuple #[.string m, .bool false, .bool true] := by unfold cleanV; rw [if_pos hnb, hm, hrt]
                    have HC : Hid (∀ W, Calls Tryd.prog 28 #[.string q] W fun e w' => e = .returned (.tuple #[.string m, .bool false, .bool true]) ∧ Below W.heap.size W w') := Lib.hid (fun W => by rw [← hv]; exact rclean_any q W (by omega))
                    have HD := Lib.hid (fun W => rdots_any m W (by omega))
                    by_cases hct : countByte m.data.toList 46 = 0
                    · have HLB : Hid (labH (tk l (k + 1) z.toNat) = some m.data.toList) := Lib.hid (by rw [← hqd]; unfold labH; rw [← hmd, if_pos ⟨hnb, hrt, hct⟩])
                      rw [hct] at HD
                      clear hnb hv hqd hm hmd hrt hct
                      by_cases hs0 : s.data.toList = []
                      · have es1 : s.toList = [] := by rw [Lib.toList_data]; exact hs0
                        have es2 : s.toList.isEmpty = true := by rw [es1]; rfl
                        have es3 : (s.toList == []) = true := by rw [es1]; rfl
                        have es4 : s.size = 0 := by
                          have e : s.data.toList.length = s.size := rfl
                          rw [hs0] at e
                          exact e.symm
                        have hJ : joinH s.data.toList m.data.toList = ((s ++ m)).data.toList := by
                          unfold joinH
                          rw [if_pos hs0]; simp [hs0]
                        have hJs : ((s ++ m)).size = s.size + m.size := by rw [ByteArray.size_append]
                        have hJl : (joinH s.data.toList m.data.toList).length = s.size + m.size := by
                          rw [hJ]
                          exact hJs
                        by_cases h253 : s.size + m.size ≤ 253
                        · have hi253 : ¬ (253 : Int) < ((s.size : Int) + (m.size : Int)) := by omega
                          have hd253 : decide ((253 : Int) < ((s.size : Int) + (m.size : Int))) = false := decide_eq_false hi253
                          obtain ⟨f, rfl⟩ : ∃ g, f = g + 1 := ⟨f - 1, by have := HF.out; omega⟩
                          have HRF2 := Lib.hid (HRF.out.trans (nameH_lab HZ.out hz0 hz63 (by rw [HL.out]; exact hfit) HLB.out (by rw [hJl]; exact h253)))
                          rw [hJ] at HRF2
                          clear hJ hJl
                          go_wp2_with (first | (go_at_call 28; refine (HC.out _).mono ?_; rintro e w' ⟨rfl, hb3⟩; have HB := Lib.hid (HB.out.trans (hb3.mono HB.out.size)); clear hb3) | (go_at_call 40; refine (HD.out _).mono ?_; rintro e w' ⟨rfl, hb3⟩; have HB := Lib.hid (HB.out.trans (hb3.mono HB.out.size)); clear hb3))
                          go_roundw
                          case rel => exact ⟨(s ++ m), en, lo, k + 1 + z.toNat, rfl, rfl, rfl, by first | rfl | go_num, Lib.hid ⟨hfit, hlo, by rw [hJs]; exact h253, HEN.out, HENN.out, f, HRF2.out, by have := HF.out; omega⟩, HB.out⟩
                          case measure =>
                            simp only [muX, RowKit.intOf]
                            omega
                        · omega

                      · have es1 : ¬ s.toList = [] := by rw [Lib.toList_data]; exact hs0
                        have es2 : s.toList.isEmpty = false := by cases hh : s.toList with | nil => exact absurd hh es1 | cons x y => rfl
                        have es3 : (s.toList == []) = false := by rw [beq_eq_false_iff_ne]; exact es1
                        have hJ : joinH s.data.toList m.data.toList = ((s ++ ⟨#[46]⟩ ++ m)).data.toList := by
                          unfold joinH
                          rw [if_neg hs0]; simp
                        have hJs : ((s ++ ⟨#[46]⟩ ++ m)).size = s.size + 1 + m.size := by rw [ByteArray.size_append, ByteArray.size_append]; rfl
                        have hJl : (joinH s.data.toList m.data.toList).length = s.size + 1 + m.size := by
                          rw [hJ]
                          exact hJs
                        by_cases h253 : s.size + 1 + m.size ≤ 253
                        · have hi253 : ¬ (253 : Int) < ((s.size : Int) + 1 + (m.size : Int)) := by omega
                          have hd253 : decide ((253 : Int) < ((s.size : Int) + 1 + (m.size : Int))) = false := decide_eq_false hi253
                          obtain ⟨f, rfl⟩ : ∃ g, f = g + 1 := ⟨f - 1, by have := HF.out; omega⟩
                          have HRF2 := Lib.hid (HRF.out.trans (nameH_lab HZ.out hz0 hz63 (by rw [HL.out]; exact hfit) HLB.out (by rw [hJl]; exact h253)))
                          rw [hJ] at HRF2
                          clear hJ hJl
                          go_wp2_with (first | (go_at_call 28; refine (HC.out _).mono ?_; rintro e w' ⟨rfl, hb3⟩; have HB := Lib.hid (HB.out.trans (hb3.mono HB.out.size)); clear hb3) | (go_at_call 40; refine (HD.out _).mono ?_; rintro e w' ⟨rfl, hb3⟩; have HB := Lib.hid (HB.out.trans (hb3.mono HB.out.size)); clear hb3))
                          go_roundw
                          case rel => exact ⟨(s ++ ⟨#[46]⟩ ++ m), en, lo, k + 1 + z.toNat, rfl, rfl, rfl, by first | rfl | go_num, Lib.hid ⟨hfit, hlo, by rw [hJs]; exact h253, HEN.out, HENN.out, f, HRF2.out, by have := HF.out; omega⟩, HB.out⟩
                          case measure =>
                            simp only [muX, RowKit.intOf]
                            omega
                        · have hi253 : (253 : Int) < ((s.size : Int) + 1 + (m.size : Int)) := by omega
                          have hd253 : decide ((253 : Int) < ((s.size : Int) + 1 + (m.size : Int))) = true := decide_eq_true hi253
                          have HNo := Lib.hid (HRF.out.trans (nameH_many HZ.out hz0 hz63 HLB.out (by rw [hJl]; exact h253)))
                          clear hJ hJl
                          go_wp2_with (first | (go_at_call 28; refine (HC.out _).mono ?_; rintro e w' ⟨rfl, hb3⟩; have HB := Lib.hid (HB.out.trans (hb3.mono HB.out.size)); clear hb3) | (go_at_call 40; refine (HD.out _).mono ?_; rintro e w' ⟨rfl, hb3⟩; have HB := Lib.hid (HB.out.trans (hb3.mono HB.out.size)); clear hb3))
                          go_ret3
                          unfold NameX
                          rw [HNo.out]
                          exact ⟨HB.out, _, rfl⟩
                    · have hcp : (0 : Int) < ((countByte m.data.toList 46 : Nat) : Int) := by omega
                      have HNo := Lib.hid (HRF.out.trans (nameH_nolab HZ.out hz0 hz63 (by rw [← hqd]; unfold labH; rw [← hmd, if_neg (fun h => hct h.2.2)])))
                      generalize countByte m.data.toList 46 = cb at hcp HD
                      clear hnb hv hqd hm hmd hrt hct
                      go_wp2_with (first | (go_at_call 28; refine (HC.out _).mono ?_; rintro e w' ⟨rfl, hb3⟩; have HB := Lib.hid (HB.out.trans (hb3.mono HB.out.size)); clear hb3) | (go_at_call 40; refine (HD.out _).mono ?_; rintro e w' ⟨rfl, hb3⟩; have HB := Lib.hid (HB.out.trans (hb3.mono HB.out.size)); clear hb3))
                      go_ret3
                      unfold NameX
                      rw [HNo.out]
                      exact ⟨HB.out, _, rfl⟩
              · have hfi : (n : Int) < (k : Int) + 1 + (z.toNat : Int) := by omega
                have HNo := Lib.hid (HRF.out.trans (nameH_long HZ.out hz0 hz63 (by rw [HL.out]; exact hfit)))
                go_wp2
                go_ret3
                unfold NameX
                rw [HNo.out]
                exact ⟨HB.out, _, rfl⟩
    · skip
      have HNo := Lib.hid (HRF.out.trans (nameH_end (List.getElem?_eq_none (by rw [HL.out]; omega))))
      have hge : (n : Int) ≤ (k : Int) := by omega
      go_wp2
      go_ret3
      unfold NameX
      rw [HNo.out]
      exact ⟨HB.out, _, rfl⟩
end Go.Proofs.YtepfeekfglpjoaaDoor
