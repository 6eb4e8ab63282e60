/- PolicyPlaces: the place of each fault. (mkUp.py) -/
import Derived.Test.YtpighkpdnifejaaDoorPpCc
namespace Go.Proofs.YtpighkpdnifejaaDoor
open Go.RowKit Go.Lib Go.Tx Go.Pol Go.Extern.Stop Go.Stop
def textsP : List (List UInt8) := [[120, 58, 32, 97], [104, 111, 115, 116, 115, 58], [10, 104, 111, 115, 116, 115, 58, 32, 97, 10, 104, 111, 115, 116, 115, 58, 32, 98], [104, 111, 115, 116, 115, 58, 32, 97, 32, 91, 78, 79, 84, 70, 79, 85, 78, 68, 61, 114, 101, 116, 117, 114, 110], [104, 111, 115, 116, 115, 58, 32, 97, 32, 91, 32, 78, 79, 84, 70, 79, 85, 78, 68, 61, 120, 32, 93], [104, 111, 115, 116, 115, 58, 32, 91, 78, 79, 84, 70, 79, 85, 78, 68, 61, 114, 101, 116, 117, 114, 110, 93, 32, 97], [104, 111, 115, 116, 115, 58, 32, 97, 32, 91, 78, 79, 84, 70, 79, 85, 78, 68, 61, 114, 101, 116, 117, 114, 110, 93, 32, 91, 85, 78, 65, 86, 65, 73, 76, 61, 114, 101, 116, 117, 114, 110, 93], [104, 111, 115, 116, 115, 58, 32, 97, 32, 91, 93], [104, 111, 115, 116, 115, 58, 32, 97, 32, 91, 32, 93], [104, 111, 115, 116, 115, 58, 32, 65], [104, 111, 115, 116, 115, 58, 32, 97, 32, 98, 32, 99, 32, 100, 32, 101, 32, 102, 32, 103, 32, 104, 32, 105], [104, 111, 115, 116, 115, 58, 32, 97, 32, 78, 79, 84, 70, 79, 85, 78, 68, 61, 114, 101, 116, 117, 114, 110], [112, 111, 114, 116, 115, 58, 32, 97, 32, 91, 78, 79, 84, 70, 79, 85, 78, 68, 61, 114, 101, 116, 117, 114, 110, 93, 32, 98, 32, 91]]
def linesP : List Nat := [1, 1, 3, 1, 1, 1, 1, 1, 1, 1, 1, 1, 1]
def colsP : List Nat := [1, 1, 1, 3, 4, 2, 4, 3, 4, 2, 10, 3, 5]
theorem placesB : (List.range 13).all (fun i => decide (viewE (polOf (textsP.getD i [])) = some (linesP.getD i 0, colsP.getD i 0)) && decide ((textsP.getD i []).length ≤ 100)) = true := by decide +kernel
theorem places (i : Nat) (h : i < 13) : polOf (textsP.getD i []) = .error (linesP.getD i 0, colsP.getD i 0) ∧ (textsP.getD i []).length ≤ 100 := by
  have := List.all_eq_true.1 placesB i (List.mem_range.2 h)
  rw [Bool.and_eq_true] at this
  exact ⟨viewE_bad (of_decide_eq_true this.1), of_decide_eq_true this.2⟩
def natV (zs : List Nat) : Array Value := (zs.map fun (z : Nat) => Value.int .i64 (z : Int)).toArray
theorem natV_at (zs : List Nat) (i : Nat) (h : i < zs.length) : (natV zs)[i]? = some (.int .i64 ((zs.getD i 0 : Nat) : Int)) := by
  unfold natV
  simp [h]
/-- A text turned to bytes is read as a policy. -/
theorem conv_parse (s : ByteArray) (w : World) (hg : PG w) (hs : s.size ≤ 1000000) : ∃ (cap : Nat) (o : Obj), (convert 9 22 (.string s)).run Tryd.prog w = .ok (.slice (some ⟨w.heap.size, 0, none⟩) s.size cap) (w.drew.alloc o) ∧
    ∀ V : World, V.heap = (w.alloc o).heap → Calls Tryd.prog 9 #[.slice (some ⟨w.heap.size, 0, none⟩) s.size cap] V (PParR V (polOf s.data.toList)) := by
  obtain ⟨cap, o, h1, h2, h3, h4⟩ := row_made (P := Tryd.prog) (src := 9) (dst := 22) s w (by unfold maxLen; omega) Tryd.underlying9 Tryd.underlying22 Tryd.underlying5
  refine ⟨cap, o, h1, fun V hV => ?_⟩
  have hb : BA (w.alloc o) (some ⟨w.heap.size, 0, none⟩) s.size cap s.data.toList := ba_row h4 h3
  have hb2 : BA V (some ⟨w.heap.size, 0, none⟩) s.size cap s.data.toList := ⟨hb.len, hb.cap, hb.max, hb.none, fun x hx j c hj => by
    rw [← hb.cell x hx j c hj]
    unfold World.cell?
    rw [hV]⟩
  have hgV : PG V := by
    have := hg.alloc o
    exact ⟨by rw [hV]; exact this.db, by rw [hV]; exact this.un, by rw [hV]; exact this.out, by rw [hV]; exact this.act, by
      obtain ⟨m, hm⟩ := this.max
      exact ⟨m, by rw [← hm]; unfold World.cell?; rw [hV]⟩⟩
  exact pparse_any _ _ _ _ V hb2 (fun x hx => by cases hx; rw [hV]; show w.heap.size < (w.heap.push o).size; simp) hs hgV
set_option maxHeartbeats 4000000 in
set_option maxRecDepth 100000 in
theorem policyPlaces_walk (W : World) (hg : PG W) :
    Calls Tryd.prog 5 #[] W fun e w' => e = .returned (.bool true) ∧ Below W.heap.size W w' := by
  have HG := Lib.hid hg
  have t6 := o_tT
  obtain ⟨W3, hW3⟩ : ∃ W3, ((W.alloc (.cells #[.string ⟨#[120, 58, 32, 97]⟩, .string ⟨#[104, 111, 115, 116, 115, 58]⟩, .string ⟨#[10, 104, 111, 115, 116, 115, 58, 32, 97, 10, 104, 111, 115, 116, 115, 58, 32, 98]⟩, .string ⟨#[104, 111, 115, 116, 115, 58, 32, 97, 32, 91, 78, 79, 84, 70, 79, 85, 78, 68, 61, 114, 101, 116, 117, 114, 110]⟩, .string ⟨#[104, 111, 115, 116, 115, 58, 32, 97, 32, 91, 32, 78, 79, 84, 70, 79, 85, 78, 68, 61, 120, 32, 93]⟩, .string ⟨#[104, 111, 115, 116, 115, 58, 32, 91, 78, 79, 84, 70, 79, 85, 78, 68, 61, 114, 101, 116, 117, 114, 110, 93, 32, 97]⟩, .string ⟨#[104, 111, 115, 116, 115, 58, 32, 97, 32, 91, 78, 79, 84, 70, 79, 85, 78, 68, 61, 114, 101, 116, 117, 114, 110, 93, 32, 91, 85, 78, 65, 86, 65, 73, 76, 61, 114, 101, 116, 117, 114, 110, 93]⟩, .string ⟨#[104, 111, 115, 116, 115, 58, 32, 97, 32, 91, 93]⟩, .string ⟨#[104, 111, 115, 116, 115, 58, 32, 97, 32, 91, 32, 93]⟩, .string ⟨#[104, 111, 115, 116, 115, 58, 32, 65]⟩, .string ⟨#[104, 111, 115, 116, 115, 58, 32, 97, 32, 98, 32, 99, 32, 100, 32, 101, 32, 102, 32, 103, 32, 104, 32, 105]⟩, .string ⟨#[104, 111, 115, 116, 115, 58, 32, 97, 32, 78, 79, 84, 70, 79, 85, 78, 68, 61, 114, 101, 116, 117, 114, 110]⟩, .string ⟨#[112, 111, 114, 116, 115, 58, 32, 97, 32, 91, 78, 79, 84, 70, 79, 85, 78, 68, 61, 114, 101, 116, 117, 114, 110, 93, 32, 98, 32, 91]⟩] 9)).alloc (.cells #[.int .i64 1, .int .i64 1, .int .i64 3, .int .i64 1, .int .i64 1, .int .i64 1, .int .i64 1, .int .i64 1, .int .i64 1, .int .i64 1, .int .i64 1, .int .i64 1, .int .i64 1] 3)).alloc (.cells #[.int .i64 1, .int .i64 1, .int .i64 1, .int .i64 3, .int .i64 4, .int .i64 2, .int .i64 4, .int .i64 3, .int .i64 4, .int .i64 2, .int .i64 10, .int .i64 3, .int .i64 5] 3) = W3 := ⟨_, rfl⟩
  have hsz : W3.heap.size = W.heap.size + 3 := by rw [← hW3]; show (((W.heap.push _).push _).push _).size = _; simp
  have hB3 : Below W.heap.size W W3 := by rw [← hW3]; exact (((Below.refl _ W).alloc (Nat.le_refl _) _).alloc (by show W.heap.size ≤ (W.heap.push _).size; simp) _).alloc (by show W.heap.size ≤ ((W.heap.push _).push _).size; simp; omega) _
  have hA : W3.heap[W.heap.size]? = some (.cells (rowV textsP) 9 (0, 0)) := by
    rw [← hW3]
    show (((W.heap.push _).push _).push _)[W.heap.size]? = _
    rw [Array.getElem?_push, if_neg (by simp; try omega), Array.getElem?_push, if_neg (by simp; try omega), Array.getElem?_push, if_pos rfl]
    rfl
  have hL : W3.heap[W.heap.size + 1]? = some (.cells (natV linesP) 3 (0, 0)) := by
    rw [← hW3]
    show (((W.heap.push _).push _).push _)[W.heap.size + 1]? = _
    rw [Array.getElem?_push, if_neg (by simp; try omega), Array.getElem?_push, if_pos (by simp)]
    rfl
  have hC : W3.heap[W.heap.size + 2]? = some (.cells (natV colsP) 3 (0, 0)) := by
    rw [← hW3]
    show (((W.heap.push _).push _).push _)[W.heap.size + 2]? = _
    rw [Array.getElem?_push, if_pos (by simp)]
    rfl
  have HA := Lib.hid hA
  have HL := Lib.hid hL
  have HC := Lib.hid hC
  have HB3 := Lib.hid hB3
  have HSz := Lib.hid hsz
  clear hA hL hC hB3 hsz hg
  go_enter Tryd.func5, Tryd.ntmps5
  go_upto_region 4 with (fail)
  clear hW3
  go_wp2
  go_loopw [4] (fun iv wr => ∃ i : Nat, i ≤ 13 ∧ iv = .int .i64 i ∧ Below W3.heap.size W3 wr) (fun iv _ => 13 - (intOf iv).toNat)
  case atStart => exact ⟨0, by decide, rfl, Below.refl _ _⟩
  case round =>
    obtain ⟨i, hi, rfl, hB⟩ := hrel
    have HB := Lib.hid hB
    have HBW := Lib.hid (HB3.out.trans (hB.mono HB3.out.size))
    by_cases hlt : i < 13
    · obtain ⟨hpl, hlen⟩ := places i hlt
      have hsz := HSz.out
      have k0 : wr.cell? ⟨W.heap.size, i, none⟩ = some (.string ⟨(textsP.getD i []).toArray⟩) := (hB.cell (p := ⟨W.heap.size, i, none⟩) (by show W.heap.size < _; omega)).trans (by unfold World.cell?; rw [HA.out]; exact rowV_at textsP i hlt)
      obtain ⟨s, hs⟩ : ∃ s : ByteArray, (⟨(textsP.getD i []).toArray⟩ : ByteArray) = s := ⟨_, rfl⟩
      rw [hs] at k0
      have hss : s.size ≤ 100 := by rw [← hs]; show (textsP.getD i []).toArray.size ≤ _; simp at hlen ⊢; omega
      have hsd : s.data.toList = textsP.getD i [] := by rw [← hs]
      obtain ⟨cap, o, hcv, hpa⟩ := conv_parse s wr (HG.out.below HBW.out) (by omega)
      obtain ⟨no, hno⟩ : ∃ no, linesP.getD i 0 = no := ⟨_, rfl⟩
      obtain ⟨col, hcol⟩ : ∃ col, colsP.getD i 0 = col := ⟨_, rfl⟩
      rw [hsd, hpl, hno, hcol] at hpa
      have HPa : Hid (∀ V : World, V.heap = (wr.alloc o).heap → Calls Tryd.prog 9 #[.slice (some ⟨wr.heap.size, 0, none⟩) s.size cap] V fun e w' => ∃ b, e = .returned (.tuple #[.agg #[.slice none 0 0, .slice none 0 0, .slice none 0 0, .slice none 0 0, .slice none 0 0], .iface 36 (.pointer (some ⟨b, 0, none⟩))]) ∧ Below V.heap.size V w' ∧ Hid (w'.heap[b]? = some (.cells #[.int .i64 (no : Int), .int .i64 (col : Int), .iface 40 (.int .i64 5)] 39 (0, 0)))) := Lib.hid (fun V hV => (hpa V hV).mono fun e w' h => by
        obtain ⟨hb, b, he, hh, _⟩ := h
        exact ⟨b, he, hb, Lib.hid hh⟩)
      have HLn : Hid (∀ V, Below W3.heap.size W3 V → V.cell? ⟨W.heap.size + 1, i, none⟩ = some (.int .i64 (no : Int)) ∧ V.cell? ⟨W.heap.size + 1 + 1, i, none⟩ = some (.int .i64 (col : Int))) := Lib.hid (fun V hV => ⟨(hV.cell (p := ⟨W.heap.size + 1, i, none⟩) (by show W.heap.size + 1 < _; omega)).trans (by unfold World.cell?; rw [HL.out, ← hno]; exact natV_at linesP i hlt), (hV.cell (p := ⟨W.heap.size + 2, i, none⟩) (by show W.heap.size + 2 < _; omega)).trans (by unfold World.cell?; rw [HC.out, ← hcol]; exact natV_at colsP i hlt)⟩)
      have hii : (0 : Int) ≤ (i : Int) := by omega
      have hi13 : (i : Int) < 13 := by omega
      clear hpl hlen hsz hs hss hsd hpa hno hcol hB
      go_upto_region 8 with (go_at_call 9; refine (HPa.out (wr.drew.alloc o) rfl).mono ?_; rintro e w3 ⟨b3, rfl, hb3, hh3⟩; have HB3' := Lib.hid hb3; clear hb3)
      have hb4 : Below w3.heap.size w3 (w3.alloc (.cells #[.slice none 0 0, .slice none 0 0, .slice none 0 0, .slice none 0 0, .slice none 0 0] 28)) := (Below.refl _ _).alloc (Nat.le_refl _) _
      generalize (w3.alloc (.cells #[.slice none 0 0, .slice none 0 0, .slice none 0 0, .slice none 0 0, .slice none 0 0] 28)) = w4 at *
      have hbd : Below wr.heap.size wr (wr.drew.alloc o) := ((Below.refl _ _).drew.alloc (Nat.le_refl _) _)
      have hb34 : Below wr.heap.size wr w4 := (hbd.trans (HB3'.out.mono hbd.size)).trans (hb4.mono (Nat.le_trans hbd.size HB3'.out.size))
      have HB4 : Hid (Below W3.heap.size W3 w4) := Lib.hid (HB.out.trans (hb34.mono HB.out.size))
      have hlb : b3 < w3.heap.size := (Array.getElem?_eq_some_iff.1 hh3.out).1
      have he4 : w4.heap[b3]? = some (.cells #[.int .i64 (no : Int), .int .i64 (col : Int), .iface 40 (.int .i64 5)] 39 (0, 0)) := (hb4.block _ hlb).trans hh3.out
      have x0 : w4.cell? ⟨b3, 0, none⟩ = some (.int .i64 (no : Int)) := by unfold World.cell?; rw [he4]; rfl
      have x1 : w4.cell? ⟨b3, 1, none⟩ = some (.int .i64 (col : Int)) := by unfold World.cell?; rw [he4]; rfl
      obtain ⟨y0, y1⟩ := HLn.out w4 HB4.out
      have n0 : ((no : Int) != (no : Int)) = false := by simp
      have n1 : ((col : Int) != (col : Int)) = false := by simp
      clear he4 hlb hb34 hbd hb4 hh3 k0
      go_upto_region 9 with (fail)
      go_quiet (fail)
      go_wp2
      go_roundw
      case rel => exact ⟨i + 1, hlt, by go_num, ⟨HB4.out.os, HB4.out.tape, HB4.out.output, HB4.out.size, HB4.out.block⟩⟩
      case measure => simp [intOf]; omega
    · obtain rfl : i = 13 := by omega
      have HBg := Lib.hid (begun_any wr (HG.out.below HBW.out))
      clear hB
      go_wp2_with (go_at_call 7; refine HBg.out.mono ?_; rintro e w9 ⟨rfl, hb9⟩; have HB9 := Lib.hid hb9; clear hb9)
      go_ret
      exact ⟨rfl, HBW.out.trans (HB9.out.mono HBW.out.size)⟩
end Go.Proofs.YtpighkpdnifejaaDoor
