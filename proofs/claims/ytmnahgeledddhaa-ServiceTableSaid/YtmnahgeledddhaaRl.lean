/- Contract: the lines of a text, the document's; equal texts. -/
import Derived.Test.YtmnahgeledddhaaRr
namespace Go.Tx
open Go.RowKit
/-- What holds at the head of a round. -/
structure RI (w : World) (l : List UInt8) (n k N F : Nat) (out no fr : Value) (wr : World) (T : List (Nat × List (List UInt8))) : Prop where
  no : no = .int .i64 (N : Int)
  fr : fr = .int .i64 (F : Int)
  told : LinesC 60 w.heap.size wr out T
  go : k ≤ n → F ≤ k ∧ toldG 1 [] l = T ++ toldG (N + 1) ((l.take k).drop F) (l.drop k)
  done : n < k → toldG 1 [] l = T
  few : T.length ≤ N
  few2 : N ≤ k
  bel : Below w.heap.size w wr
theorem toldG_step {l : List UInt8} {k N F : Nat} {b : UInt8} (h : l[k]? = some b) (hF : F ≤ k) (hb : ¬ b = 10) : toldG N ((l.take k).drop F) (l.drop k) = toldG N ((l.take (k + 1)).drop F) (l.drop (k + 1)) := by
  have hk := (List.getElem?_eq_some_iff.1 h).1
  have e : l.drop k = b :: l.drop (k + 1) := by
    rw [List.drop_eq_getElem_cons hk]
    rw [List.getElem?_eq_getElem hk] at h
    cases h
    rfl
  rw [e, toldG, if_neg hb, take_succ' l k b h, List.drop_append_of_le_length (by rw [List.length_take]; omega)]
theorem toldG_cut {l : List UInt8} {k N F : Nat} {b : UInt8} (h : l[k]? = some b) (hb : b = 10) : toldG N ((l.take k).drop F) (l.drop k) = tell N ((l.take k).drop F) ++ toldG (N + 1) ((l.take (k + 1)).drop (k + 1)) (l.drop (k + 1)) := by
  have hk := (List.getElem?_eq_some_iff.1 h).1
  have e : l.drop k = b :: l.drop (k + 1) := by
    rw [List.drop_eq_getElem_cons hk]
    rw [List.getElem?_eq_getElem hk] at h
    cases h
    rfl
  have e2 : (l.take (k + 1)).drop (k + 1) = [] := List.drop_of_length_le (by rw [List.length_take]; omega)
  rw [e, toldG, if_pos hb, e2]
theorem toldG_last {l : List UInt8} {n N F : Nat} (h : l.length = n) : toldG N ((l.take n).drop F) (l.drop n) = tell N ((l.take n).drop F) := by
  have e : l.drop n = [] := List.drop_of_length_le (by omega)
  rw [e]
  rfl
theorem RI.start (w : World) (l : List UInt8) (n : Nat) : RI w l n 0 0 0 (.slice none 0 0) (.int .i64 0) (.int .i64 0) w [] :=
  ⟨rfl, rfl, LinesC.nil _ _ _, fun _ => ⟨Nat.le_refl _, by simp⟩, fun h => by omega, Nat.zero_le _, Nat.le_refl _, Below.refl _ _⟩
theorem RI.skip {w wr : World} {l : List UInt8} {n k N F : Nat} {out no fr : Value} {T : List (Nat × List (List UInt8))} {b : UInt8} (h : RI w l n k N F out no fr wr T) (hl : l.length = n) (hb : l[k]? = some b) (h10 : ¬ b = 10) : RI w l n (k + 1) N F out no fr wr T := by
  have hk := (List.getElem?_eq_some_iff.1 hb).1
  obtain ⟨h1, h2⟩ := h.go (by omega)
  exact ⟨h.no, h.fr, h.told, fun _ => ⟨by omega, by rw [h2, toldG_step hb h1 h10]⟩, fun h => by omega, h.few, by have := h.few2; omega, h.bel⟩
/-- A line ends; nothing is told of it. -/
theorem RI.none {w wr w' : World} {l : List UInt8} {n k N F : Nat} {out no fr : Value} {T : List (Nat × List (List UInt8))} (h : RI w l n k N F out no fr wr T) (hl : l.length = n) (hk : k ≤ n) (hb : k < n → l[k]? = some 10)
    (hw : wordsOf ((l.take k).drop F) = []) (hbel : Below wr.heap.size wr w') : RI w l n (k + 1) (N + 1) (k + 1) out (.int .i64 ((N + 1 : Nat) : Int)) (.int .i64 ((k + 1 : Nat) : Int)) w' T := by
  obtain ⟨h1, h2⟩ := h.go hk
  have ht : tell (N + 1) ((l.take k).drop F) = [] := by simp [tell, hw]
  refine ⟨rfl, rfl, h.told.below hbel, fun h3 => ⟨Nat.le_refl _, ?_⟩, fun h3 => ?_, by have := h.few; omega, by have := h.few2; omega, h.bel.trans (hbel.mono h.bel.size)⟩
  · rw [h2, toldG_cut (hb (by omega)) rfl, ht, List.nil_append]
  · have : k = n := by omega
    subst this
    rw [h2, toldG_last hl, ht, List.append_nil]
/-- A line ends; its words are told. -/
theorem RI.some {w wr w4 w' : World} {l : List UInt8} {n k N F : Nat} {out out' no fr wv : Value} {xs : List Value} {T : List (Nat × List (List UInt8))} (h : RI w l n k N F out no fr wr T) (hl : l.length = n) (hk : k ≤ n) (hb : k < n → l[k]? = some 10)
    (hw : ¬ wordsOf ((l.take k).drop F) = []) (hbel : Below w.heap.size w w') (ht' : LinesC 60 w.heap.size w' out' (T ++ [(N + 1, wordsOf ((l.take k).drop F))])) : RI w l n (k + 1) (N + 1) (k + 1) out' (.int .i64 ((N + 1 : Nat) : Int)) (.int .i64 ((k + 1 : Nat) : Int)) w' (T ++ [(N + 1, wordsOf ((l.take k).drop F))]) := by
  obtain ⟨h1, h2⟩ := h.go hk
  have ht : tell (N + 1) ((l.take k).drop F) = [(N + 1, wordsOf ((l.take k).drop F))] := by simp [tell, hw]
  refine ⟨rfl, rfl, ht', fun h3 => ⟨Nat.le_refl _, ?_⟩, fun h3 => ?_, by have := h.few; simp; omega, by have := h.few2; omega, hbel⟩
  · rw [h2, toldG_cut (hb (by omega)) rfl, ht, List.append_assoc]
  · have : k = n := by omega
    subst this
    rw [h2, toldG_last hl, ht]
end Go.Tx
namespace Go.Proofs.Ytmnahgeledddhaa
open Go.RowKit Go.Lib Go.Tx Go.Proofs
theorem one_none (a : Option Addr) (n c : Nat) (l : List UInt8) (w : World) (h : BA w a n c l) (hold : ∀ x, a = some x → x.block < w.heap.size) (hw : wordsOf l = []) :
    Calls Try.prog 37 #[.slice a n c] w fun e w' => ∃ p c, e = .returned (.slice p 0 c) ∧ Below w.heap.size w w' := by
  refine (one_any a n c l w h hold).mono ?_
  rintro e w' ⟨v, rfl, hs, hb⟩
  obtain ⟨p, c, rfl⟩ := hs.shape
  rw [hw]
  exact ⟨p, c, rfl, hb⟩
theorem one_some (a : Option Addr) (n c : Nat) (l : List UInt8) (w : World) (h : BA w a n c l) (hold : ∀ x, a = some x → x.block < w.heap.size) (hw : ¬ wordsOf l = []) :
    Calls Try.prog 37 #[.slice a n c] w fun e w' => ∃ p k c, e = .returned (.slice p k c) ∧ 0 < k ∧ Hid (StrC w.heap.size w' (.slice p k c) (wordsOf l)) ∧ Below w.heap.size w w' := by
  refine (one_any a n c l w h hold).mono ?_
  rintro e w' ⟨v, rfl, hs, hb⟩
  obtain ⟨p, c, rfl⟩ := hs.shape
  exact ⟨p, _, c, rfl, List.length_pos_iff.2 hw, Lib.hid hs, hb⟩
theorem info69 : (Try.prog.info? 60).map (fun i => (i.zero, i.size, i.bytes)) = some (some (.agg #[.int .i64 0, .slice none 0 0]), 2, 32) := by kernel_rfl
def RLinesR (w : World) (T : List (Nat × List (List UInt8))) (e : Ending) (w' : World) : Prop := ∃ v, e = .returned v ∧ LinesC 60 w.heap.size w' v T ∧ Below w.heap.size w w'
set_option maxHeartbeats 2000000 in
set_option maxRecDepth 100000 in
theorem rlines_any (a : Option Addr) (n c : Nat) (l : List UInt8) (w : World) (h : BA w a n c l) (hold : ∀ x, a = some x → x.block < w.heap.size) (hn : n ≤ 1000000) :
    Calls Try.prog 22 #[.slice a n c] w (RLinesR w (toldG 1 [] l)) := by
  obtain ⟨i9, hi, hz0, hz1, hz2⟩ := info_parts info69
  have hcap := h.cap
  have hmax := h.max
  have HL := Lib.hid h.len
  have HBA := Lib.hid h
  have HOLD := Lib.hid hold
  clear h hold
  go_enter Try.func22, Try.ntmps22
  go_wp2
  go_loopw [3, 4, 5, 6] (fun out no fr i wr => ∃ k N F T, k ≤ n + 1 ∧ i = .int .i64 (k : Nat) ∧ RI w l n k N F out no fr wr T) (fun _ _ _ i _ => n + 1 - (intOf i).toNat)
  case atStart => exact ⟨0, 0, 0, [], Nat.zero_le _, rfl, RI.start w l n⟩
  case round =>
    obtain ⟨k, N, F, T, hk, rfl, hI⟩ := hrel
    have hno := hI.no
    have hfr := hI.fr
    subst hno hfr
    have hws := hI.bel.size
    have hfew := hI.few
    have hfew2 := hI.few2
    have HI := Lib.hid hI
    clear hI
    by_cases hlt : k ≤ n
    · have hF := (HI.out.go hlt).1
      by_cases h10 : k < n ∧ l[k]? ≠ some 10
      · obtain ⟨hkn, h10⟩ := h10
        obtain ⟨b, hb⟩ : ∃ b, l[k]? = some b := ⟨_, List.getElem?_eq_getElem (by rw [HL.out]; exact hkn)⟩
        obtain ⟨x, rfl⟩ : ∃ x, a = some x := by
          cases a with
          | none => have := HBA.out.none rfl; omega
          | some x => exact ⟨x, rfl⟩
        have hcell := (HBA.out.below HI.out.bel HOLD.out).cell x rfl k b hb
        have hb10 : ¬ b = 10 := by rintro rfl; exact h10 hb
        have e10 : ((b.toNat : Int) == 10) = false := by rw [beq_eq_false_iff_ne]; intro h; exact hb10 (UInt8.toNat_inj.1 (by show b.toNat = 10; omega))
        have HB := Lib.hid hb
        have H10 := Lib.hid hb10
        clear hb hb10 h10
        go_wp2
        go_roundw
        case rel => exact ⟨k + 1, N, F, T, by omega, by go_num, HI.out.skip HL.out HB.out H10.out⟩
        case measure => simp [intOf]; omega
      · have h10' : k < n → l[k]? = some 10 := fun hkn => Classical.byContradiction fun h => h10 ⟨hkn, h⟩
        have H10 := Lib.hid h10'
        clear h10 h10'
        by_cases hcF : c = F
        · obtain rfl : n = c := by omega
          obtain rfl : k = n := by omega
          obtain rfl : F = k := by omega
          have HS : Hid (BA wr a 0 0 ((l.take F).drop F)) := Lib.hid (by
            have h1 := ((HBA.out.take (Nat.le_refl F)).from (Nat.le_refl F)).below HI.out.bel (fun x hx => by rw [if_pos rfl] at hx; exact HOLD.out x hx)
            rw [if_pos rfl, Nat.sub_self] at h1
            exact h1)
          have HSO : Hid (∀ x, a = some x → x.block < wr.heap.size) := Lib.hid fun x hx => Nat.lt_of_lt_of_le (HOLD.out x hx) hws
          have HW : Hid (wordsOf ((l.take F).drop F) = []) := Lib.hid (by
            have e : (l.take F).drop F = [] := List.drop_of_length_le (by rw [List.length_take]; omega)
            rw [e]; exact wordsOf_nil)
          go_wp2_with (go_at_call 37; refine (one_none a 0 0 ((l.take F).drop F) _ HS.out HSO.out HW.out).mono ?_; rintro e w3 ⟨p, cc, rfl, hb3⟩)
          go_roundw
          case rel => exact ⟨F + 1, N + 1, F + 1, T, by omega, by go_num, HI.out.none HL.out hlt H10.out HW.out hb3⟩
          case measure => simp [intOf]
        · obtain ⟨x, rfl⟩ : ∃ x, a = some x := by
            cases a with
            | none => have := HBA.out.none rfl; omega
            | some x => exact ⟨x, rfl⟩
          have hblk : (x.add F).block = x.block := by unfold Addr.add; split <;> rfl
          have HSO : Hid (∀ y, some (x.add F) = some y → y.block < wr.heap.size) := Lib.hid fun y hy => by
            cases hy
            rw [hblk]
            exact Nat.lt_of_lt_of_le (HOLD.out x rfl) hws
          have HS : Hid (BA wr (some (x.add F)) (k - F) (c - F) ((l.take k).drop F)) := Lib.hid (by
            have h1 := ((HBA.out.take hlt).from hF).below HI.out.bel (fun y hy => by
              rw [if_neg hcF] at hy
              cases hy
              show (x.add F).block < _
              rw [hblk]
              exact HOLD.out x rfl)
            rw [if_neg hcF] at h1
            exact h1)
          clear hblk
          by_cases hkn : k < n
          · have hcell := (HBA.out.below HI.out.bel HOLD.out).cell x rfl k 10 (H10.out hkn)
            by_cases hws0 : wordsOf ((l.take k).drop F) = []
            · have HW := Lib.hid hws0
              clear hws0
              go_wp2_with (go_at_call 37; refine (one_none _ _ _ ((l.take k).drop F) _ HS.out HSO.out HW.out).mono ?_; rintro e w3 ⟨p, cc, rfl, hb3⟩)
              go_roundw
              case rel => exact ⟨k + 1, N + 1, k + 1, T, by omega, by go_num, HI.out.none HL.out hlt H10.out HW.out hb3⟩
              case measure => simp [intOf]; omega
            · have HW := Lib.hid hws0
              clear hws0
              obtain ⟨xs, hown, hent⟩ := HI.out.told
              have HO := Lib.hid hown
              have HE := Lib.hid hent
              clear hown hent
              go_wp2_with (first | (go_at_call 37; refine (one_some _ _ _ ((l.take k).drop F) _ HS.out HSO.out HW.out).mono ?_; rintro e w3 ⟨p, kk, cc, rfl, hkk, hs3, hb3⟩) | (at_builtin; refine wpList_append_own _ rfl _ _ 58 rfl w.heap.size 60 i9 (.agg #[.int .i64 0, .slice none 0 0]) 2 32 Try.underlying58 hi hz0 hz1 hz2 rfl (by decide) _ _ _ rfl ((own_below HO.out hb3).alloc _) ⟨w3.heap.size, 0, none⟩ 1 1 [.int .i64 ((N : Int) + 1), .slice p kk cc] rfl rfl (new_cells _ _ _ _) (by simp [Value.oneCell']) (by unfold maxLen; omega) (by omega) (by have := hb3.size; show w.heap.size ≤ (w3.heap.push _).size; simp; omega) ?_; intro v' w5 hown5 hg5 _))
              go_roundw
              case rel => exact ⟨k + 1, N + 1, k + 1, _, by omega, by go_num, HI.out.some (w4 := w3) (wv := .nilFunc) (xs := []) HL.out hlt H10.out HW.out (((HI.out.bel.trans (hb3.mono hws)).alloc (by have := hb3.size; omega) _).grown hg5 (by have := hb3.size; show w.heap.size ≤ (w3.heap.push _).size; simp; omega) (fun g hg => (HO.out.lt g hg).1)) (LinesC.push (by decide) ((own_below HO.out hb3).alloc _) (fun i no ws h => by obtain ⟨x1, wv, x2, x3⟩ := HE.out i no ws h; exact ⟨x1, wv, x2, World.ownsRow.alloc (own_below x3 hb3) _⟩) (World.ownsRow.alloc (own_base hs3.out hws) _) hown5 hg5)⟩
              case measure => simp [intOf]; omega
          · by_cases hws0 : wordsOf ((l.take k).drop F) = []
            · have HW := Lib.hid hws0
              clear hws0
              go_wp2_with (go_at_call 37; refine (one_none _ _ _ ((l.take k).drop F) _ HS.out HSO.out HW.out).mono ?_; rintro e w3 ⟨p, cc, rfl, hb3⟩)
              go_roundw
              case rel => exact ⟨k + 1, N + 1, k + 1, T, by omega, by go_num, HI.out.none HL.out hlt H10.out HW.out hb3⟩
              case measure => simp [intOf]; omega
            · have HW := Lib.hid hws0
              clear hws0
              obtain ⟨xs, hown, hent⟩ := HI.out.told
              have HO := Lib.hid hown
              have HE := Lib.hid hent
              clear hown hent
              go_wp2_with (first | (go_at_call 37; refine (one_some _ _ _ ((l.take k).drop F) _ HS.out HSO.out HW.out).mono ?_; rintro e w3 ⟨p, kk, cc, rfl, hkk, hs3, hb3⟩) | (at_builtin; refine wpList_append_own _ rfl _ _ 58 rfl w.heap.size 60 i9 (.agg #[.int .i64 0, .slice none 0 0]) 2 32 Try.underlying58 hi hz0 hz1 hz2 rfl (by decide) _ _ _ rfl ((own_below HO.out hb3).alloc _) ⟨w3.heap.size, 0, none⟩ 1 1 [.int .i64 ((N : Int) + 1), .slice p kk cc] rfl rfl (new_cells _ _ _ _) (by simp [Value.oneCell']) (by unfold maxLen; omega) (by omega) (by have := hb3.size; show w.heap.size ≤ (w3.heap.push _).size; simp; omega) ?_; intro v' w5 hown5 hg5 _))
              go_roundw
              case rel => exact ⟨k + 1, N + 1, k + 1, _, by omega, by go_num, HI.out.some (w4 := w3) (wv := .nilFunc) (xs := []) HL.out hlt H10.out HW.out (((HI.out.bel.trans (hb3.mono hws)).alloc (by have := hb3.size; omega) _).grown hg5 (by have := hb3.size; show w.heap.size ≤ (w3.heap.push _).size; simp; omega) (fun g hg => (HO.out.lt g hg).1)) (LinesC.push (by decide) ((own_below HO.out hb3).alloc _) (fun i no ws h => by obtain ⟨x1, wv, x2, x3⟩ := HE.out i no ws h; exact ⟨x1, wv, x2, World.ownsRow.alloc (own_below x3 hb3) _⟩) (World.ownsRow.alloc (own_base hs3.out hws) _) hown5 hg5)⟩
              case measure => simp [intOf]; omega
    · obtain rfl : k = n + 1 := by omega
      have hend := HI.out.done (by omega)
      have HE := Lib.hid hend
      clear hend
      go_wp2
      go_ret
      exact ⟨_, rfl, by rw [HE.out]; exact HI.out.told, HI.out.bel⟩
end Go.Proofs.Ytmnahgeledddhaa
