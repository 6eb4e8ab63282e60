/- Contract: the lines of a text, the program's. -/
import Derived.Test.YtmnahgeledddhaaLd
namespace Go.Proofs.Ytmnahgeledddhaa
open Go.RowKit Go.Lib Go.Tx Go.Proofs
theorem idx10 (a : Option Addr) (n c : Nat) (l : List UInt8) (b2 : Nat) (w : World) (h : BA w a n c l) (h2 : w.cell? ⟨b2, 0, none⟩ = some (.int .u8 10)) :
    Calls Try.prog 39 #[.slice a n c, .slice (some ⟨b2, 0, none⟩) 1 1] w fun e w' => e = .returned (.int .i64 (Lib.indexByte l 10)) ∧ ∃ q, w' = w.drewN q := by
  have hlen := h.len
  cases a with
  | none =>
    have := h.none rfl
    have hcap := h.cap
    obtain rfl : c = 0 := by omega
    obtain rfl : n = 0 := by omega
    obtain rfl : l = [] := List.eq_nil_of_length_eq_zero hlen
    refine (Try.bytes_Index_one_nil b2 0 1 10 w h2).mono ?_
    rintro e w' ⟨rfl, rfl⟩
    exact ⟨rfl, 0, rfl⟩
  | some x =>
    have := Try.bytes_Index_one_at x n c b2 0 1 (l.map fun b => (b.toNat : Int)) 10 w (by simpa using hlen) (fun i hi => by
      have hil : i < l.length := by omega
      rw [h.cell x rfl i _ (List.getElem?_eq_getElem hil)]
      simp [hil]) h2
    have e1 : Lib.bytesOf (l.map fun b => (b.toNat : Int)) = l := by
      simp [Lib.bytesOf, Function.comp_def]
    rw [e1] at this
    refine this.mono ?_
    rintro e w' ⟨rfl, rfl⟩
    exact ⟨rfl, 0, rfl⟩
theorem _root_.Go.Tx.BA.take {w : World} {a : Option Addr} {n c : Nat} {l : List UInt8} (h : BA w a n c l) {i : Nat} (hi : i ≤ n) : BA w a i c (l.take i) :=
  ⟨by rw [List.length_take, h.len]; omega, Nat.le_trans hi h.cap, h.max, h.none, fun x hx j b hj => h.cell x hx j b (by
    rw [List.getElem?_take] at hj
    split at hj
    · exact hj
    · cases hj)⟩
theorem add_add (x : Addr) (i j : Nat) : (x.add i).add j = x.add (i + j) := by
  unfold Addr.add
  by_cases h1 : i = 0
  · subst h1; simp
  · by_cases h2 : j = 0
    · subst h2; simp [h1]
    · simp [h1, h2]; omega
theorem _root_.Go.Tx.BA.from {w : World} {a : Option Addr} {n c : Nat} {l : List UInt8} (h : BA w a n c l) {j : Nat} (hj : j ≤ n) : BA w (if c = j then a else a.map fun x => x.add j) (n - j) (c - j) (l.drop j) := by
  have hcap := h.cap
  have hmax := h.max
  refine ⟨by rw [List.length_drop, h.len], by omega, by omega, fun ha => ?_, fun x hx k b hk => ?_⟩
  · split at ha
    · omega
    · have : a = none := by simpa using ha
      have := h.none this
      omega
  · rw [List.getElem?_drop] at hk
    have hlt := (List.getElem?_eq_some_iff.1 hk).1
    rw [h.len] at hlt
    split at hx
    · omega
    · cases a with
      | none => simp at hx
      | some y =>
        simp at hx
        subst hx
        rw [add_add]
        exact h.cell y rfl _ b hk
theorem cut10_yes (a : Option Addr) (n c : Nat) (l : List UInt8) (b2 i : Nat) (w : World) (h : BA w a n c l) (h2 : w.cell? ⟨b2, 0, none⟩ = some (.int .u8 10)) (hn : n ≤ 1000000) (hi : Lib.indexByte l 10 = i) :
    Calls Try.prog 30 #[.slice a n c, .slice (some ⟨b2, 0, none⟩) 1 1] w fun e w' => e = .returned (.tuple #[.slice a i c, .slice (if c = i + 1 then a else a.map fun x => x.add (i + 1)) (n - (i + 1)) (c - (i + 1)), .bool true]) ∧ ∃ q, w' = w.drewN q := by
  have hlt := indexByte_lt l 10
  have hlt : i < n := by
    rw [hi, h.len] at hlt
    rcases hlt with hlt | hlt
    · omega
    · rw [hlt] at hi; simp [Lib.indexByte] at hi
  have := Try.bytes_Cut_of a (some ⟨b2, 0, none⟩) n c 1 1 (Lib.indexByte l 10) w h.cap (Lib.indexByte_ge _ _) (by rw [hi]; omega) (by omega) (idx10 a n c l b2 w h h2)
  rw [hi] at this
  have e1 : Lib.cutV a n c 1 (i : Int) = .tuple #[.slice a i c, .slice (if c = i + 1 then a else a.map fun x => x.add (i + 1)) (n - (i + 1)) (c - (i + 1)), .bool true] := by
    unfold Lib.cutV Lib.fromV
    rw [if_pos (by omega)]
    simp
  rw [e1] at this
  exact this
theorem cut10_no (a : Option Addr) (n c : Nat) (l : List UInt8) (b2 : Nat) (w : World) (h : BA w a n c l) (h2 : w.cell? ⟨b2, 0, none⟩ = some (.int .u8 10)) (hn : n ≤ 1000000) (hi : Lib.indexByte l 10 < 0) :
    Calls Try.prog 30 #[.slice a n c, .slice (some ⟨b2, 0, none⟩) 1 1] w fun e w' => e = .returned (.tuple #[.slice a n c, .slice none 0 0, .bool false]) ∧ ∃ q, w' = w.drewN q := by
  have := Try.bytes_Cut_of a (some ⟨b2, 0, none⟩) n c 1 1 (Lib.indexByte l 10) w h.cap (Lib.indexByte_ge _ _) (by omega) (by omega) (idx10 a n c l b2 w h h2)
  have e1 : Lib.cutV a n c 1 (Lib.indexByte l 10) = .tuple #[.slice a n c, .slice none 0 0, .bool false] := by
    unfold Lib.cutV
    rw [if_neg (by omega)]
  rw [e1] at this
  exact this
theorem info68 : (Try.prog.info? 51).map (fun i => (i.zero, i.size, i.bytes)) = some (some (.agg #[.int .i64 0, .slice none 0 0]), 2, 32) := by kernel_rfl
theorem _root_.Go.Tx.BA.nil (w : World) : BA w none 0 0 [] := ⟨rfl, Nat.le_refl _, by decide, fun _ => rfl, fun x hx => by cases hx⟩
def LinesR (w : World) (T : List (Nat × List (List UInt8))) (e : Ending) (w' : World) : Prop := ∃ v, e = .returned v ∧ LinesAt w.heap.size w' v T ∧ Below w.heap.size w w'
theorem new_cells (w : World) (x y : Value) (e : TypeId) : ∀ j u, [x, y][j]? = some u → (w.alloc (.cells #[x, y] e)).cell? ((⟨w.heap.size, 0, none⟩ : Addr).add j) = some u := by
  intro j u hj
  have ha : (⟨w.heap.size, 0, none⟩ : Addr).add j = ⟨w.heap.size, j, none⟩ := by unfold Addr.add; split <;> simp_all
  rw [ha, World.cell?_alloc_new]
  simpa using hj
def lenOfV : Value → Nat
  | .slice _ n _ => n
  | _ => 0
/-- What holds at the head of each round. -/
structure LI (w : World) (l0 : List UInt8) (body told no : Value) (wr : World) (a : Option Addr) (n c N : Nat) (l : List UInt8) (T : List (Nat × List (List UInt8))) : Prop where
  body : body = .slice a n c
  no : no = .int .i64 N
  ba : BA w a n c l
  old : ∀ x, a = some x → x.block < w.heap.size
  told : LinesAt w.heap.size wr told T
  all : toldG 1 [] l0 = T ++ toldG N [] l
  few : T.length + 1 ≤ N
  sum : N + n ≤ l0.length + 1
  bel : Below w.heap.size w wr
theorem words_none (a : Option Addr) (n c : Nat) (l : List UInt8) (w : World) (h : BA w a n c l) (hw : wordsOf l = []) :
    Calls Try.prog 31 #[.slice a n c] w fun e w' => ∃ p, e = .returned (.slice p 0 0) ∧ Below w.heap.size w w' := by
  refine (words_any a n c l w h).mono ?_
  rintro e w' ⟨v, rfl, hs, hb⟩
  obtain ⟨p, rfl⟩ := hs.shape
  rw [hw]
  exact ⟨p, rfl, hb⟩
theorem words_some (a : Option Addr) (n c : Nat) (l : List UInt8) (w : World) (h : BA w a n c l) (hw : ¬ wordsOf l = []) :
    Calls Try.prog 31 #[.slice a n c] w fun e w' => ∃ p k, e = .returned (.slice p k k) ∧ 0 < k ∧ Hid (Strs w.heap.size w' (.slice p k k) (wordsOf l)) ∧ Below w.heap.size w w' := by
  refine (words_any a n c l w h).mono ?_
  rintro e w' ⟨v, rfl, hs, hb⟩
  obtain ⟨p, rfl⟩ := hs.shape
  exact ⟨p, _, rfl, List.length_pos_iff.2 hw, Lib.hid hs, hb⟩
theorem tell_none {no : Nat} {l : List UInt8} (h : wordsOf l = []) : tell no l = [] := by simp [tell, h]
theorem tell_some {no : Nat} {l : List UInt8} (h : ¬ wordsOf l = []) : tell no l = [(no, wordsOf l)] := by simp [tell, h]
theorem told_end (N : Nat) : toldG N [] [] = [] := by simp [toldG, tell_none wordsOf_nil]
/-- The world behind a cut and the words of a line. -/
theorem bel_words {w wr w3 : World} {o : Obj} {q : Nat} (hbel : Below w.heap.size w wr) (hb3 : Below ((wr.alloc o).drewN q).heap.size ((wr.alloc o).drewN q) w3) : Below w.heap.size w w3 :=
  (below_drewN' (hbel.alloc hbel.size o) q).trans (hb3.mono (by have := hbel.size; show w.heap.size ≤ (wr.heap.push o).size; simp; omega))
set_option maxHeartbeats 2000000 in
set_option maxRecDepth 100000 in
theorem lines_any (a : Option Addr) (n c : Nat) (l : List UInt8) (w : World) (h : BA w a n c l) (hold : ∀ x, a = some x → x.block < w.heap.size) (hn : n ≤ 1000000) :
    Calls Try.prog 18 #[.slice a n c] w (LinesR w (toldG 1 [] l)) := by
  obtain ⟨i0, hi, hz0, hz1, hz2⟩ := info_parts info68
  have hsum := h.len
  have HS := Lib.hid hsum
  clear hsum
  go_enter Try.func18, Try.ntmps18
  go_wp2
  go_loopw [0, 3, 4] (fun body told no wr => ∃ a n c N l' T, LI w l body told no wr a n c N l' T) (fun body _ _ _ => lenOfV body)
  case atStart => exact ⟨a, n, c, 1, l, [], rfl, rfl, h, hold, LinesAt.nil _ _, rfl, by simp, by rw [HS.out]; omega, Below.refl _ _⟩
  case round =>
    clear h hold
    obtain ⟨a', n', c', N, l', T, hL⟩ := hrel
    obtain ⟨rfl, rfl, hba, hold, htold, hall, hfew, hsum, hbel⟩ := hL
    have hw0 := hbel.size
    by_cases hpos : 0 < n'
    · have hn' : n' ≤ 1000000 := by have := HS.out; omega
      have hN : N ≤ 1000001 := by have := HS.out; omega
      have HBA : Hid (∀ o, BA (wr.alloc o) a' n' c' l') := Lib.hid fun o => hba.below (hbel.alloc hbel.size o) hold
      have HQ : Hid (∀ o q, BA ((wr.alloc o).drewN q) a' n' c' l') := Lib.hid fun o q => hba.below (below_drewN' (hbel.alloc hbel.size o) q) hold
      have hcap := hba.cap
      have hmax := hba.max
      obtain ⟨xs, hown, hent⟩ := htold
      have HE := Lib.hid hent
      have HO := Lib.hid hown
      have HALL := Lib.hid hall
      have HLEN := Lib.hid hba.len
      clear hent hown hall
      by_cases hidx : Lib.indexByte l' 10 < 0
      · have HI := Lib.hid hidx
        clear hidx
        by_cases hws : wordsOf l' = []
        · have HW := Lib.hid hws
          clear hws hba
          go_wp2_with (first | (go_at_call 30; refine (cut10_no a' n' c' l' wr.heap.size _ (HBA.out _) (World.cell?_alloc_new _ _ _ _) hn' HI.out).mono ?_; rintro e w2 ⟨rfl, q, rfl⟩) | (go_at_call 31; refine (words_none a' n' c' l' _ (HQ.out _ _) HW.out).mono ?_; rintro e w3 ⟨p, rfl, hb3⟩))
          go_roundw
          case rel => exact ⟨none, 0, 0, N + 1, [], T, rfl, by go_num, BA.nil w, (fun x hx => by cases hx), (show LinesAt w.heap.size wr _ T from ⟨xs, HO.out, HE.out⟩).below (bel_words (Below.refl _ _) hb3), by rw [HALL.out, toldG_no _ _ _ HI.out, List.nil_append, tell_none HW.out, told_end], by omega, by omega, bel_words hbel hb3⟩
          case measure => exact hpos
        · have HW := Lib.hid hws
          clear hws hba
          go_wp2_with (first | (go_at_call 30; refine (cut10_no a' n' c' l' wr.heap.size _ (HBA.out _) (World.cell?_alloc_new _ _ _ _) hn' HI.out).mono ?_; rintro e w2 ⟨rfl, q, rfl⟩) | (go_at_call 31; refine (words_some a' n' c' l' _ (HQ.out _ _) HW.out).mono ?_; rintro e w3 ⟨p, k, rfl, hk, hs, hb3⟩) | (at_builtin; refine wpList_append_own _ rfl _ _ 48 rfl w.heap.size 51 i0 (.agg #[.int .i64 0, .slice none 0 0]) 2 32 Try.underlying48 hi hz0 hz1 hz2 rfl (by decide) _ _ _ rfl ((own_below (own_drewN (HO.out.alloc _) q) hb3).alloc _) ⟨w3.heap.size, 0, none⟩ 1 1 [.int .i64 N, .slice p k k] rfl rfl (new_cells _ _ _ _) (by simp [Value.oneCell']) (by unfold maxLen; omega) (by omega) (by have := (bel_words hbel hb3).size; show w.heap.size ≤ (w3.heap.push _).size; simp; omega) ?_; intro v' w5 hown5 hg5 _))
          go_roundw
          case rel => exact ⟨none, 0, 0, N + 1, [], T ++ [(N, wordsOf l')], rfl, by go_num, BA.nil w, (fun x hx => by cases hx), LinesAt.push ((own_below (own_drewN (HO.out.alloc _) q) hb3).alloc _) (fun i no ws h => by obtain ⟨x1, wv, x2, x3⟩ := HE.out i no ws h; exact ⟨x1, wv, x2, (x3.below (bel_words (Below.refl _ _) hb3)).below (Below.alloc (Below.refl _ _) (Nat.le_refl _) _)⟩) ((hs.out.base (by show w.heap.size ≤ (wr.heap.push _).size; simp; omega)).below (Below.alloc (Below.refl _ _) (Nat.le_refl _) _)) hown5 hg5, by rw [HALL.out, toldG_no _ _ _ HI.out, List.nil_append, tell_some HW.out, told_end, List.append_nil], by simp; omega, by omega, ((bel_words hbel hb3).alloc (bel_words hbel hb3).size _).grown hg5 (by have := (bel_words hbel hb3).size; show w.heap.size ≤ (w3.heap.push _).size; simp; omega) (fun g hg => (HO.out.lt g hg).1)⟩
          case measure => exact hpos
      · obtain ⟨i, hi'⟩ : ∃ i : Nat, Lib.indexByte l' 10 = i := ⟨(Lib.indexByte l' 10).toNat, by omega⟩
        have hlt : i < n' := by
          have h1 := indexByte_lt l' 10
          have h2 := HLEN.out
          rcases h1 with h1 | h1
          · omega
          · rw [h1] at h2; simp at h2; omega
        have HI := Lib.hid hi'
        have HF := Lib.hid (hba.from (j := i + 1) hlt)
        have HOLD : Hid (∀ x, (if c' = i + 1 then a' else a'.map fun x => x.add (i + 1)) = some x → x.block < w.heap.size) := Lib.hid (by
          intro x hx
          split at hx
          · exact hold x hx
          · cases a' with
            | none => simp at hx
            | some y =>
              simp at hx
              subst hx
              have : (y.add (i + 1)).block = y.block := by unfold Addr.add; split <;> rfl
              rw [this]
              exact hold y rfl)
        have HLT := Lib.hid hlt
        clear hidx hi' hba
        by_cases hws : wordsOf (l'.take i) = []
        · have HW := Lib.hid hws
          clear hws
          go_wp2_with (first | (go_at_call 30; refine (cut10_yes a' n' c' l' wr.heap.size i _ (HBA.out _) (World.cell?_alloc_new _ _ _ _) hn' HI.out).mono ?_; rintro e w2 ⟨rfl, q, rfl⟩) | (go_at_call 31; refine (words_none a' i c' (l'.take i) _ ((HQ.out _ _).take (Nat.le_of_lt HLT.out)) HW.out).mono ?_; rintro e w3 ⟨p, rfl, hb3⟩))
          go_roundw
          case rel => exact ⟨_, _, _, N + 1, _, T, rfl, by go_num, HF.out, HOLD.out, (show LinesAt w.heap.size wr _ T from ⟨xs, HO.out, HE.out⟩).below (bel_words (Below.refl _ _) hb3), by rw [HALL.out, toldG_nl i _ _ _ HI.out, List.nil_append, tell_none HW.out, List.nil_append], by omega, by omega, bel_words hbel hb3⟩
          case measure => simp only [lenOfV]; omega
        · have HW := Lib.hid hws
          clear hws
          go_wp2_with (first | (go_at_call 30; refine (cut10_yes a' n' c' l' wr.heap.size i _ (HBA.out _) (World.cell?_alloc_new _ _ _ _) hn' HI.out).mono ?_; rintro e w2 ⟨rfl, q, rfl⟩) | (go_at_call 31; refine (words_some a' i c' (l'.take i) _ ((HQ.out _ _).take (Nat.le_of_lt HLT.out)) HW.out).mono ?_; rintro e w3 ⟨p, k, rfl, hk, hs, hb3⟩) | (at_builtin; refine wpList_append_own _ rfl _ _ 48 rfl w.heap.size 51 i0 (.agg #[.int .i64 0, .slice none 0 0]) 2 32 Try.underlying48 hi hz0 hz1 hz2 rfl (by decide) _ _ _ rfl ((own_below (own_drewN (HO.out.alloc _) q) hb3).alloc _) ⟨w3.heap.size, 0, none⟩ 1 1 [.int .i64 N, .slice p k k] rfl rfl (new_cells _ _ _ _) (by simp [Value.oneCell']) (by unfold maxLen; omega) (by omega) (by have := (bel_words hbel hb3).size; show w.heap.size ≤ (w3.heap.push _).size; simp; omega) ?_; intro v' w5 hown5 hg5 _))
          go_roundw
          case rel => exact ⟨_, _, _, N + 1, _, T ++ [(N, wordsOf (l'.take i))], rfl, by go_num, HF.out, HOLD.out, LinesAt.push ((own_below (own_drewN (HO.out.alloc _) q) hb3).alloc _) (fun i no ws h => by obtain ⟨x1, wv, x2, x3⟩ := HE.out i no ws h; exact ⟨x1, wv, x2, (x3.below (bel_words (Below.refl _ _) hb3)).below (Below.alloc (Below.refl _ _) (Nat.le_refl _) _)⟩) ((hs.out.base (by show w.heap.size ≤ (wr.heap.push _).size; simp; omega)).below (Below.alloc (Below.refl _ _) (Nat.le_refl _) _)) hown5 hg5, by rw [HALL.out, toldG_nl i _ _ _ HI.out, List.nil_append, tell_some HW.out, List.append_assoc], by simp; omega, by omega, ((bel_words hbel hb3).alloc (bel_words hbel hb3).size _).grown hg5 (by have := (bel_words hbel hb3).size; show w.heap.size ≤ (w3.heap.push _).size; simp; omega) (fun g hg => (HO.out.lt g hg).1)⟩
          case measure => simp only [lenOfV]; omega
    · have HALL := Lib.hid hall
      have HT := Lib.hid htold
      obtain rfl : l' = [] := List.eq_nil_of_length_eq_zero (by have := hba.len; omega)
      clear hall htold hba
      go_wp2
      go_ret
      exact ⟨_, rfl, by rw [HALL.out, told_end, List.append_nil]; exact HT.out, hbel⟩
end Go.Proofs.Ytmnahgeledddhaa
