/- Contracts and plain facts that the law leans on. -/
import Derived.Test.YtpighkpdnifejaaDoorPpCb
import Derived.StillTailTactics
import Derived.RegionTactic
import Derived.Laws.ResultCell
import Derived.Laws.Tables
import Derived.Laws.CopyOwn
import Derived.Deep.RegionHeld3
import Derived.Deep.RegionLaw
import Derived.Deep.AppendLies
import Derived.Deep.QuietTactic
import Derived.BigQuiet
import Derived.Lib.Join
import Derived.LaidEql
import Derived.Stop.Asserts
import Derived.Stop.IfaceNil
import Derived.RowKitTokens
import Derived.Test.YtpighkpdnifejaaDoorEvC
namespace Go.Pol
def srcN (x : Nat) : Bool := (decide (97 ≤ x) && decide (x ≤ 122)) || (decide (48 ≤ x) && decide (x ≤ 57)) || decide (x = 45)
theorem srcN_high (x : Nat) (h : 128 ≤ x) : srcN x = false := by
  simp only [srcN, Bool.or_eq_false_iff, Bool.and_eq_false_iff, decide_eq_false_iff_not]
  omega
theorem srcB_N (c : UInt8) : srcB c = srcN c.toNat := by
  unfold srcB srcN
  congr 1
  · congr 1
    · congr 1 <;> (apply decide_eq_decide.2; omega)
    · congr 1 <;> (apply decide_eq_decide.2; omega)
  · apply decide_eq_decide.2; omega
theorem srcN_dec (x : Nat) : srcN x = decide ((97 ≤ x ∧ x ≤ 122) ∨ (48 ≤ x ∧ x ≤ 57) ∨ x = 45) := by
  simp only [srcN]
  by_cases h1 : 97 ≤ x <;> by_cases h2 : x ≤ 122 <;> by_cases h5 : 48 ≤ x <;> by_cases h6 : x ≤ 57 <;> by_cases h7 : x = 45 <;> simp [*]
end Go.Pol
namespace Go.Proofs.YtpighkpdnifejaaDoor
open Go.RowKit Go.Lib Go.Tx Go.Pol
set_option maxHeartbeats 1000000 in
theorem outOf_any (s : ByteArray) (w : World) (hg : PG w) (hs : s.size ≤ 1000000) :
    Calls Tryd.prog 66 #[.string s] w fun e w' => e = .returned (.int .i64 (outN s.data.toList)) ∧ Below w.heap.size w w' := by
  obtain ⟨t, fr, hdb⟩ := hg.out
  obtain ⟨S, hS⟩ : ∃ S, s.data.toList.map low = S := ⟨_, rfl⟩
  have HFs : Hid (∀ W, Calls Tryd.prog 77 #[.string s] W fun e w' => e = .returned (.string ⟨S.toArray⟩) ∧ Below W.heap.size W w') := Lib.hid (fun W => by have := fold_any s W (by unfold maxLen; omega); rw [hS] at this; exact this)
  have HO : Hid (outN s.data.toList = atV outW S) := Lib.hid (by unfold outN; rw [hS])
  clear hg hS hs
  go_enter Tryd.func66, Tryd.ntmps66
  go_wp2_with (with_reducible refine wpList_load_row rfl 101 _ rfl 2 rfl t (rowV outU) fr _ hdb Tryd.underlying101 rfl sz_out ?_)
  go_loopw [6] (fun i wr => ∃ k : Nat, k ≤ 4 ∧ i = .int .i64 k ∧ Below w.heap.size w wr ∧ atV outW S = atG S (outW.drop k) k) (fun i _ => 4 - (intOf i).toNat)
  case atStart => exact ⟨0, Nat.zero_le _, rfl, Below.refl _ _, rfl⟩
  case round =>
    obtain ⟨k, hk, rfl, hb, hp⟩ := hrel
    have HB := Lib.hid hb
    clear hb
    by_cases hlt : k < 4
    · obtain ⟨x, _, hx20, hget, hix⟩ := ix_out k hlt
      have HP := Lib.hid (at_pos hget hp)
      have HFx : Hid (∀ W, Calls Tryd.prog 77 #[.string ⟨x.toArray⟩] W fun e w' => e = .returned (.string ⟨(x.map low).toArray⟩) ∧ Below W.heap.size W w') := Lib.hid (fun W => by
        have := fold_any ⟨x.toArray⟩ W (by show x.toArray.size ≤ _; unfold maxLen; simp; omega)
        simpa using this)
      clear hp hget hx20
      obtain ⟨L, hL⟩ : ∃ L, x.map low = L := ⟨_, rfl⟩
      rw [hL] at HFx HP
      clear hL
      by_cases hx : L = S
      · subst hx
        go_wp2_with (go_at_call 77; first | ((with_reducible refine (HFx.out _).mono ?_); rintro e w2 ⟨rfl, hb2⟩; have HB2 := Lib.hid (HB.out.trans (hb2.mono HB.out.size)); clear hb2) | ((with_reducible refine (HFs.out _).mono ?_); rintro e w3 ⟨rfl, hb3⟩; have HB3 := Lib.hid (HB2.out.trans (hb3.mono HB2.out.size)); clear hb3))
        go_ret
        exact ⟨by rw [HO.out, HP.out.1 (by first | rfl | trivial)]; rfl, HB3.out⟩
      · have HX := Lib.hid hx
        have hq : ((⟨L.toArray⟩ : ByteArray).toList == (⟨S.toArray⟩ : ByteArray).toList) = false := by
          rw [Lib.toList_data, Lib.toList_data]
          simpa using hx
        have hq2 : (L == S) = false := by simpa using hx
        clear hx
        go_wp2_with (go_at_call 77; first | ((with_reducible refine (HFx.out _).mono ?_); rintro e w2 ⟨rfl, hb2⟩; have HB2 := Lib.hid (HB.out.trans (hb2.mono HB.out.size)); clear hb2) | ((with_reducible refine (HFs.out _).mono ?_); rintro e w3 ⟨rfl, hb3⟩; have HB3 := Lib.hid (HB2.out.trans (hb3.mono HB2.out.size)); clear hb3))
        go_roundw
        case rel => exact ⟨k + 1, hlt, by go_num, HB3.out, HP.out.2 HX.out⟩
        case measure => simp [intOf]; omega
    · obtain rfl : k = 4 := by omega
      have HP := Lib.hid (hp.trans (atG_end (Nat.le_refl _)))
      clear hp
      go_wp2
      go_ret
      exact ⟨by rw [HO.out, HP.out]; rfl, HB.out⟩
set_option maxHeartbeats 1000000 in
theorem actOf_any (s : ByteArray) (w : World) (hg : PG w) (hs : s.size ≤ 1000000) :
    Calls Tryd.prog 67 #[.string s] w fun e w' => e = .returned (.int .i64 (actN s.data.toList)) ∧ Below w.heap.size w w' := by
  obtain ⟨t, fr, hdb⟩ := hg.act
  obtain ⟨S, hS⟩ : ∃ S, s.data.toList.map low = S := ⟨_, rfl⟩
  have HFs : Hid (∀ W, Calls Tryd.prog 77 #[.string s] W fun e w' => e = .returned (.string ⟨S.toArray⟩) ∧ Below W.heap.size W w') := Lib.hid (fun W => by have := fold_any s W (by unfold maxLen; omega); rw [hS] at this; exact this)
  have HO : Hid (actN s.data.toList = if atV actW S < 1 then 0 else atV actW S) := Lib.hid (by unfold actN; rw [hS])
  clear hg hS hs
  go_enter Tryd.func67, Tryd.ntmps67
  go_wp2_with (with_reducible refine wpList_load_row rfl 101 _ rfl 3 rfl t (rowV actW) fr _ hdb Tryd.underlying101 rfl sz_act ?_)
  go_loopw [6] (fun i wr => ∃ k : Nat, k ≤ 4 ∧ i = .int .i64 k ∧ Below w.heap.size w wr ∧ atV actW S = atG S (actW.drop k) k) (fun i _ => 4 - (intOf i).toNat)
  case atStart => exact ⟨0, Nat.zero_le _, rfl, Below.refl _ _, rfl⟩
  case round =>
    obtain ⟨k, hk, rfl, hb, hp⟩ := hrel
    have HB := Lib.hid hb
    clear hb
    by_cases hlt : k < 4
    · obtain ⟨L, hget, _, hix⟩ := ix_act k hlt
      have HP := Lib.hid (at_pos hget hp)
      clear hp hget
      by_cases hx : L = S
      · subst hx
        go_wp2_with (go_at_call 77; (with_reducible refine (HFs.out _).mono ?_); rintro e w3 ⟨rfl, hb3⟩; have HB3 := Lib.hid (HB.out.trans (hb3.mono HB.out.size)); clear hb3)
        go_ret
        refine ⟨?_, HB3.out⟩
        rw [HO.out, HP.out.1 (by first | rfl | trivial)]
        by_cases h0 : k = 0
        · subst h0; rfl
        · rw [if_neg (by omega)]
          rfl
      · have HX := Lib.hid hx
        have hq : ((⟨L.toArray⟩ : ByteArray).toList == (⟨S.toArray⟩ : ByteArray).toList) = false := by
          rw [Lib.toList_data, Lib.toList_data]
          simpa using hx
        have hq2 : (L == S) = false := by simpa using hx
        clear hx
        go_wp2_with (go_at_call 77; (with_reducible refine (HFs.out _).mono ?_); rintro e w3 ⟨rfl, hb3⟩; have HB3 := Lib.hid (HB.out.trans (hb3.mono HB.out.size)); clear hb3)
        go_roundw
        case rel => exact ⟨k + 1, hlt, by go_num, HB3.out, HP.out.2 HX.out⟩
        case measure => simp [intOf]; omega
    · obtain rfl : k = 4 := by omega
      have HP := Lib.hid (hp.trans (atG_end (Nat.le_refl _)))
      clear hp
      go_wp2
      go_ret
      exact ⟨by rw [HO.out, HP.out]; rfl, HB.out⟩
theorem pforeign_any (x : Nat) (hx : x ≤ 1114111) (w : World) : Calls Tryd.prog 44 #[.int .i32 (x : Int)] w fun e w' => e = .returned (.bool (!srcN x)) ∧ w' = w := by
  have hc : x < 45 ∨ x = 45 ∨ (46 ≤ x ∧ x ≤ 47) ∨ (48 ≤ x ∧ x ≤ 57) ∨ (58 ≤ x ∧ x ≤ 96) ∨ (97 ≤ x ∧ x ≤ 122) ∨ 122 < x := by omega
  have key : ∀ b, srcN x = b → Calls Tryd.prog 44 #[.int .i32 (x : Int)] w (fun e w' => e = .returned (.bool (!b)) ∧ w' = w) → Calls Tryd.prog 44 #[.int .i32 (x : Int)] w fun e w' => e = .returned (.bool (!srcN x)) ∧ w' = w := fun b h k => by rw [h]; exact k
  have hs := srcN_dec x
  rcases hc with h | h | ⟨h, h'⟩ | ⟨h, h'⟩ | ⟨h, h'⟩ | ⟨h, h'⟩ | h
  · refine key false (by rw [hs]; exact decide_eq_false (by omega)) ?_
    clear hs key hx
    have : (x : Int) < 45 := by omega
    go_enter Tryd.func44, Tryd.ntmps44
    go_wp2
    all_goals (go_ret; exact ⟨by first | rfl | (simp; omega) | simp, rfl⟩)
  · subst h
    refine key true (by decide) ?_
    clear hs key hx
    go_enter Tryd.func44, Tryd.ntmps44
    go_wp2
    all_goals (go_ret; exact ⟨by first | rfl | (simp; omega) | simp, rfl⟩)
  · refine key false (by rw [hs]; exact decide_eq_false (by omega)) ?_
    clear hs key hx
    have a1 : (46:Int) ≤ (x : Int) := by omega
    have a2 : (x : Int) ≤ 47 := by omega
    go_enter Tryd.func44, Tryd.ntmps44
    go_wp2
    all_goals (go_ret; exact ⟨by first | rfl | (simp; omega) | simp, rfl⟩)
  · refine key true (by rw [hs]; exact decide_eq_true (by omega)) ?_
    clear hs key hx
    have a1 : (48:Int) ≤ (x : Int) := by omega
    have a2 : (x : Int) ≤ 57 := by omega
    go_enter Tryd.func44, Tryd.ntmps44
    go_wp2
    all_goals (go_ret; exact ⟨by first | rfl | (simp; omega) | simp, rfl⟩)
  · refine key false (by rw [hs]; exact decide_eq_false (by omega)) ?_
    clear hs key hx
    have a1 : (58:Int) ≤ (x : Int) := by omega
    have a2 : (x : Int) ≤ 96 := by omega
    go_enter Tryd.func44, Tryd.ntmps44
    go_wp2
    all_goals (go_ret; exact ⟨by first | rfl | (simp; omega) | simp, rfl⟩)
  · refine key true (by rw [hs]; exact decide_eq_true (by omega)) ?_
    clear hs key hx
    have a1 : (97:Int) ≤ (x : Int) := by omega
    have a2 : (x : Int) ≤ 122 := by omega
    go_enter Tryd.func44, Tryd.ntmps44
    go_wp2
    all_goals (go_ret; exact ⟨by first | rfl | (simp; omega) | simp, rfl⟩)
  · refine key false (by rw [hs]; exact decide_eq_false (by omega)) ?_
    clear hs key hx
    have : (122:Int) < (x : Int) := by omega
    go_enter Tryd.func44, Tryd.ntmps44
    go_wp2
    all_goals (go_ret; exact ⟨by first | rfl | (simp; omega) | simp, rfl⟩)
theorem pforeignAt (w : World) : PredAtRunes Tryd.prog 44 #[] (fun x => !srcN x) w := fun W x hx _ =>
  (pforeign_any x hx W).mono fun _ _ ⟨h1, h2⟩ => ⟨h1, 0, h2⟩
set_option maxRecDepth 100000 in
theorem phasForeign (s : ByteArray) (w : World) : Calls Tryd.prog 43 #[.string s, .func (.func 44) #[] #[]] w fun e w' => e = .returned (.bool (!s.data.toList.all srcB)) ∧ Below w.heap.size w w' := by
  refine (Tryd.strings_ContainsFunc_runes 44 #[] (fun args w => by rfl) (fun x => !srcN x) s w (pforeignAt w)).mono fun e w' ⟨h1, h2⟩ => ⟨?_, h2⟩
  rw [h1, idx_anyR (fun x => !srcN x) (fun x hx => by simp [srcN_high x hx])]
  have : (s.data.toList.any fun b => !srcN b.toNat) = !(s.data.toList.all srcB) := by
    rw [List.any_eq_not_all_not]
    congr 2
    funext c
    simp [srcB_N]
  rw [this]
theorem isSource_any (s : ByteArray) (w : World) (hs : s.size ≤ 1000000) : Calls Tryd.prog 27 #[.string s] w fun e w' => e = .returned (.bool (okSrc s.data.toList)) ∧ Below w.heap.size w w' := by
  have HF := Lib.hid (fun w => phasForeign s w)
  have hl : s.data.toList.length = s.size := rfl
  by_cases h0 : s = ⟨#[]⟩
  · subst h0
    go_enter Tryd.func27, Tryd.ntmps27
    go_wp2
    all_goals (go_ret; exact ⟨rfl, Below.refl _ _⟩)
  · have h0' : s.data.toList ≠ [] := fun h => h0 (by cases s; simp at h; simp [h])
    have e0 : (s.toList == (⟨#[]⟩ : ByteArray).toList) = false := by
      rw [Lib.toList_data, Lib.toList_data]
      simpa using h0'
    have e1 : s.toList.isEmpty = false := by rw [Lib.toList_data]; simpa using h0'
    have hpos : 1 ≤ s.data.toList.length := List.length_pos_iff.2 h0'
    by_cases h1 : 16 < s.size
    · have h1' : (16 : Int) < (s.size : Int) := by omega
      have hb : okSrc s.data.toList = false := by unfold okSrc; simp [hl]; omega
      rw [hb]
      clear HF hb hl h0 h0' hpos
      go_enter Tryd.func27, Tryd.ntmps27
      go_wp2
      go_ret
      exact ⟨rfl, Below.refl _ _⟩
    · have h1' : (s.size : Int) ≤ 16 := by omega
      have hb : okSrc s.data.toList = s.data.toList.all srcB := by
        unfold okSrc
        rw [decide_eq_true (p := 1 ≤ s.data.toList.length ∧ s.data.toList.length ≤ 16) ⟨hpos, by rw [hl]; omega⟩, Bool.true_and]
      rw [hb]
      obtain ⟨b, hbb⟩ : ∃ b, s.data.toList.all srcB = b := ⟨_, rfl⟩
      rw [hbb] at HF ⊢
      clear hb hl h0 h0' hpos hbb
      cases b
      all_goals
        go_enter Tryd.func27, Tryd.ntmps27
        go_wp2_with (go_at_call 43; refine (HF.out _).mono ?_; rintro e w2 ⟨rfl, hb2⟩; have HB2 := Lib.hid hb2; clear hb2)
        go_ret
        exact ⟨rfl, HB2.out⟩
end Go.Proofs.YtpighkpdnifejaaDoor

namespace Go.Pol
open Go.Tx
theorem trim_bang (l : List UInt8) : Lib.trimPrefix l [33] = bareR l ∧ Lib.hasPrefix l [33] = notR l := by
  cases l with
  | nil => exact ⟨rfl, rfl⟩
  | cons x l =>
    by_cases h : x = 33
    · subst h
      exact ⟨by simp [Lib.trimPrefix, Lib.hasPrefix, bareR], by simp [Lib.hasPrefix, notR]⟩
    · have h2 : ¬ (33 : UInt8) = x := fun e => h e.symm
      have hp : Lib.hasPrefix (x :: l) [33] = false := by
        unfold Lib.hasPrefix
        rw [show [33].isPrefixOf (x :: l) = ((33 : UInt8) == x && [].isPrefixOf l) from rfl]
        simp [h2]
      refine ⟨?_, ?_⟩
      · unfold Lib.trimPrefix bareR
        rw [hp]
        simp [h]
      · rw [hp]
        unfold notR
        simp [h]
theorem doneV_put (i : Nat) (d o : Int) (n : Bool) (a : Int) (h : ¬ (decide ((i : Int) = o) = n)) : doneV i a = putI i d o n a := by
  unfold doneV putI
  rw [if_neg h]
  by_cases h3 : a = 3 ∧ (0 : Int) < (i : Int)
  · rw [if_pos h3, if_pos ⟨h3.1, by omega⟩]
  · rw [if_neg h3, if_neg (fun e => h3 ⟨e.1, by omega⟩)]
end Go.Pol
namespace Go.Proofs.YtpighkpdnifejaaDoor
open Go.RowKit Go.Lib Go.Tx Go.Pol
/-- A region that draws its order, of which the first n operations read alone: they are walked in the text's order. -/
theorem region_tail9 {P : Program} {id : Nat} {Q : Exit → Act → World → Prop} {a : Act} {w : World} {l : List Oper} (n : Nat) (hm : P.follows .mixedOrders = true) (hB : Region.lexTailB .any l.toArray n = true)
    (h : wpStill P l.toArray w.drew (fun a' => wpList P l.toArray Q (l.drop n) a' w.drew) (l.take n) a) : (Code.region id l.toArray true).wp P Q a w :=
  wp_region_still_tail n hm hB h
def StepAt (w : World) (g : Nat) (s : Stp) : Prop := w.heap[g]? = some (.cells (stpCells s).toArray 47 (0, 0))
theorem StepAt.lt {w : World} {g : Nat} {s : Stp} (h : StepAt w g s) : g < w.heap.size := (Array.getElem?_eq_some_iff.1 h).1
theorem StepAt.below {w w' : World} {g B : Nat} {s : Stp} (h : StepAt w g s) (hb : Below B w w') (hg : g < B) : StepAt w' g s := (hb.block g hg).trans h
theorem PutA.start {w : World} {g q : Nat} {arr : Array Value} {e : TypeId} {d : Nat → Int} {o : Int} {n : Bool} {a : Int} (h : w.heap[g]? = some (.cells arr e (0, 0))) : PutA w w g q arr e d o n a 0 := ⟨h, fun _ _ => rfl, rfl, rfl, rfl, rfl⟩
theorem PutA.drew {w wr : World} {g q : Nat} {arr : Array Value} {e : TypeId} {d : Nat → Int} {o : Int} {n : Bool} {a : Int} {i : Nat} (h : PutA w wr g q arr e d o n a i) : PutA w wr.drew g q arr e d o n a i := ⟨h.blk, h.rest, h.os, h.tape, h.output, h.size⟩
theorem stp_at (s : Stp) (i : Nat) (hi : i < 4) : (stpCells s).toArray[0 + 1 + i]? = some (.int .i64 (dOf s i)) := by
  have h : i = 0 ∨ i = 1 ∨ i = 2 ∨ i = 3 := by omega
  rcases h with rfl | rfl | rfl | rfl <;> rfl
theorem PutA.step {w wr : World} {g : Nat} {s : Stp} {o : Int} {n : Bool} {a : Int} (h : PutA w wr g 0 (stpCells s).toArray 47 (dOf s) o n a 4) : StepAt wr g (putS s o n a) := by
  unfold StepAt
  rw [h.blk]
  rfl
theorem bel_drewN9 {B : Nat} {a w : World} (h : Go.RowKit.Below B a w) (q : Nat) : Go.RowKit.Below B a (w.drewN q) := ⟨h.os, h.tape, h.output, h.size, h.block⟩
def LayR (w : World) (g : Nat) (s : Stp) (x : List UInt8) (e : Ending) (w' : World) : Prop :=
  e = .returned (.bool (rOK x)) ∧ (rOK x = true → StepAt w' g (putS s (rOut x) (notR x) (rAct x))) ∧ Below g w w'
theorem LayR.no {w w' : World} {g : Nat} {s : Stp} {x : List UInt8} (h : rOK x = false) (hb : Below g w w') : LayR w g s x (.returned (.bool false)) w' := ⟨by rw [h], (fun e => by rw [h] at e; cases e), hb⟩
theorem LayR.yes {w w' : World} {g : Nat} {s : Stp} {x : List UInt8} {o : Int} {n : Bool} {a : Int} (h : rOK x = true) (hp : rOut x = o ∧ notR x = n ∧ rAct x = a) (hs : StepAt w' g (putS s o n a)) (hb : Below g w w') : LayR w g s x (.returned (.bool true)) w' := by
  obtain ⟨rfl, rfl, rfl⟩ := hp
  exact ⟨by rw [h], fun _ => hs, hb⟩
set_option maxHeartbeats 2000000 in
set_option maxRecDepth 100000 in
theorem layRule_any (g : Nat) (s : Stp) (z : ByteArray) (w : World) (hg : PG w) (hgB : PGB g) (hst : StepAt w g s) (hz : z.size ≤ 1000000) :
    Calls Tryd.prog 48 #[.pointer (some ⟨g, 0, none⟩), .string z] w (LayR w g s z.data.toList) := by
  obtain ⟨m, hm⟩ := hg.max
  have hzl : z.data.toList.length = z.size := rfl
  obtain ⟨tb1, tb2⟩ := trim_bang z.data.toList
  obtain ⟨nb, hnb⟩ : ∃ nb, notR z.data.toList = nb := ⟨_, rfl⟩
  obtain ⟨Bz, hB⟩ : ∃ Bz : ByteArray, (⟨(bareR z.data.toList).toArray⟩ : ByteArray) = Bz := ⟨_, rfl⟩
  have hBd : Bz.data.toList = bareR z.data.toList := by rw [← hB]
  have hBs : Bz.size ≤ 1000000 := by
    have : Bz.data.toList.length = Bz.size := rfl
    rw [hBd] at this
    have h2 : (bareR z.data.toList).length ≤ z.data.toList.length := by unfold bareR; split <;> simp
    omega
  have HCP : Hid (∀ W, Calls Tryd.prog 65 #[.string z, .string ⟨#[33]⟩] W fun e w' => e = .returned (.tuple #[.string Bz, .bool nb]) ∧ W = w') := Lib.hid (fun W => by
    refine (Tryd.strings_CutPrefix z ⟨#[33]⟩ W).mono fun e w' h => ⟨?_, h.2.symm⟩
    rw [h.1, ← hB, ← hnb, ← tb1, ← tb2])
  obtain ⟨X, hX⟩ : ∃ X : ByteArray, (⟨(cutE (bareR z.data.toList)).1.toArray⟩ : ByteArray) = X := ⟨_, rfl⟩
  obtain ⟨Y, hY⟩ : ∃ Y : ByteArray, (⟨(cutE (bareR z.data.toList)).2.toArray⟩ : ByteArray) = Y := ⟨_, rfl⟩
  have hcl : (cutE (bareR z.data.toList)).1.length ≤ (bareR z.data.toList).length ∧ (cutE (bareR z.data.toList)).2.length ≤ (bareR z.data.toList).length := by
    unfold cutE Lib.cut
    split <;> simp <;> omega
  have hbl : (bareR z.data.toList).length ≤ 1000000 := by
    have : Bz.data.toList.length = Bz.size := rfl
    rw [hBd] at this
    omega
  have hXs : X.size ≤ 1000000 := by rw [← hX]; show (cutE (bareR z.data.toList)).1.toArray.size ≤ _; simp; omega
  have hYs : Y.size ≤ 1000000 := by rw [← hY]; show (cutE (bareR z.data.toList)).2.toArray.size ≤ _; simp; omega
  have HCut : Hid (∀ W, W.heap = w.heap → Calls Tryd.prog 40 #[.string Bz, .string ⟨#[61]⟩] W fun e w' => ∃ x3, e = .returned (.tuple #[.string X, .string Y, x3]) ∧ ∃ q, w' = W.drewN q) := Lib.hid (fun W hW => by
    refine (Tryd.strings_Cut Bz ⟨#[61]⟩ m W (by omega) (by simpa [World.cell?, hW] using hm)).mono fun e w' h => ⟨.bool (Lib.cut Bz.data.toList [61]).2.2, ?_, h.2⟩
    rw [h.1, hBd, ← hX, ← hY]
    rfl)
  obtain ⟨o, ho⟩ : ∃ o, rOut z.data.toList = o := ⟨_, rfl⟩
  obtain ⟨a, ha⟩ : ∃ a, rAct z.data.toList = a := ⟨_, rfl⟩
  have HOut : Hid (∀ W, PG W → Calls Tryd.prog 66 #[.string X] W fun e w' => e = .returned (.int .i64 o) ∧ Below W.heap.size W w') := Lib.hid (fun W hW => by
    have := outOf_any X W hW hXs
    rw [show X.data.toList = (cutE (bareR z.data.toList)).1 from by rw [← hX]] at this
    rw [← ho]
    exact this)
  have HAct : Hid (∀ W, PG W → Calls Tryd.prog 67 #[.string Y] W fun e w' => e = .returned (.int .i64 a) ∧ Below W.heap.size W w') := Lib.hid (fun W hW => by
    have := actOf_any Y W hW hYs
    rw [show Y.data.toList = (cutE (bareR z.data.toList)).2 from by rw [← hY]] at this
    rw [← ha]
    exact this)
  have HOK : Hid (rOK z.data.toList = (decide (0 ≤ o) && decide (0 < a))) := Lib.hid (by unfold rOK; rw [ho, ha])
  have hob : -1 ≤ o ∧ o ≤ 3 := by rw [← ho]; exact outN_bd _
  have hab : 0 ≤ a ∧ a ≤ 3 := by rw [← ha]; exact actN_bd _
  obtain ⟨o1, o2⟩ := hob
  obtain ⟨a1, a2⟩ := hab
  have HG := Lib.hid hg
  have HGB := Lib.hid hgB
  have HSt := Lib.hid hst
  have HPut : Hid (rOut z.data.toList = o ∧ notR z.data.toList = nb ∧ rAct z.data.toList = a) := Lib.hid ⟨ho, hnb, ha⟩
  have HLt := Lib.hid hst.lt
  clear hg hgB hst hz hm hzl tb1 tb2 hnb hB hBd hBs hX hY hcl hbl hXs hYs ho ha
  by_cases h0 : o < 0
  · have HK : Hid (rOK z.data.toList = false) := Lib.hid (by rw [HOK.out, decide_eq_false (by omega)]; rfl)
    go_enter Tryd.func48, Tryd.ntmps48
    go_wp2_with (first | (go_at_call 65; refine (HCP.out _).mono ?_; rintro e w2 ⟨rfl, rfl⟩) | (go_at_call 40; refine (HCut.out _ rfl).mono ?_; rintro e w3 ⟨x3, rfl, q, rfl⟩) | (go_at_call 66; refine (HOut.out _ (HG.out.below (bel_drewN9 (Below.refl _ _) q))).mono ?_; rintro e w4 ⟨rfl, hb4⟩; have HB4 := Lib.hid ((bel_drewN9 (Below.refl _ _) q).trans hb4); clear hb4) | (go_at_call 67; refine (HAct.out _ (HG.out.below HB4.out)).mono ?_; rintro e w5 ⟨rfl, hb5⟩; have HB5 := Lib.hid (HB4.out.trans (hb5.mono HB4.out.size)); clear hb5))
    go_ret
    exact LayR.no HK.out (HB5.out.mono (Nat.le_of_lt HLt.out))
  · by_cases h1 : a = 0
    · have HK : Hid (rOK z.data.toList = false) := Lib.hid (by rw [HOK.out, decide_eq_false (p := 0 < a) (by omega), Bool.and_false])
      have e1 : (a == 0) = true := by simpa using h1
      clear h1
      go_enter Tryd.func48, Tryd.ntmps48
      go_wp2_with (first | (go_at_call 65; refine (HCP.out _).mono ?_; rintro e w2 ⟨rfl, rfl⟩) | (go_at_call 40; refine (HCut.out _ rfl).mono ?_; rintro e w3 ⟨x3, rfl, q, rfl⟩) | (go_at_call 66; refine (HOut.out _ (HG.out.below (bel_drewN9 (Below.refl _ _) q))).mono ?_; rintro e w4 ⟨rfl, hb4⟩; have HB4 := Lib.hid ((bel_drewN9 (Below.refl _ _) q).trans hb4); clear hb4) | (go_at_call 67; refine (HAct.out _ (HG.out.below HB4.out)).mono ?_; rintro e w5 ⟨rfl, hb5⟩; have HB5 := Lib.hid (HB4.out.trans (hb5.mono HB4.out.size)); clear hb5))
      go_ret
      exact LayR.no HK.out (HB5.out.mono (Nat.le_of_lt HLt.out))
    · have HK : Hid (rOK z.data.toList = true) := Lib.hid (by rw [HOK.out, decide_eq_true (p := 0 < a) (by omega), decide_eq_true (p := 0 ≤ o) (by omega)]; rfl)
      have e1 : (a == 0) = false := by simpa using h1
      clear h1
      go_enter Tryd.func48, Tryd.ntmps48
      go_wp2_with (first | (go_at_call 65; refine (HCP.out _).mono ?_; rintro e w2 ⟨rfl, rfl⟩) | (go_at_call 40; refine (HCut.out _ rfl).mono ?_; rintro e w3 ⟨x3, rfl, q, rfl⟩) | (go_at_call 66; refine (HOut.out _ (HG.out.below (bel_drewN9 (Below.refl _ _) q))).mono ?_; rintro e w4 ⟨rfl, hb4⟩; have HB4 := Lib.hid ((bel_drewN9 (Below.refl _ _) q).trans hb4); clear hb4) | (go_at_call 67; refine (HAct.out _ (HG.out.below HB4.out)).mono ?_; rintro e w5 ⟨rfl, hb5⟩; have HB5 := Lib.hid (HB4.out.trans (hb5.mono HB4.out.size)); clear hb5))
      have HS5 := Lib.hid (HSt.out.below HB5.out HLt.out)
      go_loopw [34] (fun iv wr => ∃ i : Nat, i ≤ 4 ∧ iv = .int .i64 i ∧ PutA w5 wr g 0 (stpCells s).toArray 47 (dOf s) o nb a i) (fun iv _ => 4 - (intOf iv).toNat)
      case atStart => exact ⟨0, by decide, rfl, PutA.start HS5.out⟩
      case round =>
        obtain ⟨i, hi, rfl, hP⟩ := hrel
        have HP := Lib.hid hP
        by_cases hlt : i < 4
        · have hdi := stp_at s i hlt
          have hcell : wr.cell? ⟨g, 1 + i, none⟩ = some (.int .i64 (dOf s i)) := by
            unfold World.cell?
            rw [hP.blk]
            have := (putArr_at (stpCells s).toArray 0 (dOf s) o nb a (0 + 1 + i) i (by omega)).trans hdi
            simpa using this
          have hfree : wr.frozen? ⟨g, 1 + i, none⟩ = false := by simp [World.frozen?, hP.blk]
          have hii : (0 : Int) ≤ (i : Int) := by omega
          have hi4 : (i : Int) < 4 := by omega
          have HDi := Lib.hid hdi
          clear hP hdi
          obtain ⟨b, hb⟩ : ∃ b, decide ((i : Int) = o) = b := ⟨_, rfl⟩
          have hbq : ((i : Int) == o) = b := by rw [← hb]; rfl
          have HBq := Lib.hid hb
          clear hb
          cases b
          · cases nb
            · have HE : Hid (putI i (dOf s i) o false a = dOf s i) := Lib.hid (by unfold putI; rw [if_pos HBq.out])
              go_wp2
              go_roundw
              case rel => exact ⟨i + 1, hlt, by go_num, HP.out.skip HDi.out HE.out⟩
              case measure => simp [intOf]; omega
            · have HE : Hid (putI i (dOf s i) o true a = doneV i a) := Lib.hid (doneV_put i (dOf s i) o true a (by rw [HBq.out]; decide)).symm
              obtain ⟨dv, hdv⟩ : ∃ dv, doneV i a = dv := ⟨_, rfl⟩
              have HDn : Hid (∀ W, Calls Tryd.prog 68 #[.int .i64 i, .int .i64 a] W fun e w' => e = .returned (.int .i64 dv) ∧ w' = W) := Lib.hid (fun W => (done_any i a W).mono fun e w' h => ⟨by rw [h.1, hdv], h.2.symm⟩)
              rw [hdv] at HE
              clear hdv
              go_wp2
              refine region_tail9 8 (by kernel_rfl) (by kernel_rfl) ?_
              simp only [List.take_succ_cons, List.take_zero, List.drop_succ_cons, List.drop_zero]
              still_step
              still_step
              still_step
              still_step
              still_call (HDn.out _)
              repeat still_step
              refine wpStill_nil ?_
              go_wp2
              go_roundw
              case rel =>
                have hq := (HP.out.drew).set dv HE.out
                rw [show 0 + 1 + i = 1 + i from by omega] at hq
                exact ⟨i + 1, hlt, by go_num, hq⟩
              case measure => simp [intOf]; omega
          · cases nb
            · have HE : Hid (putI i (dOf s i) o false a = doneV i a) := Lib.hid (doneV_put i (dOf s i) o false a (by rw [HBq.out]; decide)).symm
              obtain ⟨dv, hdv⟩ : ∃ dv, doneV i a = dv := ⟨_, rfl⟩
              have HDn : Hid (∀ W, Calls Tryd.prog 68 #[.int .i64 i, .int .i64 a] W fun e w' => e = .returned (.int .i64 dv) ∧ w' = W) := Lib.hid (fun W => (done_any i a W).mono fun e w' h => ⟨by rw [h.1, hdv], h.2.symm⟩)
              rw [hdv] at HE
              clear hdv
              go_wp2
              refine region_tail9 8 (by kernel_rfl) (by kernel_rfl) ?_
              simp only [List.take_succ_cons, List.take_zero, List.drop_succ_cons, List.drop_zero]
              still_step
              still_step
              still_step
              still_step
              still_call (HDn.out _)
              repeat still_step
              refine wpStill_nil ?_
              go_wp2
              go_roundw
              case rel =>
                have hq := (HP.out.drew).set dv HE.out
                rw [show 0 + 1 + i = 1 + i from by omega] at hq
                exact ⟨i + 1, hlt, by go_num, hq⟩
              case measure => simp [intOf]; omega
            · have HE : Hid (putI i (dOf s i) o true a = dOf s i) := Lib.hid (by unfold putI; rw [if_pos HBq.out])
              go_wp2
              go_roundw
              case rel => exact ⟨i + 1, hlt, by go_num, HP.out.skip HDi.out HE.out⟩
              case measure => simp [intOf]; omega
        · obtain rfl : i = 4 := by omega
          clear hP
          go_wp2
          go_ret
          exact LayR.yes HK.out HPut.out HP.out.step ((HB5.out.mono (Nat.le_of_lt HLt.out)).trans (HP.out.bel (Nat.le_refl _)))
end Go.Proofs.YtpighkpdnifejaaDoor

namespace Go.Pol
open Go.Tx
theorem suffix_end (x : List UInt8) : Lib.trimSuffix x [93] = openW x ∧ Lib.hasSuffix x [93] = closedW x := by
  have h1 : Lib.hasSuffix x [93] = closedW x := by
    unfold Lib.hasSuffix closedW
    rw [Bool.eq_iff_iff, List.isSuffixOf_iff_suffix, decide_eq_true_eq]
    constructor
    · rintro ⟨t, rfl⟩; simp
    · intro h
      obtain ⟨t, rfl⟩ : ∃ t, x = t ++ [93] := by
        rcases List.eq_nil_or_concat x with rfl | ⟨t, y, rfl⟩
        · simp at h
        · simp at h; subst h; exact ⟨t, by simp⟩
      exact ⟨t, rfl⟩
  refine ⟨?_, h1⟩
  unfold Lib.trimSuffix openW
  rw [h1]
  unfold closedW
  by_cases h : x.getLast? = some 93
  · rw [if_pos h, if_pos (by simpa using h), List.dropLast_eq_take]; rfl
  · rw [if_neg h, if_neg (by simpa using h)]
theorem trim_open (l : List UInt8) (h : l.head? = some 91) : Lib.trimPrefix l [91] = l.tail := by
  cases l with
  | nil => cases h
  | cons y l =>
    simp at h
    subst h
    simp [Lib.trimPrefix, Lib.hasPrefix]
theorem openW_len (x : List UInt8) : (openW x).length ≤ x.length := by
  unfold openW; split <;> simp
/-- A word of a bracket, by its ways. -/
theorem brk_bad {s : Stp} {r : Bool} {x : List UInt8} {ws : List (List UInt8)} {i : Nat} (h : openW x ≠ []) (h2 : rOK (openW x) = false) : brk s r x ws i = .error i := by
  rw [brk_eq, if_pos ⟨h, h2⟩]
theorem brk_ok {s : Stp} {r : Bool} {x : List UInt8} {ws : List (List UInt8)} {i : Nat} (h2 : openW x ≠ [] → rOK (openW x) = true) : brk s r x ws i = if closedW x then (if (r || decide (openW x ≠ [])) = false then .error i else .ok (stp1 s x, i + 1))
    else match ws with
      | [] => .error 0
      | y :: ws => brk (stp1 s x) (r || decide (openW x ≠ [])) y ws (i + 1) := by
  rw [brk_eq, if_neg (fun h => by have := h2 h.1; rw [h.2] at this; cases this)]
  cases ws <;> rfl
theorem brk_on {s : Stp} {r : Bool} {x : List UInt8} {ws0 : List (List UInt8)} {i n : Nat} {A : Except Nat (Stp × Nat)} (hA : A = brk s r x (ws0.drop (i + 1)) i) (h2 : openW x ≠ [] → rOK (openW x) = true) (hc : closedW x = false) (hn : ws0.length = n) (r' : Bool) (hr : (r || decide (openW x ≠ [])) = r') :
    (∀ y, ws0[i + 1]? = some y → A = brk (stp1 s x) r' y (ws0.drop (i + 1 + 1)) (i + 1)) ∧ (n ≤ i + 1 → A = .error 0) := by
  rw [brk_ok h2, if_neg (by rw [hc]; decide), hr] at hA
  constructor
  · intro y hy
    have hlt := (List.getElem?_eq_some_iff.1 hy).1
    rw [List.drop_eq_getElem_cons hlt] at hA
    rw [List.getElem?_eq_getElem hlt] at hy
    cases hy
    exact hA
  · intro h
    rw [List.drop_of_length_le (by omega)] at hA
    exact hA
end Go.Pol
namespace Go.Proofs.YtpighkpdnifejaaDoor
open Go.RowKit Go.Lib Go.Tx Go.Pol
def WAt (w : World) (b off : Nat) (ws : List (List UInt8)) : Prop := ∀ (i : Nat) l, ws[i]? = some l → w.cell? ⟨b, off + i, none⟩ = some (.string ⟨l.toArray⟩)
theorem WAt.below {w w' : World} {b off B : Nat} {ws : List (List UInt8)} (h : WAt w b off ws) (hb : Below B w w') (hB : b < B) : WAt w' b off ws := fun i l hi => (hb.cell (p := ⟨b, off + i, none⟩) hB).trans (h i l hi)
def BrR (w : World) (g : Nat) (r : Except Nat (Stp × Nat)) (e : Ending) (w' : World) : Prop := Below g w w' ∧ match r with
  | .error k => e = .returned (.tuple #[.int .i64 (k : Int), .bool false])
  | .ok (s, m) => e = .returned (.tuple #[.int .i64 (m : Int), .bool true]) ∧ StepAt w' g s
theorem BrR.bad {w w' : World} {g : Nat} {r : Except Nat (Stp × Nat)} {k : Nat} {v : Value} (h : r = .error k) (hb : Below g w w') (hv : v = .tuple #[.int .i64 (k : Int), .bool false]) : BrR w g r (.returned v) w' := by subst h; subst hv; exact ⟨hb, rfl⟩
theorem BrR.good {w w' : World} {g : Nat} {r : Except Nat (Stp × Nat)} {s : Stp} {m : Nat} {v : Value} (h : r = .ok (s, m)) (hs : StepAt w' g s) (hb : Below g w w') (hv : v = .tuple #[.int .i64 (m : Int), .bool true]) : BrR w g r (.returned v) w' := by subst h; subst hv; exact ⟨hb, rfl, hs⟩
theorem lay_yes {g : Nat} {s : Stp} {x : List UInt8} {R : ByteArray} (hx : R.data.toList = openW x) (hR : R.size ≤ 1000000) (hne : openW x ≠ []) (hk : rOK (openW x) = true) (W : World) (hg : PG W) (hB : PGB g) (hs : StepAt W g s) :
    Calls Tryd.prog 48 #[.pointer (some ⟨g, 0, none⟩), .string R] W fun e w' => e = .returned (.bool true) ∧ StepAt w' g (stp1 s x) ∧ Below g W w' := by
  refine (layRule_any g s R W hg hB hs hR).mono fun e w' h => ?_
  rw [hx] at h
  refine ⟨by rw [h.1, hk], ?_, h.2.2⟩
  unfold stp1
  rw [if_neg hne]
  exact h.2.1 hk
theorem lay_no {g : Nat} {s : Stp} {x : List UInt8} {R : ByteArray} (hx : R.data.toList = openW x) (hR : R.size ≤ 1000000) (hk : rOK (openW x) = false) (W : World) (hg : PG W) (hB : PGB g) (hs : StepAt W g s) :
    Calls Tryd.prog 48 #[.pointer (some ⟨g, 0, none⟩), .string R] W fun e w' => e = .returned (.bool false) ∧ Below g W w' := by
  refine (layRule_any g s R W hg hB hs hR).mono fun e w' h => ?_
  rw [hx] at h
  exact ⟨by rw [h.1, hk], h.2.2⟩
set_option maxHeartbeats 4000000 in
set_option maxRecDepth 100000 in
theorem bracket_any (g b off n c : Nat) (s : Stp) (x0 : List UInt8) (rest ws : List (List UInt8)) (w : World) (hg : PG w) (hgB : PGB g) (hst : StepAt w g s) (hb : b < g) (hw : WAt w b off ws) (hws : ws = x0 :: rest) (hlen : ws.length = n) (hn : n ≤ 1000) (hc : n ≤ c)
    (h91 : x0.head? = some 91) (hsz : ∀ x ∈ ws, x.length ≤ 1000000) :
    Calls Tryd.prog 29 #[.pointer (some ⟨g, 0, none⟩), .slice (some ⟨b, off, none⟩) n c] w (BrR w g (brk s false x0.tail rest 0)) := by
  obtain ⟨A, hA⟩ : ∃ A, brk s false x0.tail rest 0 = A := ⟨_, rfl⟩
  rw [hA]
  have HA0 : Hid (A = brk s false x0.tail (ws.drop 1) 0) := Lib.hid (by rw [← hA, hws]; rfl)
  have H0 : Hid (ws[0]? = some x0) := Lib.hid (by rw [hws]; rfl)
  have H91 := Lib.hid h91
  have HG := Lib.hid hg
  have HGB := Lib.hid hgB
  have HSt := Lib.hid hst
  have HW := Lib.hid hw
  have HL := Lib.hid hlen
  have HSz := Lib.hid hsz
  have HBg := Lib.hid hb
  have hn1 : 1 ≤ n := by rw [← hlen, hws]; simp
  clear hA hg hgB hst hw hws hlen hsz h91 hb
  go_enter Tryd.func29, Tryd.ntmps29
  go_wp2
  go_loopw [6, 13] (fun rv iv wr => ∃ (i : Nat) (s1 : Stp) (r : Bool), i ≤ n ∧ rv = .bool r ∧ iv = .int .i64 i ∧ StepAt wr g s1 ∧ Below g w wr ∧ (∀ y, ws[i]? = some y → A = brk s1 r (if i = 0 then y.tail else y) (ws.drop (i + 1)) i) ∧ (n ≤ i → A = .error 0)) (fun _ iv _ => n - (intOf iv).toNat)
  case atStart => exact ⟨0, s, false, Nat.zero_le _, rfl, rfl, HSt.out, Below.refl _ _, fun y hy => by
      have := H0.out.symm.trans hy
      cases this
      exact HA0.out, fun h => by omega⟩
  case round =>
    obtain ⟨i, s1, r, hi, rfl, rfl, hS, hB, hA1, hA2⟩ := hrel
    have HS := Lib.hid hS
    have HB := Lib.hid hB
    have HA2 := Lib.hid hA2
    clear hS hB hA2
    by_cases hlt : i < n
    · obtain ⟨l, hl⟩ : ∃ l, ws[i]? = some l := ⟨_, List.getElem?_eq_getElem (by rw [HL.out]; exact hlt)⟩
      have hcell : wr.cell? ⟨b, off + i, none⟩ = some (.string ⟨l.toArray⟩) := (HW.out.below HB.out HBg.out) i l hl
      have hii : (0 : Int) ≤ (i : Int) := by omega
      have hin : (i : Int) < (n : Int) := by omega
      have hll : l.length ≤ 1000000 := HSz.out l (List.mem_of_getElem? hl)
      obtain ⟨x, hx⟩ : ∃ x, (if i = 0 then l.tail else l) = x := ⟨_, rfl⟩
      have hA3 := hA1 l hl
      rw [hx] at hA3
      have hxl : x.length ≤ 1000000 := by
        rw [← hx]
        split
        · rw [List.length_tail]; omega
        · exact hll
      obtain ⟨X, hX⟩ : ∃ X : ByteArray, (⟨x.toArray⟩ : ByteArray) = X := ⟨_, rfl⟩
      have hXd : X.data.toList = x := by rw [← hX]
      have hXs : X.size ≤ 1000000 := by rw [← hX]; show x.toArray.size ≤ _; simpa using hxl
      obtain ⟨sf1, sf2⟩ := suffix_end x
      obtain ⟨R, hR⟩ : ∃ R : ByteArray, (⟨(openW x).toArray⟩ : ByteArray) = R := ⟨_, rfl⟩
      have hRd : R.data.toList = openW x := by rw [← hR]
      have hRs : R.size ≤ 1000000 := by
        rw [← hR]; show (openW x).toArray.size ≤ _
        have := openW_len x
        simp; omega
      obtain ⟨cl, hcl⟩ : ∃ cl, closedW x = cl := ⟨_, rfl⟩
      have HCS : Hid (∀ W, Calls Tryd.prog 47 #[.string X, .string ⟨#[93]⟩] W fun e w' => e = .returned (.tuple #[.string R, .bool cl]) ∧ W = w') := Lib.hid (fun W => by
        refine (Tryd.strings_CutSuffix X ⟨#[93]⟩ W (by omega)).mono fun e w' h => ⟨?_, h.2.symm⟩
        rw [h.1, hXd, ← hR, ← hcl, ← sf1, ← sf2])
      have HRd := Lib.hid hRd
      have HRs := Lib.hid hRs
      have HA3 := Lib.hid hA3
      have HCl := Lib.hid hcl
      have hgo : ∀ (r' : Bool) (s' : Stp), s' = stp1 s1 x → (openW x ≠ [] → rOK (openW x) = true) → cl = false → (r || decide (openW x ≠ [])) = r' → (∀ y, ws[i + 1]? = some y → A = brk s' r' (if i + 1 = 0 then y.tail else y) (ws.drop (i + 1 + 1)) (i + 1)) ∧ (n ≤ i + 1 → A = .error 0) := fun r' s' e1 h2 hc hr => by
        subst e1
        have := brk_on HA3.out h2 (HCl.out.trans hc) HL.out r' hr
        exact ⟨fun y hy => by rw [if_neg (by omega)]; exact this.1 y hy, this.2⟩
      have HGo := Lib.hid hgo
      clear hA1 hA3 sf1 sf2 hRs hcl hXd hXs hxl hgo
      by_cases hi0 : i = 0
      · have hHT : Hid (∀ W, Calls Tryd.prog 46 #[.string ⟨l.toArray⟩, .string ⟨#[91]⟩] W fun e w' => e = .returned (.string X) ∧ W = w') := Lib.hid (fun W => by
          refine (Tryd.strings_TrimPrefix ⟨l.toArray⟩ ⟨#[91]⟩ W).mono fun e w' h => ⟨?_, h.2.symm⟩
          have hl0 : l.head? = some 91 := by
            subst hi0
            have := H0.out.symm.trans hl
            cases this
            exact H91.out
          rw [h.1, ← hX, ← hx, if_pos hi0]
          show Ending.returned (Value.string ⟨(Lib.trimPrefix l.toArray.toList [91]).toArray⟩) = _
          rw [show l.toArray.toList = l from by simp, trim_open l hl0])
        have ei : ((i : Int) == 0) = true := by simp; omega
        clear hx hX hl hll hi0
        by_cases hne : openW x = []
        · obtain rfl : R = ⟨#[]⟩ := by rw [← hR, hne]
          have hr0 : (r || decide (openW x ≠ [])) = r := by simp [hne]
          have hst1 : s1 = stp1 s1 x := by unfold stp1; rw [if_pos hne]
          have hok : openW x ≠ [] → rOK (openW x) = true := fun h => absurd hne h
          have HR0 := Lib.hid hr0
          have HSt1 := Lib.hid hst1
          have HOk := Lib.hid hok
          clear hR hRd hne hr0 hst1 hok
          cases cl
          · go_wp2_with (first | (go_at_call 46; refine (hHT.out _).mono ?_; rintro e w2 ⟨rfl, rfl⟩) | (go_at_call 47; refine (HCS.out _).mono ?_; rintro e w3 ⟨rfl, rfl⟩))
            go_roundw
            case rel => exact ⟨i + 1, s1, r, by omega, rfl, by go_num, HS.out, HB.out, (HGo.out r s1 HSt1.out HOk.out (by first | rfl | trivial) HR0.out).1, (HGo.out r s1 HSt1.out HOk.out (by first | rfl | trivial) HR0.out).2⟩
            case measure => simp [intOf]; omega
          · cases r
            · have HE : Hid (A = .error i) := Lib.hid (by rw [HA3.out, brk_ok HOk.out, if_pos HCl.out, HR0.out]; rfl)
              go_wp2_with (first | (go_at_call 46; refine (hHT.out _).mono ?_; rintro e w2 ⟨rfl, rfl⟩) | (go_at_call 47; refine (HCS.out _).mono ?_; rintro e w3 ⟨rfl, rfl⟩))
              go_ret2
              exact BrR.bad HE.out HB.out rfl
            · have HE : Hid (A = .ok (s1, i + 1)) := Lib.hid (by rw [HA3.out, brk_ok HOk.out, if_pos HCl.out, HR0.out, ← HSt1.out]; rfl)
              go_wp2_with (first | (go_at_call 46; refine (hHT.out _).mono ?_; rintro e w2 ⟨rfl, rfl⟩) | (go_at_call 47; refine (HCS.out _).mono ?_; rintro e w3 ⟨rfl, rfl⟩))
              go_ret2
              exact BrR.good HE.out HS.out HB.out (by go_num)
        · have e0 : (R.toList == (⟨#[]⟩ : ByteArray).toList) = false := by
            rw [Lib.toList_data, Lib.toList_data, hRd]
            simpa using hne
          have e1 : R.toList.isEmpty = false := by rw [Lib.toList_data, hRd]; simpa using hne
          have e2 : ¬ R.toList = [] := by rw [Lib.toList_data, hRd]; exact hne
          have hr0 : (r || decide (openW x ≠ [])) = true := by simp [hne]
          have HR0 := Lib.hid hr0
          have HNe := Lib.hid hne
          clear hR hRd hne hr0
          cases hk : rOK (openW x)
          · have HLR : Hid (∀ W, PG W → StepAt W g s1 → Calls Tryd.prog 48 #[.pointer (some ⟨g, 0, none⟩), .string R] W fun e w' => e = .returned (.bool false) ∧ Below g W w') := Lib.hid (fun W h1 h2 => lay_no HRd.out HRs.out hk W h1 HGB.out h2)
            have HE : Hid (A = .error i) := Lib.hid (by rw [HA3.out, brk_bad HNe.out hk])
            clear hk
            go_wp2_with (first | (go_at_call 46; refine (hHT.out _).mono ?_; rintro e w2 ⟨rfl, rfl⟩) | (go_at_call 47; refine (HCS.out _).mono ?_; rintro e w3 ⟨rfl, rfl⟩) | (go_at_call 48; refine (HLR.out _ (HG.out.keep HB.out HGB.out) HS.out).mono ?_; rintro e w4 ⟨rfl, hb4⟩; have HB4 := Lib.hid (HB.out.trans hb4); clear hb4))
            go_ret2
            exact BrR.bad HE.out HB4.out rfl
          · have HLR : Hid (∀ W, PG W → StepAt W g s1 → Calls Tryd.prog 48 #[.pointer (some ⟨g, 0, none⟩), .string R] W fun e w' => e = .returned (.bool true) ∧ StepAt w' g (stp1 s1 x) ∧ Below g W w') := Lib.hid (fun W h1 h2 => lay_yes HRd.out HRs.out HNe.out hk W h1 HGB.out h2)
            have HOk : Hid (openW x ≠ [] → rOK (openW x) = true) := Lib.hid (fun _ => hk)
            clear hk
            cases cl
            · go_wp2_with (first | (go_at_call 46; refine (hHT.out _).mono ?_; rintro e w2 ⟨rfl, rfl⟩) | (go_at_call 47; refine (HCS.out _).mono ?_; rintro e w3 ⟨rfl, rfl⟩) | (go_at_call 48; refine (HLR.out _ (HG.out.keep HB.out HGB.out) HS.out).mono ?_; rintro e w4 ⟨rfl, hs4, hb4⟩; have HB4 := Lib.hid (HB.out.trans hb4); have HS4 := Lib.hid hs4; clear hb4 hs4))
              go_roundw
              case rel => exact ⟨i + 1, stp1 s1 x, true, by omega, rfl, by go_num, HS4.out, HB4.out, (HGo.out true _ rfl HOk.out (by first | rfl | trivial) HR0.out).1, (HGo.out true _ rfl HOk.out (by first | rfl | trivial) HR0.out).2⟩
              case measure => simp [intOf]; omega
            · have HE : Hid (A = .ok (stp1 s1 x, i + 1)) := Lib.hid (by rw [HA3.out, brk_ok HOk.out, if_pos HCl.out, HR0.out]; rfl)
              go_wp2_with (first | (go_at_call 46; refine (hHT.out _).mono ?_; rintro e w2 ⟨rfl, rfl⟩) | (go_at_call 47; refine (HCS.out _).mono ?_; rintro e w3 ⟨rfl, rfl⟩) | (go_at_call 48; refine (HLR.out _ (HG.out.keep HB.out HGB.out) HS.out).mono ?_; rintro e w4 ⟨rfl, hs4, hb4⟩; have HB4 := Lib.hid (HB.out.trans hb4); have HS4 := Lib.hid hs4; clear hb4 hs4))
              go_ret2
              exact BrR.good HE.out HS4.out HB4.out (by go_num)
      · obtain rfl : x = l := by rw [← hx, if_neg hi0]
        subst hX
        have ei : ((i : Int) == 0) = false := by simp; omega
        clear hl hll hi0
        by_cases hne : openW x = []
        · obtain rfl : R = ⟨#[]⟩ := by rw [← hR, hne]
          have hr0 : (r || decide (openW x ≠ [])) = r := by simp [hne]
          have hst1 : s1 = stp1 s1 x := by unfold stp1; rw [if_pos hne]
          have hok : openW x ≠ [] → rOK (openW x) = true := fun h => absurd hne h
          have HR0 := Lib.hid hr0
          have HSt1 := Lib.hid hst1
          have HOk := Lib.hid hok
          clear hR hRd hne hr0 hst1 hok
          cases cl
          · go_wp2_with (first | (go_at_call 47; refine (HCS.out _).mono ?_; rintro e w3 ⟨rfl, rfl⟩))
            go_roundw
            case rel => exact ⟨i + 1, s1, r, by omega, rfl, by go_num, HS.out, HB.out, (HGo.out r s1 HSt1.out HOk.out (by first | rfl | trivial) HR0.out).1, (HGo.out r s1 HSt1.out HOk.out (by first | rfl | trivial) HR0.out).2⟩
            case measure => simp [intOf]; omega
          · cases r
            · have HE : Hid (A = .error i) := Lib.hid (by rw [HA3.out, brk_ok HOk.out, if_pos HCl.out, HR0.out]; rfl)
              go_wp2_with (first | (go_at_call 47; refine (HCS.out _).mono ?_; rintro e w3 ⟨rfl, rfl⟩))
              go_ret2
              exact BrR.bad HE.out HB.out rfl
            · have HE : Hid (A = .ok (s1, i + 1)) := Lib.hid (by rw [HA3.out, brk_ok HOk.out, if_pos HCl.out, HR0.out, ← HSt1.out]; rfl)
              go_wp2_with (first | (go_at_call 47; refine (HCS.out _).mono ?_; rintro e w3 ⟨rfl, rfl⟩))
              go_ret2
              exact BrR.good HE.out HS.out HB.out (by go_num)
        · have e0 : (R.toList == (⟨#[]⟩ : ByteArray).toList) = false := by
            rw [Lib.toList_data, Lib.toList_data, hRd]
            simpa using hne
          have e1 : R.toList.isEmpty = false := by rw [Lib.toList_data, hRd]; simpa using hne
          have e2 : ¬ R.toList = [] := by rw [Lib.toList_data, hRd]; exact hne
          have hr0 : (r || decide (openW x ≠ [])) = true := by simp [hne]
          have HR0 := Lib.hid hr0
          have HNe := Lib.hid hne
          clear hR hRd hne hr0
          cases hk : rOK (openW x)
          · have HLR : Hid (∀ W, PG W → StepAt W g s1 → Calls Tryd.prog 48 #[.pointer (some ⟨g, 0, none⟩), .string R] W fun e w' => e = .returned (.bool false) ∧ Below g W w') := Lib.hid (fun W h1 h2 => lay_no HRd.out HRs.out hk W h1 HGB.out h2)
            have HE : Hid (A = .error i) := Lib.hid (by rw [HA3.out, brk_bad HNe.out hk])
            clear hk
            go_wp2_with (first | (go_at_call 47; refine (HCS.out _).mono ?_; rintro e w3 ⟨rfl, rfl⟩) | (go_at_call 48; refine (HLR.out _ (HG.out.keep HB.out HGB.out) HS.out).mono ?_; rintro e w4 ⟨rfl, hb4⟩; have HB4 := Lib.hid (HB.out.trans hb4); clear hb4))
            go_ret2
            exact BrR.bad HE.out HB4.out rfl
          · have HLR : Hid (∀ W, PG W → StepAt W g s1 → Calls Tryd.prog 48 #[.pointer (some ⟨g, 0, none⟩), .string R] W fun e w' => e = .returned (.bool true) ∧ StepAt w' g (stp1 s1 x) ∧ Below g W w') := Lib.hid (fun W h1 h2 => lay_yes HRd.out HRs.out HNe.out hk W h1 HGB.out h2)
            have HOk : Hid (openW x ≠ [] → rOK (openW x) = true) := Lib.hid (fun _ => hk)
            clear hk
            cases cl
            · go_wp2_with (first | (go_at_call 47; refine (HCS.out _).mono ?_; rintro e w3 ⟨rfl, rfl⟩) | (go_at_call 48; refine (HLR.out _ (HG.out.keep HB.out HGB.out) HS.out).mono ?_; rintro e w4 ⟨rfl, hs4, hb4⟩; have HB4 := Lib.hid (HB.out.trans hb4); have HS4 := Lib.hid hs4; clear hb4 hs4))
              go_roundw
              case rel => exact ⟨i + 1, stp1 s1 x, true, by omega, rfl, by go_num, HS4.out, HB4.out, (HGo.out true _ rfl HOk.out (by first | rfl | trivial) HR0.out).1, (HGo.out true _ rfl HOk.out (by first | rfl | trivial) HR0.out).2⟩
              case measure => simp [intOf]; omega
            · have HE : Hid (A = .ok (stp1 s1 x, i + 1)) := Lib.hid (by rw [HA3.out, brk_ok HOk.out, if_pos HCl.out, HR0.out]; rfl)
              go_wp2_with (first | (go_at_call 47; refine (HCS.out _).mono ?_; rintro e w3 ⟨rfl, rfl⟩) | (go_at_call 48; refine (HLR.out _ (HG.out.keep HB.out HGB.out) HS.out).mono ?_; rintro e w4 ⟨rfl, hs4, hb4⟩; have HB4 := Lib.hid (HB.out.trans hb4); have HS4 := Lib.hid hs4; clear hb4 hs4))
              go_ret2
              exact BrR.good HE.out HS4.out HB4.out (by go_num)
    · obtain rfl : i = n := by omega
      have HE := Lib.hid (HA2.out (Nat.le_refl _))
      clear hA1
      go_wp2
      go_ret2
      exact BrR.bad HE.out HB.out rfl
end Go.Proofs.YtpighkpdnifejaaDoor

namespace Go.Pol
open Go.Tx
theorem prefix_open (l : List UInt8) : Lib.hasPrefix l [91] = decide (l.head? = some 91) := by
  cases l with
  | nil => rfl
  | cons x l =>
    unfold Lib.hasPrefix
    rw [show [91].isPrefixOf (x :: l) = ((91 : UInt8) == x && [].isPrefixOf l) from rfl]
    by_cases h : x = 91
    · subst h; simp
    · have h2 : ¬ (91 : UInt8) = x := fun e => h e.symm
      simp [h, h2]
theorem okSrc_head {y : List UInt8} (h : okSrc y = true) : ¬ y.head? = some 91 := by
  intro e
  cases y with
  | nil => cases e
  | cons x l =>
    simp at e
    subst e
    unfold okSrc at h
    simp [srcB] at h
/-- What stands at a word where a source must stand. -/
theorem line_err {y : List UInt8} {ws : List (List UInt8)} {k : Nat} {l : List Stp} {r : Bool} (hc : y.head? = some 91 → l.length = 0 ∨ r = true) (h : okSrc y = false ∨ l.length = 8) : Go.Pol.lineP (y :: ws) k l r = .error (k + 1) := by
  rw [Go.Proofs.YtpighkpdnifejaaDoor.lineP_cons]
  by_cases h1 : y.head? = some 91
  · rw [if_pos h1, if_pos (hc h1)]
  · rw [if_neg h1]
    by_cases h2 : okSrc y = false
    · rw [if_pos h2]
    · rw [if_neg h2, if_pos (h.resolve_left h2)]
theorem line_src {y : List UInt8} {ws : List (List UInt8)} {k : Nat} {l : List Stp} {r : Bool} (h : okSrc y = true) (h8 : ¬ l.length = 8) : Go.Pol.lineP (y :: ws) k l r = Go.Pol.lineP ws (k + 1) (l ++ [plainS y]) false := by
  rw [Go.Proofs.YtpighkpdnifejaaDoor.lineP_cons, if_neg (okSrc_head h), if_neg (by rw [h]; decide), if_neg h8]
theorem brk_err : ∀ (ws : List (List UInt8)) (s : Stp) (r : Bool) (x : List UInt8) (i c : Nat), brk s r x ws i = .error c → c ≤ i + ws.length
  | ws, s, r, x, i, c, h => by
    rw [brk_eq] at h
    split at h
    · cases h; omega
    · split at h
      · split at h
        · cases h; omega
        · cases h
      · match ws, h with
        | [], h => cases h; omega
        | y :: ws, h =>
          have := brk_err ws _ _ _ _ _ h
          simp only [List.length_cons]
          omega
theorem line_brk {y : List UInt8} {ws : List (List UInt8)} {k : Nat} {l : List Stp} {s : Stp} (h : y.head? = some 91) : Go.Pol.lineP (y :: ws) k (l ++ [s]) false = brkR k l (y.tail :: ws) 0 (brk s false y.tail ws 0) := by
  rw [Go.Proofs.YtpighkpdnifejaaDoor.lineP_cons, if_pos h, if_neg (by simp)]
  have := brack_brk k l ws s y.tail 0 0
  simpa using this
end Go.Pol
namespace Go.Proofs.YtpighkpdnifejaaDoor
open Go.RowKit Go.Lib Go.Tx Go.Pol
def StpR (w : World) (r : Except Nat (List Stp)) (e : Ending) (w' : World) : Prop := Below w.heap.size w w' ∧ match r with
  | .error c => 1 ≤ c ∧ c ≤ 1001 ∧ ∃ p cp, e = .returned (.tuple #[.slice p 0 cp, .int .i64 ((c : Int) - 1)])
  | .ok l => l ≠ [] ∧ ∃ v, e = .returned (.tuple #[v, .int .i64 0]) ∧ StepsC w.heap.size w' v l
theorem StpR.bad {w w' : World} {r : Except Nat (List Stp)} {c : Nat} {v : Value} (h : r = .error (c + 1)) (hb : Below w.heap.size w w') (p : Option Addr) (cp : Nat) (hc : c ≤ 1000) (hv : v = .tuple #[.slice p 0 cp, .int .i64 (c : Int)]) : StpR w r (.returned v) w' := by
  subst h; subst hv
  exact ⟨hb, by omega, by omega, p, cp, by rw [show (((c + 1 : Nat) : Int) - 1) = (c : Int) from by omega]⟩
theorem StpR.good {w w' : World} {r : Except Nat (List Stp)} {l : List Stp} {v : Value} (h : r = .ok l) (hne : l ≠ []) (hs : StepsC w.heap.size w' v l) (hb : Below w.heap.size w w') : StpR w r (.returned (.tuple #[v, .int .i64 0])) w' := by
  subst h
  exact ⟨hb, hne, v, rfl, hs⟩
theorem StepsC.push2 {B : Nat} {w : World} {v : Value} {l : List Stp} {s : Stp} {n : Nat} (h : w.ownsRow B 47 5 v (n + 1) (l.flatMap stpCells ++ stpCells s)) (hn : l.length = n) : StepsC B w v (l ++ [s]) := by
  unfold StepsC
  rw [List.length_append, hn, List.flatMap_append]
  simpa using h
theorem step_new (w : World) (s : Stp) : StepAt (w.alloc (.cells (stpCells s).toArray 47)) w.heap.size s := heap_alloc_new w _
theorem StepAt.cellsOf {w : World} {g : Nat} {s : Stp} (h : StepAt w g s) : w.cell? ⟨g, 0, none⟩ = some (.string ⟨s.src.toArray⟩) ∧ w.cell? ⟨g, 1, none⟩ = some (.int .i64 s.d0) ∧ w.cell? ⟨g, 2, none⟩ = some (.int .i64 s.d1) ∧ w.cell? ⟨g, 3, none⟩ = some (.int .i64 s.d2) ∧ w.cell? ⟨g, 4, none⟩ = some (.int .i64 s.d3) := by
  unfold StepAt at h
  refine ⟨?_, ?_, ?_, ?_, ?_⟩ <;> (unfold World.cell?; rw [h]; rfl)
set_option maxHeartbeats 4000000 in
set_option maxRecDepth 100000 in
theorem stepsOf_any (b cp : Nat) (ws : List (List UInt8)) (N : Nat) (w : World) (hg : PG w) (hb : b < w.heap.size) (hw : WAt w b 0 ws) (hN : ws.length = N) (h1 : 1 ≤ N) (hN2 : N ≤ 1000) (hcp : N ≤ cp) (hne : ∀ x ∈ ws, x ≠ [] ∧ x.length ≤ 1000000) :
    Calls Tryd.prog 17 #[.slice (some ⟨b, 0, none⟩) N cp] w (StpR w (lineP (ws.drop 1) 1 [] false)) := by
  obtain ⟨A, hA⟩ : ∃ A, lineP (ws.drop 1) 1 [] false = A := ⟨_, rfl⟩
  rw [hA]
  have HA0 := Lib.hid hA
  have HG := Lib.hid hg
  have HBl := Lib.hid hb
  have HW := Lib.hid hw
  have HN := Lib.hid hN
  have HNe := Lib.hid hne
  obtain ⟨i9, hi, hz0, hz1, hz2⟩ := info_parts' (show (Tryd.prog.info? 47).map (fun i => (i.zero, i.size, i.bytes)) = some (some (.agg #[.string ⟨#[]⟩, .int .i64 0, .int .i64 0, .int .i64 0, .int .i64 0]), 5, 48) by kernel_rfl)
  clear hA hg hb hw hN hne
  go_enter Tryd.func17, Tryd.ntmps17
  go_wp2
  go_loopw [4, 5] (fun lv iv wr => ∃ (k : Nat) (l : List Stp) (r : Bool), 1 ≤ k ∧ k ≤ N ∧ iv = .int .i64 k ∧ StepsC w.heap.size wr lv l ∧ Below w.heap.size w wr ∧ l.length ≤ 8 ∧ A = lineP (ws.drop k) k l r ∧ (∀ y, ws[k]? = some y → y.head? = some 91 → l.length = 0 ∨ r = true)) (fun _ iv _ => N - (intOf iv).toNat)
  case atStart => exact ⟨1, [], false, Nat.le_refl _, h1, rfl, World.ownsRow_nil _ _ _ _, Below.refl _ _, by decide, HA0.out.symm, fun _ _ _ => .inl rfl⟩
  case round =>
    obtain ⟨k, l, r, hk1, hkN, rfl, hS, hB, hl8, hA, hcond⟩ := hrel
    obtain ⟨lp, lc, rfl⟩ := hS.shape
    have HS := Lib.hid hS
    have HB := Lib.hid hB
    have hbB := hB.size
    have HBB := Lib.hid hbB
    obtain ⟨n1, hn1⟩ : ∃ n1, l.length = n1 := ⟨_, rfl⟩
    rw [hn1] at hl8 ⊢
    have HN1 := Lib.hid hn1
    by_cases hlt : k < N
    · obtain ⟨y, hy⟩ : ∃ y, ws[k]? = some y := ⟨_, List.getElem?_eq_getElem (by rw [HN.out]; exact hlt)⟩
      have hdr : ws.drop k = y :: ws.drop (k + 1) := by
        have h0 := (List.getElem?_eq_some_iff.1 hy).1
        rw [List.drop_eq_getElem_cons h0]
        rw [List.getElem?_eq_getElem h0] at hy
        cases hy; rfl
      have hcell : wr.cell? ⟨b, k, none⟩ = some (.string ⟨y.toArray⟩) := by
        have := (HW.out.below HB.out HBl.out) k y hy
        simpa using this
      have hyl := (HNe.out y (List.mem_of_getElem? hy)).2
      have hkk : (0 : Int) ≤ (k : Int) := by omega
      have hkn : (k : Int) < (N : Int) := by omega
      have HSo : Hid (∀ W, Calls Tryd.prog 27 #[.string ⟨y.toArray⟩] W fun e w' => e = .returned (.bool (okSrc y)) ∧ Below W.heap.size W w') := Lib.hid (fun W => by
        have := isSource_any ⟨y.toArray⟩ W (by show y.toArray.size ≤ _; simpa using hyl)
        simpa using this)
      have HCo := Lib.hid (hcond y hy)
      rw [hdr] at hA
      have HA := Lib.hid hA
      clear hcond hA hdr hS hB hyl hn1
      by_cases h8 : n1 = 8
      · have HE : Hid (A = .error (k + 1)) := Lib.hid (by rw [HA.out, line_err HCo.out (.inr (by rw [HN1.out, h8]))])
        have e8 : ((n1 : Int) == 8) = true := by simp; omega
        clear h8 hbB hy
        go_wp2
        go_ret2
        exact StpR.bad HE.out HB.out none 0 (by omega) rfl
      · have e8 : ((n1 : Int) == 8) = false := by simp; omega
        have H8 := Lib.hid h8
        have HSn : Hid (wr.ownsRow w.heap.size 47 5 (.slice lp n1 lc) n1 (l.flatMap stpCells)) := Lib.hid (by have := HS.out; unfold StepsC at this; rw [HN1.out] at this; exact this)
        clear h8
        by_cases hok : okSrc y = false
        · have HE : Hid (A = .error (k + 1)) := Lib.hid (by rw [HA.out, line_err HCo.out (.inl hok)])
          rw [hok] at HSo
          clear hok hbB hy
          go_wp2_with (go_at_call 27; refine (HSo.out _).mono ?_; rintro e w2 ⟨rfl, hb2⟩; have HB2 := Lib.hid (HB.out.trans (hb2.mono HBB.out)); clear hb2)
          go_ret2
          exact StpR.bad HE.out HB2.out none 0 (by omega) rfl
        · have hok2 : okSrc y = true := by simpa using hok
          have HA2 : Hid (A = lineP (ws.drop (k + 1)) (k + 1) (l ++ [plainS y]) false) := Lib.hid (by rw [HA.out, line_src hok2 (by rw [HN1.out]; exact H8.out)])
          rw [hok2] at HSo
          clear hok hok2
          go_upto_region 6 with (go_at_call 27; refine (HSo.out _).mono ?_; rintro e w2 ⟨rfl, hb2⟩; have HB2 := Lib.hid hb2; clear hb2)
          have hcell2 : w2.cell? ⟨b, k, none⟩ = some (.string ⟨y.toArray⟩) := (HB2.out.cell (p := ⟨b, k, none⟩) (by have := HBl.out; show b < _; omega)).trans hcell
          have HG2 := Lib.hid ((HG.out.below HB.out).below HB2.out)
          obtain ⟨ut, uf, hun⟩ := HG2.out.un
          have u0 : w2.cell? ⟨1, 0, none⟩ = some (.int .i64 1) := by simp [World.cell?, hun]
          have u1 : w2.cell? ⟨1, 1, none⟩ = some (.int .i64 2) := by simp [World.cell?, hun]
          have u2 : w2.cell? ⟨1, 2, none⟩ = some (.int .i64 2) := by simp [World.cell?, hun]
          have u3 : w2.cell? ⟨1, 3, none⟩ = some (.int .i64 2) := by simp [World.cell?, hun]
          have hlt2 := HG2.out.lt
          have hb2l : b < w2.heap.size := by have := HBl.out; have := HB2.out.size; omega
          obtain ⟨Z, hZ⟩ : ∃ Z : Obj, (.cells #[.string ⟨#[]⟩, .int .i64 0, .int .i64 0, .int .i64 0, .int .i64 0] 47) = Z := ⟨_, rfl⟩
          have old : ∀ (gb j : Nat) v, gb < w2.heap.size → w2.cell? ⟨gb, j, none⟩ = some v → (w2.alloc (.cells #[.string ⟨#[]⟩, .int .i64 0, .int .i64 0, .int .i64 0, .int .i64 0] 47)).cell? ⟨gb, j, none⟩ = some v := fun gb j v h1 h2 => (((Below.refl w2.heap.size w2).alloc (Nat.le_refl _) _).cell (p := ⟨gb, j, none⟩) h1).trans h2
          have v0 := old _ _ _ hlt2.2.1 u0
          have v1 := old _ _ _ hlt2.2.1 u1
          have v2 := old _ _ _ hlt2.2.1 u2
          have v3 := old _ _ _ hlt2.2.1 u3
          have vw := old _ _ _ hb2l hcell2
          clear hun hcell old hZ hlt2
          go_region
          go_upto_region 8 with (fail)
          obtain ⟨sp, hsp⟩ : ∃ sp, plainS y = sp := ⟨_, rfl⟩
          obtain ⟨g, hg⟩ : ∃ g, w2.heap.size = g := ⟨_, rfl⟩
          have hs3 : StepAt ((w2.alloc (.cells #[.string ⟨y.toArray⟩, .int .i64 1, .int .i64 2, .int .i64 2, .int .i64 2] 47)).drew) g sp := by
            rw [← hsp, ← hg]; exact step_new w2 (plainS y)
          have hb3 : Below g w2 ((w2.alloc (.cells #[.string ⟨y.toArray⟩, .int .i64 1, .int .i64 2, .int .i64 2, .int .i64 2] 47)).drew) := by
            rw [← hg]; exact ((Below.refl _ _).alloc (Nat.le_refl _) _).drew
          rw [hg]
          generalize (w2.alloc (.cells #[.string ⟨y.toArray⟩, .int .i64 1, .int .i64 2, .int .i64 2, .int .i64 2] 47)).drew = w3 at *
          have HS3 := Lib.hid hs3
          have hg1 : wr.heap.size ≤ g := by rw [← hg]; exact HB2.out.size
          have hwg : w.heap.size ≤ g := by omega
          have hg3 : g < w3.heap.size := hs3.lt
          have HB3 : Hid (Below wr.heap.size wr w3) := Lib.hid (HB2.out.trans (hb3.mono hg1))
          have HG3 : Hid (PG w3) := Lib.hid (HG2.out.keep hb3 (by rw [← hg]; exact HG2.out.lt))
          have HGB : Hid (PGB g) := Lib.hid (by rw [← hg]; exact HG2.out.lt)
          have HW3 : Hid (WAt w3 b 0 ws) := Lib.hid (HW.out.below (HB.out.trans (HB3.out.mono HBB.out)) HBl.out)
          have HSp := Lib.hid hsp
          have H82 : Hid (l.length ≤ 7) := Lib.hid (by rw [HN1.out]; have := H8.out; omega)
          clear hs3 hb3 hg hsp u0 u1 u2 u3 v0 v1 v2 v3 vw hcell2 hb2l hbB hy
          by_cases hk2 : k + 1 < N
          · obtain ⟨y2, hy2⟩ : ∃ y2, ws[k + 1]? = some y2 := ⟨_, List.getElem?_eq_getElem (by rw [HN.out]; exact hk2)⟩
            have hc2 : w3.cell? ⟨b, k + 1, none⟩ = some (.string ⟨y2.toArray⟩) := by
              have := HW3.out (k + 1) y2 hy2
              simpa using this
            have hdr2 : ws.drop (k + 1) = y2 :: ws.drop (k + 1 + 1) := by
              have h0 := (List.getElem?_eq_some_iff.1 hy2).1
              rw [List.drop_eq_getElem_cons h0]
              rw [List.getElem?_eq_getElem h0] at hy2
              cases hy2; rfl
            have hk2i : (k : Int) + 1 < (N : Int) := by omega
            have hk2z : (0 : Int) ≤ (k : Int) + 1 := by omega
            have HHp : Hid (∀ W, Calls Tryd.prog 28 #[.string ⟨y2.toArray⟩, .string ⟨#[91]⟩] W fun e w' => e = .returned (.bool (decide (y2.head? = some 91))) ∧ W = w') := Lib.hid (fun W => by
              refine (Tryd.strings_HasPrefix ⟨y2.toArray⟩ ⟨#[91]⟩ W).mono fun e w' h => ⟨?_, h.2.symm⟩
              rw [h.1]
              show Ending.returned (Value.bool (Lib.hasPrefix y2.toArray.toList [91])) = _
              rw [show y2.toArray.toList = y2 from by simp, prefix_open])
            have HDr2 := Lib.hid hdr2
            have HY2 := Lib.hid hy2
            clear hdr2 hy2
            by_cases h91 : y2.head? = some 91
            · rw [decide_eq_true h91] at HHp
              have hdl : (ws.drop (k + 1)).length = N - (k + 1) := by rw [List.length_drop, HN.out]
              have hdl2 : (ws.drop (k + 1 + 1)).length = N - (k + 1) - 1 := by rw [List.length_drop, HN.out]; omega
              have hbr := bracket_any g b (k + 1) (N - (k + 1)) (cp - (k + 1)) sp y2 (ws.drop (k + 1 + 1)) (ws.drop (k + 1)) w3 HG3.out HGB.out HS3.out (by have := HBl.out; omega) (fun i z hz => by
                have := HW3.out (k + 1 + i) z (by rw [← hz, List.getElem?_drop])
                simpa using this) HDr2.out hdl (by omega) (by omega) h91 (fun x hx => (HNe.out x (List.mem_of_mem_drop hx)).2)
              have hA4 : A = brkR (k + 1) l (y2.tail :: ws.drop (k + 1 + 1)) 0 (brk sp false y2.tail (ws.drop (k + 1 + 1)) 0) := by
                rw [HA2.out, HSp.out, HDr2.out, line_brk h91]
              cases hq : brk sp false y2.tail (ws.drop (k + 1 + 1)) 0 with
              | error ce =>
                have hce := brk_err _ _ _ _ _ _ hq
                rw [hdl2] at hce
                rw [hq] at hbr hA4
                have HBr : Hid (Calls Tryd.prog 29 #[.pointer (some ⟨g, 0, none⟩), .slice (some ⟨b, k + 1, none⟩) (N - (k + 1)) (cp - (k + 1))] w3 fun e w' => e = .returned (.tuple #[.int .i64 (ce : Int), .bool false]) ∧ Below g w3 w') := Lib.hid (hbr.mono fun e w' h => ⟨h.2, h.1⟩)
                have HE : Hid (A = .error (k + 1 + ce + 1)) := Lib.hid hA4
                clear hbr hA4 hq hdl hdl2 h91
                go_wp2_with (first | (go_at_call 28; refine (HHp.out _).mono ?_; rintro e w4 ⟨rfl, rfl⟩) | (go_at_call 29; refine HBr.out.mono ?_; rintro e w5 ⟨rfl, hb5⟩; have HB5 := Lib.hid (HB3.out.trans (hb5.mono hg1)); clear hb5))
                go_ret2
                exact StpR.bad HE.out (HB.out.trans (HB5.out.mono HBB.out)) none 0 (by omega) (by go_num)
              | ok q =>
                obtain ⟨s2, m⟩ := q
                have hm := brk_lt _ _ _ _ _ _ _ hq
                rw [hdl2] at hm
                obtain ⟨hm1, hm2⟩ := hm
                rw [hq] at hbr hA4
                have HBr : Hid (Calls Tryd.prog 29 #[.pointer (some ⟨g, 0, none⟩), .slice (some ⟨b, k + 1, none⟩) (N - (k + 1)) (cp - (k + 1))] w3 fun e w' => e = .returned (.tuple #[.int .i64 (m : Int), .bool true]) ∧ StepAt w' g s2 ∧ Below g w3 w') := Lib.hid (hbr.mono fun e w' h => ⟨h.2.1, h.2.2, h.1⟩)
                have HE : Hid (A = lineP (ws.drop (k + 1 + m)) (k + 1 + m) (l ++ [s2]) true) := Lib.hid (by
                  rw [hA4]
                  show lineP ((y2.tail :: ws.drop (k + 1 + 1)).drop (m - 0)) (k + 1 + m) (l ++ [s2]) true = _
                  have : m - 0 = (m - 1) + 1 := by omega
                  rw [this, List.drop_succ_cons, List.drop_drop]
                  congr 2
                  omega)
                clear hbr hA4 hq hdl hdl2 h91
                go_upto_region 13 with (first | (go_at_call 28; refine (HHp.out _).mono ?_; rintro e w4 ⟨rfl, rfl⟩) | (go_at_call 29; refine HBr.out.mono ?_; rintro e w4 ⟨rfl, hs4, hb4⟩; have HB4 := Lib.hid (HB3.out.trans (hb4.mono hg1)); have HS4 := Lib.hid hs4; have hz4 := hb4.size; clear hb4 hs4))
                obtain ⟨c0, c1, c2, c3, c4⟩ := HS4.out.cellsOf
                go_wp2_with (first | (at_builtin; refine wpList_append_own _ rfl _ _ 25 rfl w.heap.size 47 i9 (.agg #[.string ⟨#[]⟩, .int .i64 0, .int .i64 0, .int .i64 0, .int .i64 0]) 5 48 Tryd.underlying25 hi hz0 hz1 hz2 rfl (by decide) _ _ _ rfl ((own_below HSn.out HB4.out).alloc _) ⟨w4.heap.size, 0, none⟩ 1 1 [.string ⟨s2.src.toArray⟩, .int .i64 s2.d0, .int .i64 s2.d1, .int .i64 s2.d2, .int .i64 s2.d3] rfl rfl (newN w4 [.string ⟨s2.src.toArray⟩, .int .i64 s2.d0, .int .i64 s2.d1, .int .i64 s2.d2, .int .i64 s2.d3] _) (by simp [Value.oneCell']) (by unfold maxLen; omega) (by omega) (by show w.heap.size ≤ (w4.heap.push _).size; simp; omega) ?_; intro v' w5 hown5 hg5 _; have HO5 := Lib.hid hown5; have HG5 := Lib.hid hg5; clear hown5 hg5))
                go_roundw
                case rel => exact ⟨k + 1 + m, l ++ [s2], true, by omega, by omega, by go_num, StepsC.push2 HO5.out HN1.out, ((HB.out.trans (HB4.out.mono HBB.out)).alloc (by omega) _).grown HG5.out (by show w.heap.size ≤ (w4.heap.push _).size; simp; omega) (fun g hg => (HSn.out.lt g hg).1), by rw [List.length_append]; have := H82.out; simp; omega, HE.out, fun y hy h => .inr rfl⟩
                case measure => simp [intOf]; omega
            · rw [decide_eq_false h91] at HHp
              obtain ⟨c0, c1, c2, c3, c4⟩ := HS3.out.cellsOf
              go_wp2_with (first | (go_at_call 28; refine (HHp.out _).mono ?_; rintro e w4 ⟨rfl, rfl⟩) | (at_builtin; refine wpList_append_own _ rfl _ _ 25 rfl w.heap.size 47 i9 (.agg #[.string ⟨#[]⟩, .int .i64 0, .int .i64 0, .int .i64 0, .int .i64 0]) 5 48 Tryd.underlying25 hi hz0 hz1 hz2 rfl (by decide) _ _ _ rfl ((own_below HSn.out HB3.out).alloc _) ⟨w3.heap.size, 0, none⟩ 1 1 [.string ⟨sp.src.toArray⟩, .int .i64 sp.d0, .int .i64 sp.d1, .int .i64 sp.d2, .int .i64 sp.d3] rfl rfl (newN w3 [.string ⟨sp.src.toArray⟩, .int .i64 sp.d0, .int .i64 sp.d1, .int .i64 sp.d2, .int .i64 sp.d3] _) (by simp [Value.oneCell']) (by unfold maxLen; omega) (by omega) (by show w.heap.size ≤ (w3.heap.push _).size; simp; omega) ?_; intro v' w5 hown5 hg5 _; have HO5 := Lib.hid hown5; have HG5 := Lib.hid hg5; clear hown5 hg5))
              go_roundw
              case rel => exact ⟨k + 1, l ++ [sp], false, by omega, by omega, by go_num, StepsC.push2 HO5.out HN1.out, ((HB.out.trans (HB3.out.mono HBB.out)).alloc (by omega) _).grown HG5.out (by show w.heap.size ≤ (w3.heap.push _).size; simp; omega) (fun g hg => (HSn.out.lt g hg).1), by rw [List.length_append]; have := H82.out; simp; omega, by rw [HA2.out, HSp.out], fun y hy h => by have := HY2.out.symm.trans hy; cases this; exact absurd h h91⟩
              case measure => simp [intOf]; omega
          · have hk2i : ¬ ((k : Int) + 1 < (N : Int)) := by omega
            obtain ⟨c0, c1, c2, c3, c4⟩ := HS3.out.cellsOf
            go_wp2_with (first | (at_builtin; refine wpList_append_own _ rfl _ _ 25 rfl w.heap.size 47 i9 (.agg #[.string ⟨#[]⟩, .int .i64 0, .int .i64 0, .int .i64 0, .int .i64 0]) 5 48 Tryd.underlying25 hi hz0 hz1 hz2 rfl (by decide) _ _ _ rfl ((own_below HSn.out HB3.out).alloc _) ⟨w3.heap.size, 0, none⟩ 1 1 [.string ⟨sp.src.toArray⟩, .int .i64 sp.d0, .int .i64 sp.d1, .int .i64 sp.d2, .int .i64 sp.d3] rfl rfl (newN w3 [.string ⟨sp.src.toArray⟩, .int .i64 sp.d0, .int .i64 sp.d1, .int .i64 sp.d2, .int .i64 sp.d3] _) (by simp [Value.oneCell']) (by unfold maxLen; omega) (by omega) (by show w.heap.size ≤ (w3.heap.push _).size; simp; omega) ?_; intro v' w5 hown5 hg5 _; have HO5 := Lib.hid hown5; have HG5 := Lib.hid hg5; clear hown5 hg5))
            go_roundw
            case rel => exact ⟨k + 1, l ++ [sp], false, by omega, by omega, by go_num, StepsC.push2 HO5.out HN1.out, ((HB.out.trans (HB3.out.mono HBB.out)).alloc (by omega) _).grown HG5.out (by show w.heap.size ≤ (w3.heap.push _).size; simp; omega) (fun g hg => (HSn.out.lt g hg).1), by rw [List.length_append]; have := H82.out; simp; omega, by rw [HA2.out, HSp.out], fun y hy => by have := (List.getElem?_eq_some_iff.1 hy).1; rw [HN.out] at this; omega⟩
            case measure => simp [intOf]; omega
    · obtain rfl : k = N := by omega
      rw [List.drop_of_length_le (by rw [HN.out]; exact Nat.le_refl _), lineP_nil] at hA
      by_cases h0 : l.length = 0
      · rw [if_pos h0] at hA
        have HA := Lib.hid hA
        have h00 : n1 = 0 := by rw [← hn1]; exact h0
        subst h00
        clear hA h0 hcond hS hB hn1 hbB
        go_wp2
        go_ret2
        exact StpR.bad HA.out HB.out lp lc (by omega) rfl
      · rw [if_neg h0] at hA
        have HA := Lib.hid hA
        have HNil : Hid (l ≠ []) := Lib.hid (fun e => h0 (by rw [e]; rfl))
        have HS2 : Hid (StepsC w.heap.size wr (.slice lp n1 lc) l) := Lib.hid (by rw [← HN1.out]; exact HS.out)
        clear hA h0 hcond hS hB hn1 hbB
        go_wp2
        go_ret2
        exact StpR.good HA.out HNil.out HS2.out HB.out
end Go.Proofs.YtpighkpdnifejaaDoor

namespace Go.Pol
open Go.Tx
/-- A line that is told: words, none of them empty or long. -/
structure FineP (t : Nat × List (List UInt8)) (m : Nat) : Prop where
  no : t.1 ≤ m
  ne : t.2 ≠ []
  few : t.2.length ≤ 513
  word : ∀ x ∈ t.2, x ≠ [] ∧ x.length ≤ 1000000
theorem stepW_fine {n : Nat} {u : List UInt8 × List (List UInt8)} {c : UInt8} (h1 : u.1.length ≤ n) (h2 : ∀ x ∈ u.2, x ≠ [] ∧ x.length ≤ n) : (stepW blankN u c).1.length ≤ n + 1 ∧ ∀ x ∈ (stepW blankN u c).2, x ≠ [] ∧ x.length ≤ n + 1 := by
  unfold stepW
  split
  · split
    · exact ⟨by simp, fun x hx => ⟨(h2 x hx).1, Nat.le_succ_of_le (h2 x hx).2⟩⟩
    · rename_i hne
      refine ⟨by simp, fun x hx => ?_⟩
      rcases List.mem_append.1 hx with hx | hx
      · exact ⟨(h2 x hx).1, Nat.le_succ_of_le (h2 x hx).2⟩
      · rw [List.mem_singleton.1 hx]; exact ⟨hne, by omega⟩
  · exact ⟨by simp; omega, fun x hx => ⟨(h2 x hx).1, Nat.le_succ_of_le (h2 x hx).2⟩⟩
theorem fold_fine : ∀ (l : List UInt8) (n : Nat) (u : List UInt8 × List (List UInt8)), u.1.length ≤ n → (∀ x ∈ u.2, x ≠ [] ∧ x.length ≤ n) → (l.foldl (stepW blankN) u).1.length ≤ n + l.length ∧ ∀ x ∈ (l.foldl (stepW blankN) u).2, x ≠ [] ∧ x.length ≤ n + l.length
  | [], n, u, h1, h2 => ⟨h1, h2⟩
  | c :: l, n, u, h1, h2 => by
    have h3 := stepW_fine (c := c) h1 h2
    have h4 := fold_fine l (n + 1) _ h3.1 h3.2
    rw [List.foldl_cons, List.length_cons]
    exact ⟨by omega, fun x hx => ⟨(h4.2 x hx).1, by have := (h4.2 x hx).2; omega⟩⟩
theorem hashCut_le (l : List UInt8) : (hashCut l).length ≤ l.length := by
  unfold hashCut
  exact (List.takeWhile_sublist _).length_le
theorem wordsOf_fine (l : List UInt8) : (wordsOf l).length ≤ 513 ∧ ∀ x ∈ wordsOf l, x ≠ [] ∧ x.length ≤ 1000000 := by
  unfold wordsOf
  cases hb : badSeg l with
  | true => simp
  | false =>
    simp only [Bool.false_eq_true, if_false]
    have hl : l.length ≤ 512 := by
      unfold badSeg at hb
      simp only [Bool.or_eq_false_iff, decide_eq_false_iff_not] at hb
      omega
    have hc := hashCut_le l
    have h1 := fold_len (hashCut l) ([], [])
    have h2 := fold_fine (hashCut l) 0 ([], []) (by simp) (by simp)
    unfold wordsL closeW
    simp only [List.length_nil, Nat.zero_add] at h1 h2
    split
    · exact ⟨by omega, fun x hx => ⟨(h2.2 x hx).1, by have := (h2.2 x hx).2; omega⟩⟩
    · rename_i hne
      refine ⟨by simp; omega, fun x hx => ?_⟩
      rcases List.mem_append.1 hx with hx | hx
      · exact ⟨(h2.2 x hx).1, by have := (h2.2 x hx).2; omega⟩
      · rw [List.mem_singleton.1 hx]; exact ⟨hne, by omega⟩
theorem tell_fineP (no m : Nat) (l : List UInt8) (h : no ≤ m) : (∀ t ∈ tell no l, FineP t m) ∧ (tell no l).length ≤ 1 := by
  unfold tell
  split
  · simp
  · rename_i hne
    refine ⟨fun t ht => ?_, by simp⟩
    rw [List.mem_singleton.1 ht]
    exact ⟨h, hne, (wordsOf_fine l).1, (wordsOf_fine l).2⟩
theorem toldG_fineP (m : Nat) : ∀ (l : List UInt8) (no : Nat) (cur : List UInt8), no + l.length ≤ m → (∀ t ∈ toldG no cur l, FineP t m) ∧ (toldG no cur l).length ≤ l.length + 1
  | [], no, cur, h => tell_fineP no m cur (by simpa using h)
  | c :: l, no, cur, h => by
    simp only [List.length_cons] at h
    unfold toldG
    split
    · have h1 := toldG_fineP m l (no + 1) [] (by omega)
      have h2 := tell_fineP no m cur (by omega)
      refine ⟨fun t ht => ?_, by simp; omega⟩
      rcases List.mem_append.1 ht with ht | ht
      · exact h2.1 t ht
      · exact h1.1 t ht
    · have h1 := toldG_fineP m l no (cur ++ [c]) (by omega)
      exact ⟨h1.1, by simp; omega⟩
/-- The steps of five databases, as values. -/
def pArr (vs : Nat → Value) : Array Value := #[vs 0, vs 1, vs 2, vs 3, vs 4]
def nilS : Nat → Value := fun _ => .slice none 0 0
def updV (vs : Nat → Value) (k : Nat) (v : Value) : Nat → Value := fun j => if j = k then v else vs j
theorem pArr_set (vs : Nat → Value) (k : Nat) (v : Value) (hk : k < 5) : (pArr vs).setIfInBounds k v = pArr (updV vs k v) := by
  have h : k = 0 ∨ k = 1 ∨ k = 2 ∨ k = 3 ∨ k = 4 := by omega
  rcases h with rfl | rfl | rfl | rfl | rfl <;> rfl
theorem pArr_at (vs : Nat → Value) (k : Nat) (hk : k < 5) : (pArr vs)[k]? = some (vs k) := by
  have h : k = 0 ∨ k = 1 ∨ k = 2 ∨ k = 3 ∨ k = 4 := by omega
  rcases h with rfl | rfl | rfl | rfl | rfl <;> rfl
theorem lineP_step1 {T : List (Nat × List (List UInt8))} {k no : Nat} {ws : List (List UInt8)} (h : T[k]? = some (no, ws)) : T.drop k = (no, ws) :: T.drop (k + 1) := by
  have h0 := (List.getElem?_eq_some_iff.1 h).1
  rw [List.drop_eq_getElem_cons h0]
  rw [List.getElem?_eq_getElem h0] at h
  rw [Option.some.inj h]
end Go.Pol
namespace Go.Proofs.YtpighkpdnifejaaDoor
open Go.RowKit Go.Lib Go.Tx Go.Pol
theorem results_row_tmp {P : Program} {fn : Func} {p u : Tmp} {ty : TypeId} (h : fn.results = #[.cell p ty, .tmp u]) (tmps : Array Value) (w : World) (g : Nat) (t : TypeId) (cs : Array Value) (fr : Nat × Nat) (d : TypeDesc) (v : Value)
    (hp : tmps.getD p undef = .pointer (some ⟨g, 0, none⟩)) (hv : tmps.getD u undef = v) (hg : w.heap[g]? = some (.cells cs t fr))
    (hu : P.underlying ty = some d) (hd : (match d with | .struct _ | .array _ _ => true | _ => false) = true) (hi : (P.info? ty).map (·.size) = some cs.size) :
    (results fn tmps).run P w = .ok (.tuple #[.agg cs, v]) w := by
  rw [results_cell_tmp h, hp, hv]
  simp [asAddr, run_loadVar_row w g t ty cs fr d hg hu hd hi, Result.andThen]
/-- A row of steps stays where another block is written. -/
theorem StepsC.other {B : Nat} {w w' : World} {v : Value} {ls : List Stp} {g : Nat} {arr : Array Value} {e : TypeId} {fr : Nat × Nat} (h : StepsC B w v ls) (hg : w.heap[g]? = some (.cells arr e fr)) (he : e ≠ 47) (hs : ∀ j, j ≠ g → w'.heap[j]? = w.heap[j]?) : StepsC B w' v ls := by
  refine ⟨h.1, ?_⟩
  rcases h.2 with q | ⟨b, cap, cur, a, a2, a3, a4⟩
  · exact .inl q
  · refine .inr ⟨b, cap, cur, a, a2, ?_, a4⟩
    rw [hs b (fun e2 => ?_)]
    · exact a3
    · subst e2
      rw [hg] at a3
      cases a3
      exact he rfl
theorem setCell_else (w : World) (a : Addr) (v : Value) : ∀ j, j ≠ a.block → (w.setCell a v).heap[j]? = w.heap[j]? := fun j hj => heap_setCell_other w a j v hj
structure PolAt (B : Nat) (w : World) (g : Nat) (e : TypeId) (vs : Nat → Value) (P : Nat → List Stp) : Prop where
  blk : w.heap[g]? = some (.cells (pArr vs) e (0, 0))
  st : ∀ j, j < 5 → StepsC B w (vs j) (P j)
theorem PolAt.below {B : Nat} {w w' : World} {g : Nat} {e : TypeId} {vs : Nat → Value} {P : Nat → List Stp} (h : PolAt B w g e vs P) (hb : Below w.heap.size w w') : PolAt B w' g e vs P :=
  ⟨(hb.block g (Array.getElem?_eq_some_iff.1 h.blk).1).trans h.blk, fun j hj => (h.st j hj).below hb⟩
theorem PolAt.set {B : Nat} {w : World} {g : Nat} {e : TypeId} {vs : Nat → Value} {P : Nat → List Stp} (h : PolAt B w g e vs P) (he : e ≠ 47) (k : Nat) (hk : k < 5) (v : Value) (l : List Stp) (hv : StepsC B w v l) : PolAt B (w.setCell ⟨g, k, none⟩ v) g e (updV vs k v) (updP P k l) := by
  refine ⟨?_, fun j hj => ?_⟩
  · rw [set_blk h.blk, pArr_set vs k v hk]
  · unfold updV updP
    by_cases hjk : j = k
    · rw [if_pos hjk, if_pos hjk]
      exact hv.other h.blk he (setCell_else w ⟨g, k, none⟩ v)
    · rw [if_neg hjk, if_neg hjk]
      exact (h.st j hj).other h.blk he (setCell_else w ⟨g, k, none⟩ v)
theorem PolAt.cell {B : Nat} {w : World} {g : Nat} {e : TypeId} {vs : Nat → Value} {P : Nat → List Stp} (h : PolAt B w g e vs P) (k : Nat) (hk : k < 5) : w.cell? ⟨g, k, none⟩ = some (vs k) ∧ w.frozen? ⟨g, k, none⟩ = false := by
  refine ⟨?_, by simp [World.frozen?, h.blk]⟩
  unfold World.cell?
  rw [h.blk]
  exact pArr_at vs k hk
theorem PolAt.nil (B : Nat) (w : World) (g : Nat) (e : TypeId) (h : w.heap[g]? = some (.cells (pArr nilS) e (0, 0))) : PolAt B w g e nilS (fun _ => []) := ⟨h, fun j _ => World.ownsRow_nil _ _ _ _⟩
def PParR (w : World) (r : Except (Nat × Nat) (Nat → List Stp)) (e : Ending) (w' : World) : Prop := Below w.heap.size w w' ∧ match r with
  | .error q => ∃ b, e = .returned (.tuple #[.agg (pArr nilS), .iface 36 (.pointer (some ⟨b, 0, none⟩))]) ∧ w'.heap[b]? = some (.cells #[.int .i64 (q.1 : Int), .int .i64 (q.2 : Int), .iface 40 (.int .i64 5)] 39 (0, 0)) ∧ w.heap.size ≤ b
  | .ok P => ∃ vs, e = .returned (.tuple #[.agg (pArr vs), .nilIface]) ∧ ∀ j, j < 5 → StepsC w.heap.size w' (vs j) (P j)
/-- The words of a line, read at a later world. -/
theorem words_at9 {B : Nat} {w w' : World} {pw : Option Addr} {m : Nat} {ws : List (List UInt8)} (h : Strs B w (.slice pw m m) ws) (hm : m = ws.length) (hsame : ∀ j, B ≤ j → j < w.heap.size → w'.heap[j]? = w.heap[j]?) (hs : w.heap.size ≤ w'.heap.size) (h0 : ws ≠ []) :
    ∃ A, pw = some ⟨A, 0, none⟩ ∧ A < w'.heap.size ∧ WAt w' A 0 ws := by
  rcases h with ⟨h, h2⟩ | ⟨A, h1, h2, h3⟩
  · exact absurd h2 h0
  · cases h1
    have hlt := (World.ownsRow.lt h3 A rfl).2
    refine ⟨A, rfl, by omega, fun j l hj => ?_⟩
    have hjl := (List.getElem?_eq_some_iff.1 hj).1
    rw [Nat.zero_add, World.cell?_of_block (a := ⟨A, j, none⟩) (hsame A h2 hlt), World.ownsRow.cellAt h3 j (by omega), List.getElem?_map, hj]
    rfl
end Go.Proofs.YtpighkpdnifejaaDoor

namespace Go.Pol
open Go.Tx
theorem parse_db {no : Nat} {x0 : List UInt8} {r : List (List UInt8)} {T : List (Nat × List (List UInt8))} {P : Nat → List Stp} (h : dbN x0 = 0 ∨ 0 < (P (dbN x0).toNat).length) : parseP ((no, x0 :: r) :: T) P = .error (no, 1) := by
  have hh : (x0 :: r).headD [] = x0 := rfl
  unfold parseP
  simp only [hh]
  by_cases h1 : atV dbW x0 < 1
  · rw [if_pos (.inl h1)]
  · have : dbN x0 = atV dbW x0 := by unfold dbN; rw [if_neg h1]
    rw [this] at h
    rw [if_pos (.inr (by rcases h with h | h; · omega
                         · exact h))]
theorem parse_line {no : Nat} {x0 : List UInt8} {r : List (List UInt8)} {T : List (Nat × List (List UInt8))} {P : Nat → List Stp} (h : 0 < dbN x0) (h2 : (P (dbN x0).toNat).length = 0) : parseP ((no, x0 :: r) :: T) P = match lineP ((x0 :: r).drop 1) 1 [] false with
    | .error c => .error (no, c)
    | .ok l => parseP T (updP P (dbN x0).toNat l) := by
  have hh : (x0 :: r).headD [] = x0 := rfl
  have h1 : ¬ atV dbW x0 < 1 := fun h1 => by unfold dbN at h; rw [if_pos h1] at h; omega
  have h3 : dbN x0 = atV dbW x0 := by unfold dbN; rw [if_neg h1]
  rw [h3] at h2 ⊢
  conv => lhs; unfold parseP
  simp only [hh]
  rw [if_neg (fun e => by rcases e with e | e; · exact h1 e
                          · omega)]
  rfl
theorem dbN_bd (l : List UInt8) : 0 ≤ dbN l ∧ dbN l ≤ 4 := by
  have := atV_bd dbW l
  have h : (dbW.length : Int) = 5 := rfl
  unfold dbN; split <;> omega
end Go.Pol
namespace Go.Proofs.YtpighkpdnifejaaDoor
open Go.RowKit Go.Lib Go.Tx Go.Pol
theorem sz_pol : (Tryd.prog.info? 28).map (·.size) = some 5 := by kernel_rfl
theorem nil_one : (pArr nilS).all (·.oneCell') = true := by simp [pArr, nilS, Value.oneCell']
theorem StepsC.one {B : Nat} {w : World} {v : Value} {ls : List Stp} (h : StepsC B w v ls) : v.oneCell' = true := by
  obtain ⟨p, c, rfl⟩ := h.shape
  rfl
theorem PolAt.one {B : Nat} {w : World} {g : Nat} {e : TypeId} {vs : Nat → Value} {P : Nat → List Stp} (h : PolAt B w g e vs P) : (pArr vs).all (·.oneCell') = true := by
  have h0 := (h.st 0 (by decide)).one
  have h1 := (h.st 1 (by decide)).one
  have h2 := (h.st 2 (by decide)).one
  have h3 := (h.st 3 (by decide)).one
  have h4 := (h.st 4 (by decide)).one
  simp [pArr, h0, h1, h2, h3, h4]
/-- What holds at the head of a round. -/
structure PRI (w w2 wr : World) (vs : Nat → Value) (P : Nat → List Stp) : Prop where
  pol : PolAt w.heap.size wr (w.heap.size + 1) 28 vs P
  res : wr.heap[w.heap.size]? = some (.cells (pArr nilS) 28 (0, 0))
  bel : Below w.heap.size w wr
  old : ∀ j, w.heap.size + 2 ≤ j → j < w2.heap.size → wr.heap[j]? = w2.heap[j]?
  big : w2.heap.size ≤ wr.heap.size
theorem PRI.below {w w2 wr w' : World} {vs : Nat → Value} {P : Nat → List Stp} (h : PRI w w2 wr vs P) (hb : Below wr.heap.size wr w') : PRI w w2 w' vs P :=
  ⟨h.pol.below hb, (hb.block _ (Array.getElem?_eq_some_iff.1 h.res).1).trans h.res, h.bel.trans (hb.mono h.bel.size), fun j h1 h2 => (hb.block j (by have := h.big; omega)).trans (h.old j h1 h2), Nat.le_trans h.big hb.size⟩
theorem PRI.set {w w2 wr : World} {vs : Nat → Value} {P : Nat → List Stp} (h : PRI w w2 wr vs P) (k : Nat) (hk : k < 5) (v : Value) (l : List Stp) (hv : StepsC w.heap.size wr v l) : PRI w w2 (wr.setCell ⟨w.heap.size + 1, k, none⟩ v) (updV vs k v) (updP P k l) :=
  ⟨h.pol.set (by decide) k hk v l hv, (setCell_else wr _ v _ (by show w.heap.size ≠ w.heap.size + 1; omega)).trans h.res, h.bel.setCell (by show w.heap.size ≤ w.heap.size + 1; omega) v, fun j h1 h2 => (setCell_else wr _ v j (by show j ≠ w.heap.size + 1; omega)).trans (h.old j h1 h2), by have := h.big; simpa [World.setCell] using this⟩
theorem PParR.bad {w w' : World} {r : Except (Nat × Nat) (Nat → List Stp)} {no col b : Nat} (h : r = .error (no, col)) (hb : Below w.heap.size w w') (hh : w'.heap[b]? = some (.cells #[.int .i64 (no : Int), .int .i64 (col : Int), .iface 40 (.int .i64 5)] 39 (0, 0))) (hB : w.heap.size ≤ b) :
    PParR w r (.returned (.tuple #[.agg (pArr nilS), .iface 36 (.pointer (some ⟨b, 0, none⟩))])) w' := by subst h; exact ⟨hb, b, rfl, hh, hB⟩
theorem PParR.good {w w' : World} {r : Except (Nat × Nat) (Nat → List Stp)} {P : Nat → List Stp} {vs : Nat → Value} (h : r = .ok P) (hb : Below w.heap.size w w') (hs : ∀ j, j < 5 → StepsC w.heap.size w' (vs j) (P j)) :
    PParR w r (.returned (.tuple #[.agg (pArr vs), .nilIface])) w' := by subst h; exact ⟨hb, vs, rfl, hs⟩
/-- How a fault ends Parse. -/
theorem PRI.ends {w w2 wr w9 : World} {vs : Nat → Value} {P : Nat → List Stp} (h : PRI w w2 wr vs P) (o : Obj) (no col : Nat) (r : Except (Nat × Nat) (Nat → List Stp)) (hr : r = .error (no, col)) (h9 : w9 = (wr.alloc o).alloc (.cells #[.int .i64 (no : Int), .int .i64 (col : Int), .iface 40 (.int .i64 5)] 39)) :
    w9.heap[w.heap.size]? = some (.cells (pArr nilS) 28 (0, 0)) ∧
    (w9.setRow w.heap.size (pArr nilS)).heap[w.heap.size]? = some (.cells (pArr nilS) 28 (0, 0)) ∧
    PParR w r (.returned (.tuple #[.agg (pArr nilS), .iface 36 (.pointer (some ⟨wr.heap.size + 1, 0, none⟩))])) (w9.setRow w.heap.size (pArr nilS)) := by
  subst h9
  have hb : Below wr.heap.size wr ((wr.alloc o).alloc (.cells #[.int .i64 (no : Int), .int .i64 (col : Int), .iface 40 (.int .i64 5)] 39)) := ((Below.refl _ wr).alloc (Nat.le_refl _) _).alloc (by show wr.heap.size ≤ (wr.heap.push _).size; simp) _
  have h2 := h.below hb
  refine ⟨h2.res, setRow_heap _ _ _ _ _ _ h2.res, PParR.bad hr (below_setRow h2.bel (Nat.le_refl _) _) ?_ (by have := h.bel.size; omega)⟩
  rw [setRow_other _ _ _ _ (by have := h.bel.size; omega)]
  exact heap_alloc2_new wr _ _
set_option maxHeartbeats 4000000 in
set_option maxRecDepth 100000 in
theorem pparse_core (a : Option Addr) (n c : Nat) (T : List (Nat × List (List UInt8))) (w : World) (hg : PG w) (hfine : ∀ t ∈ T, FineP t 2000000) (hfew : T.length ≤ 1000001) (hlines : ∀ W, Below w.heap.size w W → Calls Tryd.prog 14 #[.slice a n c] W (LinesR W T)) :
    Calls Tryd.prog 9 #[.slice a n c] w (PParR w (parseP T (fun _ => []))) := by
  obtain ⟨A, hA⟩ : ∃ A, parseP T (fun _ => []) = A := ⟨_, rfl⟩
  rw [hA]
  have HA0 := Lib.hid hA
  have HG := Lib.hid hg
  have HLn := Lib.hid hlines
  have HFine := Lib.hid hfine
  clear hA hg hlines hfine
  go_enter Tryd.func9, Tryd.ntmps9
  go_wp2_with (go_at_call 14; refine (HLn.out _ (((Below.refl _ w).alloc (Nat.le_refl _) _).alloc (by show w.heap.size ≤ (w.heap.push _).size; simp) _)).mono ?_; rintro e w2 ⟨v, rfl, hT, hb2⟩; obtain ⟨pT, cT, rfl⟩ := hT.shape)
  have hs1 : ((w.alloc (.cells (pArr nilS) 28)).alloc (.cells (pArr nilS) 28)).heap.size = w.heap.size + 2 := by show ((w.heap.push _).push _).size = _; simp
  have hI : PRI w w2 w2 nilS (fun _ => []) := by
    have hb2' : Below (w.heap.size + 2) ((w.alloc (.cells (pArr nilS) 28)).alloc (.cells (pArr nilS) 28)) w2 := hb2.mono (Nat.le_of_eq hs1.symm)
    exact ⟨PolAt.nil _ _ _ _ ((hb2'.block _ (by omega)).trans (heap_alloc2_new w _ _)), (hb2'.block _ (by omega)).trans (heap_alloc2_old w _ _),
      (((Below.refl _ w).alloc (Nat.le_refl _) _).alloc (by show w.heap.size ≤ (w.heap.push _).size; simp) _).trans (hb2'.mono (by omega)), fun _ _ _ => rfl, Nat.le_refl _⟩
  have hs2 : w.heap.size + 2 ≤ w2.heap.size := Nat.le_trans (Nat.le_of_eq hs1.symm) hb2.size
  have HT : Hid (LinesAt (w.heap.size + 2) w2 (.slice pT T.length cT) T) := Lib.hid (Eq.mp (congrArg (fun B => LinesAt B w2 (.slice pT T.length cT) T) hs1) hT)
  have HI := Lib.hid hI
  clear hT hI hb2 hs1
  go_loopw [13] (fun i wr => ∃ (k : Nat) (vs : Nat → Value) (P : Nat → List Stp), k ≤ T.length ∧ i = .int .i64 k ∧ PRI w w2 wr vs P ∧ A = parseP (T.drop k) P) (fun i _ => T.length - (intOf i).toNat)
  case atStart => exact ⟨0, _, _, Nat.zero_le _, rfl, HI.out, HA0.out.symm⟩
  case round =>
    obtain ⟨k, vs, P, hk, rfl, hR, hA⟩ := hrel
    by_cases hlt : k < T.length
    · obtain ⟨⟨no, ws⟩, hx⟩ : ∃ x, T[k]? = some x := ⟨_, List.getElem?_eq_getElem hlt⟩
      have hf := HFine.out (no, ws) (List.mem_of_getElem? hx)
      obtain ⟨gT, cap, e, hcap, hcm, hBg, hrd⟩ := HT.out.read (by omega)
      cases e
      obtain ⟨hc0, pw, hc1, hstr⟩ := hrd k no ws hx
      have hgl : gT < w2.heap.size := block_lt_of_cell hc0
      have hgs : wr.heap[gT]? = w2.heap[gT]? := hR.old gT hBg hgl
      have hd0 : wr.cell? ⟨gT, k * 2, none⟩ = some (.int .i64 (no : Int)) := by rw [Nat.mul_comm, World.cell?_of_block (a := ⟨gT, 2 * k, none⟩) hgs]; exact hc0
      have hd1 : wr.cell? ⟨gT, k * 2 + 1, none⟩ = some (.slice pw ws.length ws.length) := by rw [Nat.mul_comm, World.cell?_of_block (a := ⟨gT, 2 * k + 1, none⟩) hgs]; exact hc1
      obtain ⟨Ab, rfl, hAl, hwd⟩ := words_at9 hstr rfl (w' := wr) hR.old hR.big hf.ne
      rw [lineP_step1 hx] at hA
      obtain ⟨x0, r, rfl⟩ : ∃ x0 r, ws = x0 :: r := by
        cases ws with
        | nil => exact absurd rfl hf.ne
        | cons x0 r => exact ⟨x0, r, rfl⟩
      have hx0 := (hf.word x0 (by simp)).1
      have hno : (no : Int) ≤ 2000000 := by have := hf.no; simp only at this; omega
      have hfw := hf.few
      simp only at hfw
      obtain ⟨N, hN⟩ : ∃ N, (x0 :: r).length = N := ⟨_, rfl⟩
      have hN1 : 1 ≤ N := by rw [← hN]; simp
      have hN2 : N ≤ 513 := by rw [← hN]; exact hfw
      rw [hN] at hd1
      have HN := Lib.hid hN
      have HW := Lib.hid hwd
      have HWd := Lib.hid hf.word
      have HR := Lib.hid hR
      have hw00 : wr.cell? ⟨Ab, 0, none⟩ = some (.string ⟨x0.toArray⟩) := hwd 0 x0 rfl
      obtain ⟨wl, hwl⟩ : ∃ wl, wr.alloc (.cells #[.int .i64 (no : Int), .slice (some ⟨Ab, 0, none⟩) N N] 53) = wl := ⟨_, rfl⟩
      have HBl : Hid (Below wr.heap.size wr wl) := Lib.hid (by rw [← hwl]; exact (Below.refl _ wr).alloc (Nat.le_refl _) _)
      have HRl := Lib.hid (hR.below HBl.out)
      have HGl : Hid (PG wl) := Lib.hid (HG.out.below HRl.out.bel)
      obtain ⟨d, hd⟩ : ∃ d : Nat, dbN x0 = (d : Int) := ⟨(dbN x0).toNat, by have := (dbN_bd x0).1; omega⟩
      have hd4 : d ≤ 4 := by have := (dbN_bd x0).2; omega
      have hdt : (dbN x0).toNat = d := by omega
      have HDb : Hid (Calls Tryd.prog 15 #[.string ⟨x0.toArray⟩] wl fun e w' => e = .returned (.int .i64 (d : Int)) ∧ wl = w') := Lib.hid (by
        have := dbOf_any ⟨x0.toArray⟩ wl HGl.out (by simpa using hx0)
        simpa [hd] using this)
      have HLd : Hid (wl.heap[wr.heap.size]? = some (.cells #[.int .i64 (no : Int), .slice (some ⟨Ab, 0, none⟩) N N] 53 (0, 0))) := Lib.hid (by rw [← hwl]; exact heap_alloc_new wr _)
      have hwl0 : wl.cell? ⟨Ab, 0, none⟩ = some (.string ⟨x0.toArray⟩) := (HBl.out.cell (p := ⟨Ab, 0, none⟩) hAl).trans hw00
      clear hR hc0 hc1 hrd hstr hf hx hgs hwd hfw hN hx0
      go_upto_region 5 with (fail)
      have l0 : wl.cell? ⟨wr.heap.size, 0, none⟩ = some (.int .i64 (no : Int)) := by unfold World.cell?; rw [HLd.out]; rfl
      have l1 : wl.cell? ⟨wr.heap.size, 1, none⟩ = some (.slice (some ⟨Ab, 0, none⟩) N N) := by unfold World.cell?; rw [HLd.out]; rfl
      clear hwl hd0 hd1 hw00
      obtain ⟨gl, hgle⟩ : ∃ gl, wr.heap.size = gl := ⟨_, rfl⟩
      rw [hgle] at l0 l1 HLd ⊢
      have HGle := Lib.hid hgle
      clear hgle
      have HD := Lib.hid hd
      have HDt := Lib.hid hdt
      have hA' := hA
      clear hd hdt hA
      go_upto_region 6 with (go_at_call 15; refine HDb.out.mono ?_; rintro e w3 ⟨rfl, rfl⟩)
      have pc := (HRl.out.pol.cell d (by omega)).1
      obtain ⟨pd, cd, hvd⟩ := (HRl.out.pol.st d (by omega)).shape
      rw [hvd] at pc
      clear hvd
      obtain ⟨m, hm⟩ : ∃ m, (P d).length = m := ⟨_, rfl⟩
      rw [hm] at pc
      by_cases hd0 : d = 0
      · have HE : Hid (A = .error (no, 1)) := Lib.hid (by
          rw [hA']
          exact parse_db (.inl (by rw [HD.out, hd0]; rfl)))
        have ed : ((d : Int) == 0) = true := by simp; omega
        clear hA' hm hd0
        go_wp2_with (first | (go_at_call 16; refine (wrong_any (no : Int) 0 _ wl (by omega) (by omega)).mono ?_; rintro e w9 ⟨rfl, hw9⟩; have HE9 := Lib.hid (HRl.out.ends _ no 1 A HE.out hw9); clear hw9) | (refine wpList_store_row rfl 28 (.tmp 2) (.tmp 32) rfl w.heap.size (pArr nilS) rfl rfl 28 (pArr nilS) HE9.out.1 sz_pol rfl nil_one ?_))
        refine bodyPost_ret (results_row_tmp rfl _ _ w.heap.size _ (pArr nilS) _ _ _ rfl rfl HE9.out.2.1 Tryd.underlying28 rfl sz_pol) rfl ?_
        exact HE9.out.2.2
      · have ed : ((d : Int) == 0) = false := by simp; omega
        have hd1 : 1 ≤ d := by omega
        clear hd0
        by_cases hm0 : 0 < m
        · have HE : Hid (A = .error (no, 1)) := Lib.hid (by
            rw [hA']
            exact parse_db (.inr (by rw [HDt.out, hm]; exact hm0)))
          have hmi : (0 : Int) < (m : Int) := by omega
          clear hA' hm hm0
          go_wp2_with (first | (go_at_call 16; refine (wrong_any (no : Int) 0 _ wl (by omega) (by omega)).mono ?_; rintro e w9 ⟨rfl, hw9⟩; have HE9 := Lib.hid (HRl.out.ends _ no 1 A HE.out hw9); clear hw9) | (refine wpList_store_row rfl 28 (.tmp 2) (.tmp 32) rfl w.heap.size (pArr nilS) rfl rfl 28 (pArr nilS) HE9.out.1 sz_pol rfl nil_one ?_))
          refine bodyPost_ret (results_row_tmp rfl _ _ w.heap.size _ (pArr nilS) _ _ _ rfl rfl HE9.out.2.1 Tryd.underlying28 rfl sz_pol) rfl ?_
          exact HE9.out.2.2
        · have hmi : ¬ (0 : Int) < (m : Int) := by omega
          have hA2 := hA'.trans (parse_line (by rw [HD.out]; omega) (by rw [HDt.out]; omega))
          have hso := stepsOf_any Ab N (x0 :: r) N wl HGl.out (Nat.lt_of_lt_of_le hAl HBl.out.size) (HW.out.below HBl.out hAl) HN.out hN1 (by omega) (Nat.le_refl _) HWd.out
          rw [HDt.out] at hA2
          clear hA' hm hm0
          cases hq : lineP ((x0 :: r).drop 1) 1 [] false with
          | error ce =>
            rw [hq] at hso hA2
            have HE : Hid (A = .error (no, ce)) := Lib.hid hA2
            have HSo : Hid (Calls Tryd.prog 17 #[.slice (some ⟨Ab, 0, none⟩) N N] wl fun e w' => ∃ p cp, e = .returned (.tuple #[.slice p 0 cp, .int .i64 ((ce : Int) - 1)]) ∧ Below wl.heap.size wl w' ∧ 1 ≤ ce ∧ ce ≤ 1001) := Lib.hid (hso.mono fun e w' h => by
              obtain ⟨hb, h1, h2, p, cp, he⟩ := h
              exact ⟨p, cp, he, hb, h1, h2⟩)
            clear hq hso hA2
            go_upto_region 9 with (go_at_call 17; refine HSo.out.mono ?_; rintro e w4 ⟨pq, cq, rfl, hb4, hce1, hce2⟩; have HB4 := Lib.hid hb4; clear hb4)
            have HR4 := Lib.hid (HRl.out.below HB4.out)
            have HL4 : Hid (w4.heap[gl]? = some (.cells #[.int .i64 (no : Int), .slice (some ⟨Ab, 0, none⟩) N N] 53 (0, 0))) := Lib.hid ((HB4.out.block gl (Array.getElem?_eq_some_iff.1 HLd.out).1).trans HLd.out)
            have m0 : w4.cell? ⟨gl, 0, none⟩ = some (.int .i64 (no : Int)) := by unfold World.cell?; rw [HL4.out]; rfl
            have m1 : w4.cell? ⟨gl, 1, none⟩ = some (.slice (some ⟨Ab, 0, none⟩) N N) := by unfold World.cell?; rw [HL4.out]; rfl
            clear l0 l1 hwl0 pc
            obtain ⟨cf, rfl⟩ : ∃ cf, ce = cf + 1 := ⟨ce - 1, by omega⟩
            have hcf : ((cf + 1 : Nat) : Int) - 1 = (cf : Int) := by omega
            rw [hcf]
            have HWr : Hid (Calls Tryd.prog 16 #[.agg #[.int .i64 (no : Int), .slice (some ⟨Ab, 0, none⟩) N N], .int .i64 (cf : Int)] w4 fun e w' => e = .returned (.iface 36 (.pointer (some ⟨w4.heap.size + 1, 0, none⟩))) ∧
      w' = (w4.alloc (.cells #[.int .i64 (no : Int), .slice (some ⟨Ab, 0, none⟩) N N] 53)).alloc (.cells #[.int .i64 (no : Int), .int .i64 ((cf + 1 : Nat) : Int), .iface 40 (.int .i64 5)] 39)) := Lib.hid (wrong_any (no : Int) cf _ w4 (by omega) (by omega))
            clear hcf
            go_wp2_with (first | (go_at_call 16; refine HWr.out.mono ?_; rintro e w9 ⟨rfl, hw9⟩; have HE9 := Lib.hid (HR4.out.ends _ no (cf + 1) A HE.out hw9); clear hw9) | (refine wpList_store_row rfl 28 (.tmp 2) (.tmp 44) rfl w.heap.size (pArr nilS) rfl rfl 28 (pArr nilS) HE9.out.1 sz_pol rfl nil_one ?_))
            refine bodyPost_ret (results_row_tmp rfl _ _ w.heap.size _ (pArr nilS) _ _ _ rfl rfl HE9.out.2.1 Tryd.underlying28 rfl sz_pol) rfl ?_
            exact HE9.out.2.2
          | ok l =>
            rw [hq] at hso hA2
            have HE : Hid (A = parseP (T.drop (k + 1)) (updP P d l)) := Lib.hid hA2
            have HSo : Hid (Calls Tryd.prog 17 #[.slice (some ⟨Ab, 0, none⟩) N N] wl fun e w' => ∃ p cp nl, e = .returned (.tuple #[.slice p nl cp, .int .i64 0]) ∧ Below wl.heap.size wl w' ∧ 1 ≤ nl ∧ Hid (StepsC wl.heap.size w' (.slice p nl cp) l)) := Lib.hid (hso.mono fun e w' h => by
              obtain ⟨hb, h1, v, he, hs⟩ := h
              obtain ⟨p, cp, rfl⟩ := hs.shape
              exact ⟨p, cp, _, he, hb, List.length_pos_iff.2 h1, Lib.hid hs⟩)
            clear hq hso hA2
            go_upto_region 9 with (go_at_call 17; refine HSo.out.mono ?_; rintro e w4 ⟨pq, cq, nl, rfl, hb4, hnl, hs4⟩; have HB4 := Lib.hid hb4; clear hb4)
            have HR4 := Lib.hid (HRl.out.below HB4.out)
            have HS4 : Hid (StepsC w.heap.size w4 (.slice pq nl cq) l) := Lib.hid (own_base hs4.out (Nat.le_trans HRl.out.bel.size (Nat.le_refl _)))
            have pc4 := (HR4.out.pol.cell d (by omega)).1
            have pf4 := (HR4.out.pol.cell d (by omega)).2
            have en : ((nl : Int) == 0) = false := by simp; omega
            clear l0 l1 hwl0 pc
            go_wp2
            go_roundw
            case rel => exact ⟨k + 1, _, _, hlt, by go_num, HR4.out.set d (by omega) _ l HS4.out, HE.out⟩
            case measure => simp [intOf]; omega
    · obtain rfl : k = T.length := by omega
      rw [List.drop_of_length_le (Nat.le_refl _)] at hA
      have HA : Hid (A = .ok P) := Lib.hid hA
      have HR := Lib.hid hR
      have hpb := hR.pol.blk
      clear hA hR
      go_wp2_with (first | (refine wpList_load_row rfl 28 (.tmp 4) rfl (w.heap.size + 1) rfl 28 (pArr vs) (0, 0) _ hpb Tryd.underlying28 rfl sz_pol ?_) | (refine wpList_store_row rfl 28 (.tmp 2) (.tmp 53) rfl w.heap.size (pArr vs) rfl rfl 28 (pArr nilS) HR.out.res sz_pol rfl HR.out.pol.one ?_))
      refine bodyPost_ret (results_row_tmp rfl _ _ w.heap.size _ (pArr vs) _ _ _ rfl rfl (setRow_heap _ _ _ _ _ _ HR.out.res) Tryd.underlying28 rfl sz_pol) rfl ?_
      exact PParR.good HA.out (below_setRow HR.out.bel (Nat.le_refl _) _) (fun j hj => (HR.out.pol.st j hj).other HR.out.res (by decide) (fun i hi => setRow_other _ _ _ _ hi))
end Go.Proofs.YtpighkpdnifejaaDoor

namespace Go.Proofs.YtpighkpdnifejaaDoor
open Go.RowKit Go.Lib Go.Tx Go.Pol
theorem sz_five : (Tryd.prog.info? 26).map (·.size) = some 5 := by kernel_rfl
theorem results_row_tmp2 {P : Program} {fn : Func} {p u u2 : Tmp} {ty : TypeId} (h : fn.results = #[.cell p ty, .tmp u, .tmp u2]) (tmps : Array Value) (w : World) (g : Nat) (t : TypeId) (cs : Array Value) (fr : Nat × Nat) (d : TypeDesc) (v v2 : Value)
    (hp : tmps.getD p undef = .pointer (some ⟨g, 0, none⟩)) (hv : tmps.getD u undef = v) (hv2 : tmps.getD u2 undef = v2) (hg : w.heap[g]? = some (.cells cs t fr))
    (hu : P.underlying ty = some d) (hd : (match d with | .struct _ | .array _ _ => true | _ => false) = true) (hi : (P.info? ty).map (·.size) = some cs.size) :
    (results fn tmps).run P w = .ok (.tuple #[.agg cs, v, v2]) w := by
  have hp' : tmps[p]?.getD undef = .pointer (some ⟨g, 0, none⟩) := by simpa using hp
  have hv' : tmps[u]?.getD undef = v := by simpa using hv
  have hv2' : tmps[u2]?.getD undef = v2 := by simpa using hv2
  simp [results, h, hp', hv', hv2', asAddr, run_loadVar_row w g t ty cs fr d hg hu hd hi, Sem.run_bind, Result.andThen]
theorem alloc3 (w : World) (Z : Obj) : (((w.alloc Z).alloc Z).alloc Z).heap.size = w.heap.size + 3 ∧ (((w.alloc Z).alloc Z).alloc Z).heap[w.heap.size]? = some Z ∧ (((w.alloc Z).alloc Z).alloc Z).heap[w.heap.size + 1]? = some Z ∧ (((w.alloc Z).alloc Z).alloc Z).heap[w.heap.size + 2]? = some Z := by
  show (((w.heap.push Z).push Z).push Z).size = _ ∧ (((w.heap.push Z).push Z).push Z)[w.heap.size]? = _ ∧ (((w.heap.push Z).push Z).push Z)[w.heap.size + 1]? = _ ∧ (((w.heap.push Z).push Z).push Z)[w.heap.size + 2]? = _
  refine ⟨by simp, ?_, ?_, ?_⟩
  · rw [Array.getElem?_push, if_neg (by simp <;> omega), Array.getElem?_push, if_neg (by simp <;> omega), Array.getElem?_push, if_pos rfl]
  · rw [Array.getElem?_push, if_neg (by simp <;> omega), Array.getElem?_push, if_pos (by simp)]
  · rw [Array.getElem?_push, if_pos (by simp)]
/-- What holds at the head of a round. -/
structure PRI2 (w w2 wr : World) (vs : Nat → Value) (P : Nat → List Stp) : Prop where
  pol : PolAt w.heap.size wr (w.heap.size + 1) 26 vs P
  res : wr.heap[w.heap.size]? = some (.cells (pArr nilS) 26 (0, 0))
  non : wr.heap[w.heap.size + 2]? = some (.cells (pArr nilS) 26 (0, 0))
  bel : Below w.heap.size w wr
  old : ∀ j, w.heap.size + 3 ≤ j → j < w2.heap.size → wr.heap[j]? = w2.heap[j]?
  big : w2.heap.size ≤ wr.heap.size
theorem PRI2.below {w w2 wr w' : World} {vs : Nat → Value} {P : Nat → List Stp} (h : PRI2 w w2 wr vs P) (hb : Below wr.heap.size wr w') : PRI2 w w2 w' vs P :=
  ⟨h.pol.below hb, (hb.block _ (Array.getElem?_eq_some_iff.1 h.res).1).trans h.res, (hb.block _ (Array.getElem?_eq_some_iff.1 h.non).1).trans h.non, h.bel.trans (hb.mono h.bel.size), fun j h1 h2 => (hb.block j (by have := h.big; omega)).trans (h.old j h1 h2), Nat.le_trans h.big hb.size⟩
theorem PRI2.set {w w2 wr : World} {vs : Nat → Value} {P : Nat → List Stp} (h : PRI2 w w2 wr vs P) (k : Nat) (hk : k < 5) (v : Value) (l : List Stp) (hv : StepsC w.heap.size wr v l) : PRI2 w w2 (wr.setCell ⟨w.heap.size + 1, k, none⟩ v) (updV vs k v) (updP P k l) :=
  ⟨h.pol.set (by decide) k hk v l hv, (setCell_else wr _ v _ (by show w.heap.size ≠ w.heap.size + 1; omega)).trans h.res, (setCell_else wr _ v _ (by show w.heap.size + 2 ≠ w.heap.size + 1; omega)).trans h.non, h.bel.setCell (by show w.heap.size ≤ w.heap.size + 1; omega) v, fun j h1 h2 => (setCell_else wr _ v j (by show j ≠ w.heap.size + 1; omega)).trans (h.old j h1 h2), by have := h.big; simpa [World.setCell] using this⟩
def RParR (w : World) (r : Except (Nat × Nat) (Nat → List Stp)) (e : Ending) (w' : World) : Prop := Below w.heap.size w w' ∧ match r with
  | .error q => e = .returned (.tuple #[.agg (pArr nilS), .int .i64 (q.1 : Int), .int .i64 (q.2 : Int)])
  | .ok P => ∃ vs, e = .returned (.tuple #[.agg (pArr vs), .int .i64 0, .int .i64 0]) ∧ ∀ j, j < 5 → StepsC w.heap.size w' (vs j) (P j)
theorem RParR.bad {w w' : World} {r : Except (Nat × Nat) (Nat → List Stp)} {no col : Nat} (h : r = .error (no, col)) (hb : Below w.heap.size w w') :
    RParR w r (.returned (.tuple #[.agg (pArr nilS), .int .i64 (no : Int), .int .i64 (col : Int)])) w' := by subst h; exact ⟨hb, rfl⟩
theorem RParR.good {w w' : World} {r : Except (Nat × Nat) (Nat → List Stp)} {P : Nat → List Stp} {vs : Nat → Value} (h : r = .ok P) (hb : Below w.heap.size w w') (hs : ∀ j, j < 5 → StepsC w.heap.size w' (vs j) (P j)) :
    RParR w r (.returned (.tuple #[.agg (pArr vs), .int .i64 0, .int .i64 0])) w' := by subst h; exact ⟨hb, vs, rfl, hs⟩
/-- The words of a line, read at a later world. -/
theorem words_at8 {B : Nat} {w w' : World} {v : Value} {ws : List (List UInt8)} (h : StrC B w v ws) (hsame : ∀ j, B ≤ j → j < w.heap.size → w'.heap[j]? = w.heap[j]?) (hs : w.heap.size ≤ w'.heap.size) (h0 : ws ≠ []) :
    ∃ A c, v = .slice (some ⟨A, 0, none⟩) ws.length c ∧ A < w'.heap.size ∧ WAt w' A 0 ws := by
  have hpos := List.length_pos_iff.2 h0
  rcases h.2 with ⟨a, b⟩ | ⟨A, cap, cur, a, a2, a3, _⟩
  · omega
  · have hlt := (World.ownsRow.lt h A (by rw [a]; rfl)).2
    refine ⟨A, cap, a, by omega, fun j l hj => ?_⟩
    have hjl := (List.getElem?_eq_some_iff.1 hj).1
    have h2 := h
    unfold StrC at h2
    rw [a] at h2
    rw [Nat.zero_add, World.cell?_of_block (a := ⟨A, j, none⟩) (hsame A a2 hlt), World.ownsRow.cellAt h2 j (by omega), List.getElem?_map, hj]
    rfl
theorem nil_set (k : Nat) (hk : k < 5) : (pArr nilS).setIfInBounds k (.slice none 0 0) = pArr nilS := by
  rw [pArr_set _ _ _ hk]
  congr 1
  funext j
  unfold updV nilS
  split <;> rfl
theorem set1_blk {w : World} {h : Nat} {e : TypeId} (k : Nat) (hk : k < 5) (hb : w.heap[h]? = some (.cells (pArr nilS) e (0, 0))) : (w.setCell ⟨h, k, none⟩ (.slice none 0 0)).heap[h]? = some (.cells (pArr nilS) e (0, 0)) := by
  rw [set_blk hb, nil_set k hk]
def set5 (w : World) (h : Nat) : World := ((((((w.setCell ⟨h, 0, none⟩ (.slice none 0 0)).setCell ⟨h, 1, none⟩ (.slice none 0 0)).setCell ⟨h, 2, none⟩ (.slice none 0 0)).setCell ⟨h, 3, none⟩ (.slice none 0 0)).setCell ⟨h, 4, none⟩ (.slice none 0 0)).drew)
theorem set5_blk {w : World} {h : Nat} {e : TypeId} (hb : w.heap[h]? = some (.cells (pArr nilS) e (0, 0))) : (set5 w h).heap[h]? = some (.cells (pArr nilS) e (0, 0)) := by
  unfold set5
  rw [heap_drew]
  exact set1_blk 4 (by decide) (set1_blk 3 (by decide) (set1_blk 2 (by decide) (set1_blk 1 (by decide) (set1_blk 0 (by decide) hb))))
theorem set5_bel {B : Nat} {w0 w : World} {h : Nat} (hb : Below B w0 w) (hB : B ≤ h) : Below B w0 (set5 w h) := by
  unfold set5
  exact (((((hb.setCell (p := ⟨h, 0, none⟩) hB _).setCell (p := ⟨h, 1, none⟩) hB _).setCell (p := ⟨h, 2, none⟩) hB _).setCell (p := ⟨h, 3, none⟩) hB _).setCell (p := ⟨h, 4, none⟩) hB _).drew
theorem WAt.wrds {w : World} {A : Nat} {ws : List (List UInt8)} (h : WAt w A 0 ws) : WrdsAt w (some ⟨A, 0, none⟩) ws := fun i l hi => ⟨A, ⟨l.toArray⟩, rfl, by have := h i l hi; simpa using this, by simp⟩
set_option maxHeartbeats 4000000 in
set_option maxRecDepth 100000 in
theorem rparse_core (a : Option Addr) (n c : Nat) (T : List (Nat × List (List UInt8))) (w : World) (hfine : ∀ t ∈ T, FineP t 2000000) (hfew : T.length ≤ 1000001) (hlines : ∀ W, Below w.heap.size w W → Calls Tryd.prog 18 #[.slice a n c] W (RLinesR W T)) :
    Calls Tryd.prog 10 #[.slice a n c] w (RParR w (parseP T (fun _ => []))) := by
  obtain ⟨A, hA⟩ : ∃ A, parseP T (fun _ => []) = A := ⟨_, rfl⟩
  rw [hA]
  have HA0 := Lib.hid hA
  have HLn := Lib.hid hlines
  have HFine := Lib.hid hfine
  clear hA hlines hfine
  have a3 := alloc3 w (.cells (pArr nilS) 26)
  have b3 : Below w.heap.size w (((w.alloc (.cells (pArr nilS) 26)).alloc (.cells (pArr nilS) 26)).alloc (.cells (pArr nilS) 26)) := (((Below.refl _ w).alloc (Nat.le_refl _) _).alloc (by show w.heap.size ≤ (w.heap.push _).size; simp) _).alloc (by show w.heap.size ≤ ((w.heap.push _).push _).size; simp; omega) _
  have HA3 := Lib.hid a3
  have HB3 := Lib.hid b3
  clear a3 b3
  go_enter Tryd.func10, Tryd.ntmps10
  go_wp2_with (go_at_call 18; refine (HLn.out _ HB3.out).mono ?_; rintro e w2 ⟨v, rfl, hT, hb2⟩; obtain ⟨pT, cT, rfl⟩ := hT.shape)
  have hs1 := HA3.out.1
  have hI : PRI2 w w2 w2 nilS (fun _ => []) := by
    have hb2' : Below (w.heap.size + 3) (((w.alloc (.cells (pArr nilS) 26)).alloc (.cells (pArr nilS) 26)).alloc (.cells (pArr nilS) 26)) w2 := hb2.mono (Nat.le_of_eq hs1.symm)
    exact ⟨PolAt.nil _ _ _ _ ((hb2'.block _ (by omega)).trans HA3.out.2.2.1), (hb2'.block _ (by omega)).trans HA3.out.2.1, (hb2'.block _ (by omega)).trans HA3.out.2.2.2,
      HB3.out.trans (hb2'.mono (by omega)), fun _ _ _ => rfl, Nat.le_refl _⟩
  have hs2 : w.heap.size + 3 ≤ w2.heap.size := Nat.le_trans (Nat.le_of_eq hs1.symm) hb2.size
  have HT : Hid (LinesC 62 (w.heap.size + 3) w2 (.slice pT T.length cT) T) := Lib.hid (Eq.mp (congrArg (fun B => LinesC 62 B w2 (.slice pT T.length cT) T) hs1) hT)
  have HI := Lib.hid hI
  clear hT hI hb2 hs1
  go_loopw [8] (fun i wr => ∃ (k : Nat) (vs : Nat → Value) (P : Nat → List Stp), k ≤ T.length ∧ i = .int .i64 k ∧ PRI2 w w2 wr vs P ∧ A = parseP (T.drop k) P) (fun i _ => T.length - (intOf i).toNat)
  case atStart => exact ⟨0, _, _, Nat.zero_le _, rfl, HI.out, HA0.out.symm⟩
  case round =>
    obtain ⟨k, vs, P, hk, rfl, hR, hA⟩ := hrel
    by_cases hlt : k < T.length
    · obtain ⟨⟨no, ws⟩, hx⟩ : ∃ x, T[k]? = some x := ⟨_, List.getElem?_eq_getElem hlt⟩
      have hf := HFine.out (no, ws) (List.mem_of_getElem? hx)
      obtain ⟨p9, cap, e, hcap, hcm, hrd⟩ := HT.out.read
      obtain ⟨gT, hgT, hc0, qw, cw, hc1, hstr⟩ := hrd k no ws hx
      have e2 := hgT
      cases e
      subst e2
      have hgl : gT < w2.heap.size := block_lt_of_cell hc0
      have hBg : w.heap.size + 3 ≤ gT := by
        obtain ⟨xs, h1, _⟩ := HT.out
        rcases h1.2 with ⟨q, _⟩ | ⟨g, _, _, q, q2, _⟩
        · cases q
        · cases q; exact q2
      have hgs : wr.heap[gT]? = w2.heap[gT]? := hR.old gT hBg hgl
      have hd0 : wr.cell? ⟨gT, k * 2, none⟩ = some (.int .i64 (no : Int)) := by rw [Nat.mul_comm, World.cell?_of_block (a := ⟨gT, 2 * k, none⟩) hgs]; exact hc0
      have hd1 : wr.cell? ⟨gT, k * 2 + 1, none⟩ = some (.slice qw ws.length cw) := by rw [Nat.mul_comm, World.cell?_of_block (a := ⟨gT, 2 * k + 1, none⟩) hgs]; exact hc1
      obtain ⟨Ab, cw2, he2, hAl, hwd⟩ := words_at8 hstr (w' := wr) hR.old hR.big hf.ne
      cases he2
      rw [lineP_step1 hx] at hA
      obtain ⟨x0, r, rfl⟩ : ∃ x0 r, ws = x0 :: r := by
        cases ws with
        | nil => exact absurd rfl hf.ne
        | cons x0 r => exact ⟨x0, r, rfl⟩
      have hfw := hf.few
      simp only at hfw
      obtain ⟨N, hN⟩ : ∃ N, (x0 :: r).length = N := ⟨_, rfl⟩
      have hN1 : 1 ≤ N := by rw [← hN]; simp
      have hN2 : N ≤ 513 := by rw [← hN]; exact hfw
      rw [hN] at hd1
      have HN := Lib.hid hN
      have HW := Lib.hid hwd
      have HWd := Lib.hid hf.word
      have HR := Lib.hid hR
      have HC0 : Hid (w2.cell? ⟨gT, 2 * k, none⟩ = some (.int .i64 (no : Int))) := Lib.hid hc0
      have hw00 : wr.cell? ⟨Ab, 0, none⟩ = some (.string ⟨x0.toArray⟩) := hwd 0 x0 rfl
      have HAl := Lib.hid hAl
      have hgr : gT < wr.heap.size := Nat.lt_of_lt_of_le hgl hR.big
      have HSx : Hid (∀ V, Below wr.heap.size wr V → V.cell? ⟨gT, k * 2 + 1, none⟩ = some (.slice (some ⟨Ab, 0, none⟩) N cw) ∧ V.cell? ⟨Ab, 0, none⟩ = some (.string ⟨x0.toArray⟩)) := Lib.hid (fun V hV => ⟨(hV.cell (p := ⟨gT, k * 2 + 1, none⟩) hgr).trans hd1, (hV.cell (p := ⟨Ab, 0, none⟩) hAl).trans hw00⟩)
      obtain ⟨d, hd⟩ : ∃ d : Int, atV dbW x0 = d := ⟨_, rfl⟩
      have hdb := atV_bd dbW x0
      rw [hd] at hdb
      have hdb4 : d ≤ 4 := by have : (dbW.length : Int) = 5 := rfl; omega
      have hdb1 : -1 ≤ d := hdb.1
      have HD := Lib.hid hd
      have HAt : Hid (∀ V : World, V.heap = (wr.alloc (.cells (dbW.map fun l => Value.string ⟨l.toArray⟩).toArray 9)).heap → Calls Tryd.prog 19 #[.slice (some ⟨wr.heap.size, 0, none⟩) 5 5, .string ⟨x0.toArray⟩] V fun e w' => e = .returned (.int .i64 d) ∧ V = w') := Lib.hid (fun V hV => by
        have h1 := txts_lit wr dbW 5
        have h2 : TxtsAt V (.slice (some ⟨wr.heap.size, 0, none⟩) dbW.length 5) dbW := by
          obtain ⟨p, c, e, h⟩ := h1
          refine ⟨p, c, e, fun i l hl => ?_⟩
          obtain ⟨g, e2, h3⟩ := h i l hl
          exact ⟨g, e2, by rw [← h3]; unfold World.cell?; rw [hV]⟩
        have h3 := at_any _ dbW ⟨x0.toArray⟩ V h2 (by decide)
        rw [show (⟨x0.toArray⟩ : ByteArray).data.toList = x0 from by simp, hd] at h3
        exact h3)
      have hA' := hA
      have hkk : (0 : Int) ≤ (k : Int) := by omega
      have hkt : (k : Int) < (T.length : Int) := by omega
      have hn0 : (0 : Int) < (N : Int) := by omega
      have hn00 : 0 < N := by omega
      clear hR hc0 hc1 hrd hstr hf hx hgs hwd hfw hN hd hdb hA hd0 hd1 hw00 hAl hgr
      go_upto_region 6 with (fail)
      go_region_held3 (fun V => V.cell? ⟨gT, k * 2 + 1, none⟩ = some (.slice (some ⟨Ab, 0, none⟩) N cw) ∧ V.cell? ⟨Ab, 0, none⟩ = some (.string ⟨x0.toArray⟩)) (first | exact HSx.out _ (Below.refl _ _) | exact HSx.out _ (Below.refl _ _).drew | exact HSx.out _ ((Below.refl _ _).drew.alloc (Nat.le_refl _) _)) (first | (go_at_call 20; refine (rwords_any _).mono ?_; rintro e w3 ⟨rfl, rfl⟩) | (go_at_call 19; refine (HAt.out ((wr.alloc (.cells (dbW.map fun l => Value.string ⟨l.toArray⟩).toArray 9)).drew) rfl).mono ?_; rintro e w4 ⟨rfl, rfl⟩))
      go_upto_region 7 with (fail)
      have hbl : Below wr.heap.size wr ((wr.alloc (.cells (dbW.map fun l => Value.string ⟨l.toArray⟩).toArray 9)).drew) := ((Below.refl _ wr).alloc (Nat.le_refl _) _).drew
      generalize (wr.alloc (.cells (dbW.map fun l => Value.string ⟨l.toArray⟩).toArray 9)).drew = wl at *
      have HBl := Lib.hid hbl
      have HRl := Lib.hid (HR.out.below hbl)
      have hgr : gT < wr.heap.size := Nat.lt_of_lt_of_le hgl HR.out.big
      have hd0 : wl.cell? ⟨gT, k * 2, none⟩ = some (.int .i64 (no : Int)) := (hbl.cell (p := ⟨gT, k * 2, none⟩) hgr).trans (by
        rw [World.cell?_of_block (a := ⟨gT, k * 2, none⟩) (HR.out.old gT hBg hgl), Nat.mul_comm]; exact HC0.out)
      obtain ⟨hd1, _⟩ := HSx.out wl hbl
      clear hbl hgr
      by_cases hd1' : d < 1
      · have HE : Hid (A = .error (no, 1)) := Lib.hid (by
          rw [hA']
          exact parse_db (.inl (by unfold dbN; rw [HD.out, if_pos hd1'])))
        clear hA'
        have z0 : wl.cell? ⟨w.heap.size + 1 + 1, 0, none⟩ = some (.slice none 0 0) := by unfold World.cell?; rw [show w.heap.size + 1 + 1 = w.heap.size + 2 from rfl, HRl.out.non]; rfl
        have z1 : wl.cell? ⟨w.heap.size + 1 + 1, 1, none⟩ = some (.slice none 0 0) := by unfold World.cell?; rw [show w.heap.size + 1 + 1 = w.heap.size + 2 from rfl, HRl.out.non]; rfl
        have z2 : wl.cell? ⟨w.heap.size + 1 + 1, 2, none⟩ = some (.slice none 0 0) := by unfold World.cell?; rw [show w.heap.size + 1 + 1 = w.heap.size + 2 from rfl, HRl.out.non]; rfl
        have z3 : wl.cell? ⟨w.heap.size + 1 + 1, 3, none⟩ = some (.slice none 0 0) := by unfold World.cell?; rw [show w.heap.size + 1 + 1 = w.heap.size + 2 from rfl, HRl.out.non]; rfl
        have z4 : wl.cell? ⟨w.heap.size + 1 + 1, 4, none⟩ = some (.slice none 0 0) := by unfold World.cell?; rw [show w.heap.size + 1 + 1 = w.heap.size + 2 from rfl, HRl.out.non]; rfl
        go_upto_region 8 with (fail)
        have r0 : wl.cell? ⟨w.heap.size, 0, none⟩ = some (.slice none 0 0) := by unfold World.cell?; rw [HRl.out.res]; rfl
        have r1 : wl.cell? ⟨w.heap.size, 1, none⟩ = some (.slice none 0 0) := by unfold World.cell?; rw [HRl.out.res]; rfl
        have r2 : wl.cell? ⟨w.heap.size, 2, none⟩ = some (.slice none 0 0) := by unfold World.cell?; rw [HRl.out.res]; rfl
        have r3 : wl.cell? ⟨w.heap.size, 3, none⟩ = some (.slice none 0 0) := by unfold World.cell?; rw [HRl.out.res]; rfl
        have r4 : wl.cell? ⟨w.heap.size, 4, none⟩ = some (.slice none 0 0) := by unfold World.cell?; rw [HRl.out.res]; rfl
        have rf : ∀ j, wl.frozen? ⟨w.heap.size, j, none⟩ = false := fun j => by simp [World.frozen?, HRl.out.res]
        have f0 := rf 0
        have f1 := rf 1
        have f2 := rf 2
        have f3 := rf 3
        have f4 := rf 4
        have ngT : gT ≠ w.heap.size := by omega
        have ngT2 : ¬ w.heap.size = gT := by omega
        clear rf
        go_region
        go_wp2
        refine bodyPost_ret (results_row_tmp2 rfl _ _ w.heap.size _ (pArr nilS) _ _ _ _ rfl rfl rfl (set5_blk HRl.out.res) Tryd.underlying26 rfl sz_five) rfl ?_
        exact RParR.bad HE.out (set5_bel HRl.out.bel (Nat.le_refl _))
      · obtain ⟨dn, rfl⟩ : ∃ dn : Nat, d = (dn : Int) := ⟨d.toNat, by omega⟩
        have hdn1 : 1 ≤ dn := by omega
        have hdn4 : dn ≤ 4 := by omega
        have hdN : dbN x0 = (dn : Int) := by unfold dbN; rw [HD.out, if_neg hd1']
        have hdT : (dbN x0).toNat = dn := by omega
        have HDN := Lib.hid hdN
        have HDT := Lib.hid hdT
        have pc := (HRl.out.pol.cell dn (by omega)).1
        obtain ⟨pd, cd, hvd⟩ := (HRl.out.pol.st dn (by omega)).shape
        rw [hvd] at pc
        clear hvd hdN hdT
        obtain ⟨m, hm⟩ : ∃ m, (P dn).length = m := ⟨_, rfl⟩
        rw [hm] at pc
        by_cases hm0 : 0 < m
        · have HE : Hid (A = .error (no, 1)) := Lib.hid (by
            rw [hA']
            exact parse_db (.inr (by rw [HDT.out, hm]; exact hm0)))
          have hmi : (0 : Int) < (m : Int) := by omega
          clear hA' hm hm0
          have z0 : wl.cell? ⟨w.heap.size + 1 + 1, 0, none⟩ = some (.slice none 0 0) := by unfold World.cell?; rw [show w.heap.size + 1 + 1 = w.heap.size + 2 from rfl, HRl.out.non]; rfl
          have z1 : wl.cell? ⟨w.heap.size + 1 + 1, 1, none⟩ = some (.slice none 0 0) := by unfold World.cell?; rw [show w.heap.size + 1 + 1 = w.heap.size + 2 from rfl, HRl.out.non]; rfl
          have z2 : wl.cell? ⟨w.heap.size + 1 + 1, 2, none⟩ = some (.slice none 0 0) := by unfold World.cell?; rw [show w.heap.size + 1 + 1 = w.heap.size + 2 from rfl, HRl.out.non]; rfl
          have z3 : wl.cell? ⟨w.heap.size + 1 + 1, 3, none⟩ = some (.slice none 0 0) := by unfold World.cell?; rw [show w.heap.size + 1 + 1 = w.heap.size + 2 from rfl, HRl.out.non]; rfl
          have z4 : wl.cell? ⟨w.heap.size + 1 + 1, 4, none⟩ = some (.slice none 0 0) := by unfold World.cell?; rw [show w.heap.size + 1 + 1 = w.heap.size + 2 from rfl, HRl.out.non]; rfl
          go_upto_region 8 with (fail)
          have r0 : wl.cell? ⟨w.heap.size, 0, none⟩ = some (.slice none 0 0) := by unfold World.cell?; rw [HRl.out.res]; rfl
          have r1 : wl.cell? ⟨w.heap.size, 1, none⟩ = some (.slice none 0 0) := by unfold World.cell?; rw [HRl.out.res]; rfl
          have r2 : wl.cell? ⟨w.heap.size, 2, none⟩ = some (.slice none 0 0) := by unfold World.cell?; rw [HRl.out.res]; rfl
          have r3 : wl.cell? ⟨w.heap.size, 3, none⟩ = some (.slice none 0 0) := by unfold World.cell?; rw [HRl.out.res]; rfl
          have r4 : wl.cell? ⟨w.heap.size, 4, none⟩ = some (.slice none 0 0) := by unfold World.cell?; rw [HRl.out.res]; rfl
          have rf : ∀ j, wl.frozen? ⟨w.heap.size, j, none⟩ = false := fun j => by simp [World.frozen?, HRl.out.res]
          have f0 := rf 0
          have f1 := rf 1
          have f2 := rf 2
          have f3 := rf 3
          have f4 := rf 4
          have ngT : gT ≠ w.heap.size := by omega
          have ngT2 : ¬ w.heap.size = gT := by omega
          clear rf
          go_region
          go_wp2
          refine bodyPost_ret (results_row_tmp2 rfl _ _ w.heap.size _ (pArr nilS) _ _ _ _ rfl rfl rfl (set5_blk HRl.out.res) Tryd.underlying26 rfl sz_five) rfl ?_
          exact RParR.bad HE.out (set5_bel HRl.out.bel (Nat.le_refl _))
        · have hmi : ¬ (0 : Int) < (m : Int) := by omega
          have hA2 := hA'.trans (parse_line (by rw [HDN.out]; omega) (by rw [HDT.out]; omega))
          rw [HDT.out] at hA2
          have hso := line_any (some ⟨Ab, 0, none⟩) cw (x0 :: r) wl (fun g q e => by cases e; exact Nat.lt_of_lt_of_le HAl.out HBl.out.size) (HW.out.below HBl.out HAl.out).wrds (by rw [HN.out]; omega) (by rw [HN.out]; exact hN1) HWd.out N HN.out
          clear hA' hm hm0
          cases hq : lineP ((x0 :: r).drop 1) 1 [] false with
          | error ce =>
            rw [hq] at hso hA2
            have HE : Hid (A = .error (no, ce)) := Lib.hid hA2
            have HSo : Hid (Calls Tryd.prog 21 #[.slice (some ⟨Ab, 0, none⟩) N cw] wl fun e w' => e = .returned (.tuple #[.slice none 0 0, .int .i64 (ce : Int)]) ∧ Below wl.heap.size wl w' ∧ 1 ≤ ce) := Lib.hid hso
            clear hq hso hA2
            go_upto_region 10 with (go_at_call 21; refine HSo.out.mono ?_; rintro e w4 ⟨rfl, hb4, hce1⟩; have HB4 := Lib.hid hb4; clear hb4)
            have hci : (0 : Int) < (ce : Int) := by omega
            have HR4 := Lib.hid (HRl.out.below HB4.out)
            have hd04 : w4.cell? ⟨gT, k * 2, none⟩ = some (.int .i64 (no : Int)) := (HB4.out.cell (p := ⟨gT, k * 2, none⟩) (Nat.lt_of_lt_of_le hgl HRl.out.big)).trans hd0
            clear hd0 hd1 pc
            clear HBl HSo HRl
            have HRl := HR4
            clear HR4
            have z0 : w4.cell? ⟨w.heap.size + 1 + 1, 0, none⟩ = some (.slice none 0 0) := by unfold World.cell?; rw [show w.heap.size + 1 + 1 = w.heap.size + 2 from rfl, HRl.out.non]; rfl
            have z1 : w4.cell? ⟨w.heap.size + 1 + 1, 1, none⟩ = some (.slice none 0 0) := by unfold World.cell?; rw [show w.heap.size + 1 + 1 = w.heap.size + 2 from rfl, HRl.out.non]; rfl
            have z2 : w4.cell? ⟨w.heap.size + 1 + 1, 2, none⟩ = some (.slice none 0 0) := by unfold World.cell?; rw [show w.heap.size + 1 + 1 = w.heap.size + 2 from rfl, HRl.out.non]; rfl
            have z3 : w4.cell? ⟨w.heap.size + 1 + 1, 3, none⟩ = some (.slice none 0 0) := by unfold World.cell?; rw [show w.heap.size + 1 + 1 = w.heap.size + 2 from rfl, HRl.out.non]; rfl
            have z4 : w4.cell? ⟨w.heap.size + 1 + 1, 4, none⟩ = some (.slice none 0 0) := by unfold World.cell?; rw [show w.heap.size + 1 + 1 = w.heap.size + 2 from rfl, HRl.out.non]; rfl
            go_upto_region 11 with (fail)
            have r0 : w4.cell? ⟨w.heap.size, 0, none⟩ = some (.slice none 0 0) := by unfold World.cell?; rw [HRl.out.res]; rfl
            have r1 : w4.cell? ⟨w.heap.size, 1, none⟩ = some (.slice none 0 0) := by unfold World.cell?; rw [HRl.out.res]; rfl
            have r2 : w4.cell? ⟨w.heap.size, 2, none⟩ = some (.slice none 0 0) := by unfold World.cell?; rw [HRl.out.res]; rfl
            have r3 : w4.cell? ⟨w.heap.size, 3, none⟩ = some (.slice none 0 0) := by unfold World.cell?; rw [HRl.out.res]; rfl
            have r4 : w4.cell? ⟨w.heap.size, 4, none⟩ = some (.slice none 0 0) := by unfold World.cell?; rw [HRl.out.res]; rfl
            have rf : ∀ j, w4.frozen? ⟨w.heap.size, j, none⟩ = false := fun j => by simp [World.frozen?, HRl.out.res]
            have f0 := rf 0
            have f1 := rf 1
            have f2 := rf 2
            have f3 := rf 3
            have f4 := rf 4
            have ngT : gT ≠ w.heap.size := by omega
            have ngT2 : ¬ w.heap.size = gT := by omega
            clear rf
            go_region
            go_wp2
            refine bodyPost_ret (results_row_tmp2 rfl _ _ w.heap.size _ (pArr nilS) _ _ _ _ rfl rfl rfl (set5_blk HRl.out.res) Tryd.underlying26 rfl sz_five) rfl ?_
            exact RParR.bad HE.out (set5_bel HRl.out.bel (Nat.le_refl _))
          | ok l =>
            rw [hq] at hso hA2
            have HE : Hid (A = parseP (T.drop (k + 1)) (updP P dn l)) := Lib.hid hA2
            have HSo : Hid (Calls Tryd.prog 21 #[.slice (some ⟨Ab, 0, none⟩) N cw] wl fun e w' => ∃ p nl cp, e = .returned (.tuple #[.slice p nl cp, .int .i64 0]) ∧ Below wl.heap.size wl w' ∧ Hid (StepsC wl.heap.size w' (.slice p nl cp) l)) := Lib.hid (hso.mono fun e w' h => by
              obtain ⟨v, he, hs, hb⟩ := h
              obtain ⟨p, cp, rfl⟩ := hs.shape
              exact ⟨p, _, cp, he, hb, Lib.hid hs⟩)
            clear hq hso hA2
            go_upto_region 10 with (go_at_call 21; refine HSo.out.mono ?_; rintro e w4 ⟨pq, nl, cq, rfl, hb4, hs4⟩; have HB4 := Lib.hid hb4; clear hb4)
            have HR4 := Lib.hid (HRl.out.below HB4.out)
            have HS4 : Hid (StepsC w.heap.size w4 (.slice pq nl cq) l) := Lib.hid (own_base hs4.out HRl.out.bel.size)
            have pc4 := (HR4.out.pol.cell dn (by omega)).1
            have pf4 := (HR4.out.pol.cell dn (by omega)).2
            clear hd0 hd1 pc
            go_wp2
            go_roundw
            case rel => exact ⟨k + 1, _, _, hlt, by go_num, HR4.out.set dn (by omega) _ l HS4.out, HE.out⟩
            case measure => simp [intOf]; omega
    · obtain rfl : k = T.length := by omega
      rw [List.drop_of_length_le (Nat.le_refl _)] at hA
      have HA : Hid (A = .ok P) := Lib.hid hA
      have HR := Lib.hid hR
      have hpb := hR.pol.blk
      clear hA hR
      go_wp2_with (first | (refine wpList_load_row rfl 26 (.tmp 5) rfl (w.heap.size + 1) rfl 26 (pArr vs) (0, 0) _ hpb Tryd.underlying26 rfl sz_five ?_) | (refine wpList_store_row rfl 26 (.tmp 2) (.tmp 65) rfl w.heap.size (pArr vs) rfl rfl 26 (pArr nilS) HR.out.res sz_five rfl HR.out.pol.one ?_))
      refine bodyPost_ret (results_row_tmp2 rfl _ _ w.heap.size _ (pArr vs) _ _ _ _ rfl rfl rfl (setRow_heap _ _ _ _ _ _ HR.out.res) Tryd.underlying26 rfl sz_five) rfl ?_
      exact RParR.good HA.out (below_setRow HR.out.bel (Nat.le_refl _) _) (fun j hj => (HR.out.pol.st j hj).other HR.out.res (by decide) (fun i hi => setRow_other _ _ _ _ hi))
end Go.Proofs.YtpighkpdnifejaaDoor

namespace Go.Pol
open Go.Tx
def unr (i : Nat) : Int := if i = 0 then 1 else 2
/-- The rule at outcome i, in words; none: as without rules. -/
def rulW (d : Nat → Int) (i : Nat) : Option (List UInt8) :=
  if d i ≠ unr i ∧ 0 < d i ∧ d i < 4 then some (outU.getD i [] ++ [61] ++ actW.getD (d i).toNat []) else none
def rulT (d : Nat → Int) (i : Nat) : List (List UInt8) := (List.range i).filterMap (rulW d)
theorem rulT_succ (d : Nat → Int) (i : Nat) : rulT d (i + 1) = rulT d i ++ (rulW d i).toList := by
  unfold rulT
  rw [List.range_succ, List.filterMap_append]
  congr 1
theorem rulT_len (d : Nat → Int) : ∀ i, (rulT d i).length ≤ i
  | 0 => by simp [rulT]
  | i + 1 => by
    rw [rulT_succ]
    have := rulT_len d i
    cases h : rulW d i <;> simp <;> omega
theorem out_len (i : Nat) : (outU.getD i []).length ≤ 8 := by
  match i with
  | 0 => decide
  | 1 => decide
  | 2 => decide
  | 3 => decide
  | n + 4 => exact (by simp [outU] : (outU.getD (n + 4) []).length ≤ 8)
theorem act_len (i : Nat) : (actW.getD i []).length ≤ 8 := by
  match i with
  | 0 => decide
  | 1 => decide
  | 2 => decide
  | 3 => decide
  | n + 4 => exact (by simp [actW] : (actW.getD (n + 4) []).length ≤ 8)
theorem rulT_word (d : Nat → Int) (i : Nat) : ∀ x ∈ rulT d i, x.length ≤ 17 := by
  intro x hx
  unfold rulT at hx
  obtain ⟨j, _, hj⟩ := List.mem_filterMap.1 hx
  unfold rulW at hj
  split at hj
  · cases hj
    have h1 := out_len j
    have h2 := act_len (d j).toNat
    simp only [List.length_append, List.length_cons, List.length_nil]
    omega
  · cases hj
end Go.Pol
namespace Go.Proofs.YtpighkpdnifejaaDoor
open Go.RowKit Go.Lib Go.Tx Go.Pol
theorem rowV_at (ws : List (List UInt8)) (i : Nat) (h : i < ws.length) : (rowV ws)[i]? = some (.string ⟨(ws.getD i []).toArray⟩) := by
  unfold rowV
  simp [h]
theorem PG.outAt {w : World} (h : PG w) (i : Nat) (hi : i < 4) : w.cell? ⟨2, i, none⟩ = some (.string ⟨(outU.getD i []).toArray⟩) := by
  obtain ⟨t, fr, e⟩ := h.out
  unfold World.cell?
  rw [e]
  exact rowV_at outU i hi
theorem PG.actAt {w : World} (h : PG w) (i : Nat) (hi : i < 4) : w.cell? ⟨3, i, none⟩ = some (.string ⟨(actW.getD i []).toArray⟩) := by
  obtain ⟨t, fr, e⟩ := h.act
  unfold World.cell?
  rw [e]
  exact rowV_at actW i hi
theorem PG.dbAt {w : World} (h : PG w) (i : Nat) (hi : i < 5) : w.cell? ⟨0, i, none⟩ = some (.string ⟨(dbW.getD i []).toArray⟩) := by
  obtain ⟨t, fr, e⟩ := h.db
  unfold World.cell?
  rw [e]
  exact rowV_at dbW i hi
theorem PG.unAt {w : World} (h : PG w) (i : Nat) (hi : i < 4) : w.cell? ⟨1, i, none⟩ = some (.int .i64 (unr i)) := by
  obtain ⟨t, fr, e⟩ := h.un
  unfold World.cell?
  rw [e]
  have hh : i = 0 ∨ i = 1 ∨ i = 2 ∨ i = 3 := by omega
  rcases hh with rfl | rfl | rfl | rfl <;> rfl
def dVals (d : Nat → Int) : Array Value := #[.int .i64 (d 0), .int .i64 (d 1), .int .i64 (d 2), .int .i64 (d 3)]
theorem ix_do (d : Nat → Int) (i : Nat) (hi : i < 4) (W : World) : (Instr.index 45 (.agg #[.int .i64 (d 0), .int .i64 (d 1), .int .i64 (d 2), .int .i64 (d 3)]) (.int .i64 (i : Int))).run Tryd.prog W = .ok (.int .i64 (d i)) W := by
  have key : ∀ k : Nat, k < 4 → (Instr.index 45 (.agg #[.int .i64 (d 0), .int .i64 (d 1), .int .i64 (d 2), .int .i64 (d 3)]) (.int .i64 (k : Int))).run Tryd.prog W = .ok (.int .i64 (d k)) W := fun k hk => by
    have hh : k = 0 ∨ k = 1 ∨ k = 2 ∨ k = 3 := by omega
    rcases hh with rfl | rfl | rfl | rfl <;> (apply Eq.symm; apply Eq.symm; kernel_rfl)
  exact key i hi
theorem own_drew9 {B : Nat} {e : TypeId} {size n : Nat} {v : Value} {xs : List Value} {w : World} (h : w.ownsRow B e size v n xs) : w.drew.ownsRow B e size v n xs := h
theorem StrC.push1 {B : Nat} {w : World} {v : Value} {ws : List (List UInt8)} {x : List UInt8} {X : ByteArray} {n : Nat} (h : w.ownsRow B 9 1 v (n + 1) (ws.map strV ++ [.string X])) (hn : ws.length = n) (hX : X.data.toList = x) : StrC B w v (ws ++ [x]) := by
  unfold StrC
  rw [List.length_append, hn, List.map_append]
  have : X = ⟨x.toArray⟩ := by rw [← hX]
  rw [this] at h
  exact h
set_option maxHeartbeats 2000000 in
set_option maxRecDepth 100000 in
theorem rulesOf_any (d : Nat → Int) (w : World) (hg : PG w) :
    Calls Tryd.prog 35 #[.agg #[.int .i64 (d 0), .int .i64 (d 1), .int .i64 (d 2), .int .i64 (d 3)]] w fun e w' => ∃ v, e = .returned v ∧ StrC w.heap.size w' v (rulT d 4) ∧ Below w.heap.size w w' := by
  have HG := Lib.hid hg
  have HIx := Lib.hid (ix_do d)
  obtain ⟨i9, hi, hz0, hz1, hz2⟩ := info_parts' info9
  clear hg
  go_enter Tryd.func35, Tryd.ntmps35
  go_wp2
  go_loopw [3, 7] (fun rv iv wr => ∃ i : Nat, i ≤ 4 ∧ iv = .int .i64 i ∧ StrC w.heap.size wr rv (rulT d i) ∧ Below w.heap.size w wr) (fun _ iv _ => 4 - (intOf iv).toNat)
  case atStart => exact ⟨0, by decide, rfl, World.ownsRow_nil _ _ _ _, (Below.refl _ _).alloc (Nat.le_refl _) _⟩
  case round =>
    obtain ⟨i, hi4, rfl, hS, hB⟩ := hrel
    obtain ⟨p, c, rfl⟩ := hS.shape
    have HS := Lib.hid hS
    have HB := Lib.hid hB
    by_cases hlt : i < 4
    · have hix := fun W => HIx.out i hlt W
      have hun := (HG.out.below hB).unAt i hlt
      have hou := (HG.out.below hB).outAt i hlt
      obtain ⟨x, hx⟩ : ∃ x, d i = x := ⟨_, rfl⟩
      obtain ⟨u, hu⟩ : ∃ u, unr i = u := ⟨_, rfl⟩
      rw [hx] at hix
      rw [hu] at hun
      have hii : (0 : Int) ≤ (i : Int) := by omega
      have hi4' : (i : Int) < 4 := by omega
      have HX := Lib.hid hx
      have HU := Lib.hid hu
      obtain ⟨n1, hn1⟩ : ∃ n1, (rulT d i).length = n1 := ⟨_, rfl⟩
      have hn4 : n1 ≤ 4 := by have := rulT_len d i; omega
      rw [hn1] at ⊢
      have HN1 := Lib.hid hn1
      have HSn : Hid (wr.ownsRow w.heap.size 9 1 (.slice p n1 c) n1 ((rulT d i).map strV)) := Lib.hid (by have := HS.out; unfold StrC at this; rw [HN1.out] at this; exact this)
      have HSs : Hid (StrC w.heap.size wr (.slice p n1 c) (rulT d i)) := Lib.hid (by rw [← HN1.out]; exact HS.out)
      have hbs := hB.size
      clear hS hB hx hu hn1
      by_cases hyes : x ≠ u ∧ 0 < x ∧ x < 4
      · obtain ⟨h1, h2, h3⟩ := hyes
        have HT : Hid (rulT d (i + 1) = rulT d i ++ [outU.getD i [] ++ [61] ++ actW.getD x.toNat []]) := Lib.hid (by
          rw [rulT_succ]
          unfold rulW
          rw [HX.out, HU.out, if_pos ⟨h1, h2, h3⟩]
          rfl)
        obtain ⟨an, rfl⟩ : ∃ an : Nat, x = (an : Int) := ⟨x.toNat, by omega⟩
        have han : an < 4 := by omega
        have hac := (HG.out.below HB.out).actAt an han
        have e1 : ((an : Int) != u) = true := by simpa using h1
        have ho8 := out_len i
        have ha8 := act_len an
        obtain ⟨O, hO⟩ : ∃ O : ByteArray, (⟨(outU.getD i []).toArray⟩ : ByteArray) = O := ⟨_, rfl⟩
        obtain ⟨Ac, hAc⟩ : ∃ Ac : ByteArray, (⟨(actW.getD an []).toArray⟩ : ByteArray) = Ac := ⟨_, rfl⟩
        have hOs : O.size ≤ 8 := by rw [← hO]; show (outU.getD i []).toArray.size ≤ _; simpa using ho8
        have hAs : Ac.size ≤ 8 := by rw [← hAc]; show (actW.getD an []).toArray.size ≤ _; simpa using ha8
        rw [hO] at hou
        rw [hAc] at hac
        have HT2 : Hid (rulT d (i + 1) = rulT d i ++ [(O ++ ⟨#[61]⟩ ++ Ac).data.toList]) := Lib.hid (by
          rw [HT.out, ← hO, ← hAc]
          simp)
        have hc1 : ¬ 9223372036854775807 < O.size + 1 := by omega
        have hc2 : ¬ 9223372036854775807 < O.size + 1 + Ac.size := by omega
        have hc3 : ¬ 9223372036854775807 < (O ++ (⟨#[61]⟩ : ByteArray)).size + Ac.size := by rw [ByteArray.size_append]; show ¬ _ < O.size + 1 + Ac.size; omega
        have hs1 : (O ++ (⟨#[61]⟩ : ByteArray)).size ≤ 9 := by rw [ByteArray.size_append]; show O.size + 1 ≤ 9; omega
        have ha0 : (0 : Int) ≤ (an : Int) := by omega
        have ha4 : (an : Int) < 4 := by omega
        clear h1 hO hAc ho8 ha8
        go_upto_region 6 with (fail)
        go_region_law (refine step_append_lies _ (by rfl) _ _ _ (by rfl) w.heap.size 9 i9 (.string ⟨#[]⟩) 1 16 Tryd.underlying44 hi hz0 hz1 hz2 rfl (by decide) (.slice p n1 c) n1 ((rulT d i).map strV) (by rfl) (World.ownsRow.alloc HSn.out _) ⟨wr.heap.size, 0, none⟩ 1 1 [.string (O ++ ⟨#[61]⟩ ++ Ac)] (by rfl) rfl (newN wr [.string (O ++ ⟨#[61]⟩ ++ Ac)] _) (by simp [Value.oneCell']) (by decide) (by unfold maxLen; omega) (by omega) (by show w.heap.size ≤ (wr.heap.push _).size; simp; omega) (wr.heap.size + 1) (by show (wr.heap.push _).size = _; simp) ?_; intro g4 cap4 w5 hown5 hg5 hat5 hlt5; have HO5 := Lib.hid hown5; have HG5 := Lib.hid hg5; clear hown5 hg5 hat5 hlt5)
        all_goals
          go_wp2
          go_roundw
          case rel => exact ⟨i + 1, hlt, by go_num, by rw [HT2.out]; exact StrC.push1 HO5.out HN1.out rfl, ((HB.out.alloc HB.out.size _).drew).grown HG5.out (by show w.heap.size ≤ (wr.heap.push _).size; simp; omega) (fun g hg => (HSn.out.lt g hg).1)⟩
          case measure => simp [intOf]; omega
      · have HT : Hid (rulT d (i + 1) = rulT d i) := Lib.hid (by
          rw [rulT_succ]
          unfold rulW
          rw [HX.out, HU.out, if_neg hyes]
          simp)
        by_cases h1 : x = u
        · have e1 : (x != u) = false := by simpa using h1
          clear hyes h1
          go_wp2
          go_roundw
          case rel => exact ⟨i + 1, hlt, by go_num, by rw [HT.out]; exact HSs.out, HB.out⟩
          case measure => simp [intOf]; omega
        · have e1 : (x != u) = true := by simpa using h1
          by_cases h2 : 0 < x
          · have h3 : ¬ x < 4 := fun h => hyes ⟨h1, h2, h⟩
            clear hyes h1
            go_wp2
            go_roundw
            case rel => exact ⟨i + 1, hlt, by go_num, by rw [HT.out]; exact HSs.out, HB.out⟩
            case measure => simp [intOf]; omega
          · clear hyes h1
            go_wp2
            go_roundw
            case rel => exact ⟨i + 1, hlt, by go_num, by rw [HT.out]; exact HSs.out, HB.out⟩
            case measure => simp [intOf]; omega
    · obtain rfl : i = 4 := by omega
      clear hS hB
      go_wp2
      go_ret
      exact ⟨_, rfl, HS.out, HB.out⟩
end Go.Proofs.YtpighkpdnifejaaDoor

namespace Go.Proofs.YtpighkpdnifejaaDoor
open Go.RowKit Go.Lib Go.Tx Go.Pol
/-- A slice that reads as these steps. -/
def StpsAt (w : World) (v : Value) (ls : List Stp) : Prop := ∃ p c, v = .slice p ls.length c ∧ ∀ (i : Nat) (s : Stp), ls[i]? = some s → ∃ g, p = some ⟨g, 0, none⟩ ∧ ∀ j u, (stpCells s)[j]? = some u → w.cell? ⟨g, i * 5 + j, none⟩ = some u
theorem flat_get : ∀ (ls : List Stp) (i : Nat) (s : Stp) (j : Nat), ls[i]? = some s → j < 5 → (ls.flatMap stpCells)[i * 5 + j]? = (stpCells s)[j]?
  | [], i, s, j, h, _ => by simp at h
  | x :: ls, 0, s, j, h, hj => by
    simp at h
    subst h
    rw [List.flatMap_cons, Nat.zero_mul, Nat.zero_add, List.getElem?_append_left (by simp [stpCells]; exact hj)]
  | x :: ls, i + 1, s, j, h, hj => by
    rw [List.getElem?_cons_succ] at h
    have ih := flat_get ls i s j h hj
    rw [List.flatMap_cons, List.getElem?_append_right (by simp [stpCells]; omega), ← ih]
    congr 1
    simp [stpCells]; omega
theorem StpsAt.of {B : Nat} {w : World} {v : Value} {ls : List Stp} (h : StepsC B w v ls) : StpsAt w v ls := by
  obtain ⟨p, c, e⟩ := h.shape
  refine ⟨p, c, e, fun i s hi => ?_⟩
  have hlt := (List.getElem?_eq_some_iff.1 hi).1
  rcases h.2 with ⟨a, b⟩ | ⟨g, cap, cur, a, _, hg, _, _, _, hat⟩
  · omega
  · rw [a] at e
    cases e
    refine ⟨g, rfl, fun j u hj => ?_⟩
    have hj5 : j < 5 := by have := (List.getElem?_eq_some_iff.1 hj).1; simpa [stpCells] using this
    have hb : i * 5 + j < ls.length * 5 := by omega
    have : cur[i * 5 + j]? = some u := by
      rw [← Array.getElem?_toList, ← List.getElem?_take_of_lt hb, hat, flat_get ls i s j hi hj5]
      exact hj
    unfold World.cell?
    rw [hg]
    exact this
set_option maxHeartbeats 2000000 in
set_option maxRecDepth 100000 in
theorem eq_any (va vb : Value) (ls : List Stp) (w : World) (ha : StpsAt w va ls) (hb : StpsAt w vb ls) (hl : ls.length ≤ 9223372036854775807) :
    Calls Tryd.prog 22 #[va, vb] w fun e w' => e = .returned (.bool true) ∧ ∃ q, w' = w.drewN q := by
  obtain ⟨pa, ca, rfl, ha⟩ := ha
  obtain ⟨pb, cb, rfl, hb⟩ := hb
  have HA := Lib.hid ha
  have HB := Lib.hid hb
  obtain ⟨n, hn⟩ : ∃ n, ls.length = n := ⟨_, rfl⟩
  rw [hn] at hl ⊢
  have HN := Lib.hid hn
  have hnn : ((n : Int) != (n : Int)) = false := by simp
  clear ha hb hn
  go_enter Tryd.func22, Tryd.ntmps22
  go_wp2
  go_loopw [5] (fun iv wr => ∃ i q : Nat, i ≤ n ∧ iv = .int .i64 i ∧ wr = w.drewN q) (fun iv _ => n - (intOf iv).toNat)
  case atStart => exact ⟨0, 0, Nat.zero_le _, rfl, rfl⟩
  case round =>
    obtain ⟨i, q, hi, rfl, rfl⟩ := hrel
    by_cases hlt : i < n
    · obtain ⟨s, hs⟩ : ∃ s, ls[i]? = some s := ⟨_, List.getElem?_eq_getElem (by rw [HN.out]; exact hlt)⟩
      obtain ⟨g, rfl, hca⟩ := HA.out i s hs
      obtain ⟨g2, rfl, hcb⟩ := HB.out i s hs
      have a0 : w.cell? ⟨g, i * 5, none⟩ = some (.string ⟨s.src.toArray⟩) := hca 0 _ rfl
      have b0 : w.cell? ⟨g2, i * 5, none⟩ = some (.string ⟨s.src.toArray⟩) := hcb 0 _ rfl
      have a1 : ∀ k, k < 4 → w.cell? ⟨g, i * 5 + 1 + k, none⟩ = some (.int .i64 (dOf s k)) := fun k hk => by
        have hk4 : k = 0 ∨ k = 1 ∨ k = 2 ∨ k = 3 := by omega
        rw [Nat.add_assoc, Nat.add_comm 1 k]
        rcases hk4 with rfl | rfl | rfl | rfl <;> exact hca _ _ rfl
      have b1 : ∀ k, k < 4 → w.cell? ⟨g2, i * 5 + 1 + k, none⟩ = some (.int .i64 (dOf s k)) := fun k hk => by
        have hk4 : k = 0 ∨ k = 1 ∨ k = 2 ∨ k = 3 := by omega
        rw [Nat.add_assoc, Nat.add_comm 1 k]
        rcases hk4 with rfl | rfl | rfl | rfl <;> exact hcb _ _ rfl
      have A1 := Lib.hid a1
      have B1 := Lib.hid b1
      have hii : (0 : Int) ≤ (i : Int) := by omega
      have him : (i : Int) < (n : Int) := by omega
      clear hs hca hcb a1 b1
      go_wp2
      go_quiet (fail)
      go_wp2
      clear a0 b0
      go_loopw [6] (fun kv wk => ∃ k q2 : Nat, k ≤ 4 ∧ kv = .int .i64 k ∧ wk = w.drewN q2) (fun kv _ => 4 - (intOf kv).toNat)
      case atStart => exact ⟨0, q + nq, by decide, rfl, by simp [World.drewN]; try omega⟩
      case round =>
        obtain ⟨k, q2, hk, rfl, rfl⟩ := hrel
        by_cases hk4 : k < 4
        · have a1 := A1.out k hk4
          have b1 := B1.out k hk4
          obtain ⟨dk, hdk⟩ : ∃ dk, dOf s k = dk := ⟨_, rfl⟩
          rw [hdk] at a1 b1
          have hdd : (dk != dk) = false := by simp
          have hki : (0 : Int) ≤ (k : Int) := by omega
          have hk4i : (k : Int) < 4 := by omega
          clear hdk
          go_wp2
          go_quiet (fail)
          go_wp2
          go_roundw
          case rel => exact ⟨k + 1, _, hk4, by go_num, by first | rfl | (simp [World.drewN]; try rfl)⟩
          case measure => simp [intOf]; omega
        · obtain rfl : k = 4 := by omega
          go_wp2
          go_roundw
          case rel => exact ⟨i + 1, q2, hlt, by go_num, rfl⟩
          case measure => simp [intOf]; omega
    · obtain rfl : i = n := by omega
      go_wp2
      go_ret
      exact ⟨rfl, q, rfl⟩
end Go.Proofs.YtpighkpdnifejaaDoor

namespace Go.Pol
open Go.Tx
theorem tail_le (m : Nat) : ∀ ws : List (List UInt8), (∀ x ∈ ws, x.length ≤ m) → (Lib.joinTail [32] ws).length ≤ ws.length * (m + 1)
  | [], _ => by simp [Lib.joinTail]
  | x :: ws, h => by
    have ih := tail_le m ws (fun y hy => h y (by simp [hy]))
    have hx := h x (by simp)
    simp only [Lib.joinTail, List.map_cons, List.flatten_cons, List.length_append, List.length_cons, List.length_nil] at ih ⊢
    rw [Nat.add_mul]
    omega
theorem join_le (m : Nat) (ws : List (List UInt8)) (h : ∀ x ∈ ws, x.length ≤ m) : (Lib.join ws [32]).length ≤ ws.length * (m + 1) := by
  cases ws with
  | nil => simp [Lib.join, List.intercalate]
  | cons x ws =>
    rw [Lib.join_cons, List.length_append]
    have := tail_le m ws (fun y hy => h y (by simp [hy]))
    have hx := h x (by simp)
    rw [List.length_cons, Nat.add_mul]
    omega
def brkW (rs : List (List UInt8)) : List UInt8 := [91] ++ Lib.join rs [32] ++ [93]
/-- A step in words. -/
def stpT (d : Nat → Int) (src : List UInt8) : List (List UInt8) := src :: (if rulT d 4 = [] then [] else [brkW (rulT d 4)])
theorem brkW_le (d : Nat → Int) : (brkW (rulT d 4)).length ≤ 80 := by
  have h1 := join_le 17 (rulT d 4) (rulT_word d 4)
  have h2 := rulT_len d 4
  have h3 : (rulT d 4).length * 18 ≤ 4 * 18 := Nat.mul_le_mul_right 18 h2
  unfold brkW
  simp only [List.length_append, List.length_cons, List.length_nil]
  omega
end Go.Pol
namespace Go.Proofs.YtpighkpdnifejaaDoor
open Go.RowKit Go.Lib Go.Tx Go.Pol
def wordsS (l : List Stp) : List (List UInt8) := [] :: l.flatMap fun s => stpT (dOf s) s.src
def printS (l : List Stp) : List UInt8 := Lib.join (wordsS l) [32]
theorem stpT_len (d : Nat → Int) (s : List UInt8) : (stpT d s).length ≤ 2 := by
  unfold stpT; split <;> simp
theorem flat_len2 (l : List Stp) : (l.flatMap fun s => stpT (dOf s) s.src).length ≤ 2 * l.length := by
  induction l with
  | nil => simp
  | cons s l ih =>
    have := stpT_len (dOf s) s.src
    rw [List.flatMap_cons, List.length_append, List.length_cons]
    omega
theorem words_le (l : List Stp) (hl : l.length ≤ 8) : (wordsS l).length ≤ 17 := by
  have := flat_len2 l
  unfold wordsS
  rw [List.length_cons]
  omega
theorem words_word (l : List Stp) (hs : ∀ s ∈ l, s.src.length ≤ 16) : ∀ x ∈ wordsS l, x.length ≤ 80 := by
  intro x hx
  unfold wordsS at hx
  rcases List.mem_cons.1 hx with rfl | hx
  · simp
  · obtain ⟨s, hsm, hx⟩ := List.mem_flatMap.1 hx
    unfold stpT at hx
    rcases List.mem_cons.1 hx with rfl | hx
    · have := hs s hsm; omega
    · split at hx
      · simp at hx
      · rw [List.mem_singleton.1 hx]; exact brkW_le _
theorem printS_le (l : List Stp) (hl : l.length ≤ 8) (hs : ∀ s ∈ l, s.src.length ≤ 16) : (printS l).length ≤ 1400 := by
  have h1 := join_le 80 (wordsS l) (words_word l hs)
  have h2 : (wordsS l).length * 81 ≤ 17 * 81 := Nat.mul_le_mul_right 81 (words_le l hl)
  unfold printS
  omega
/-- Another block than that of the row. -/
theorem own_ne {w : World} {B : Nat} {e e2 : TypeId} {size n : Nat} {v : Value} {xs : List Value} {k : Nat} {arr : Array Value} {fr : Nat × Nat} (h : w.ownsRow B e size v n xs) (hs : w.heap[k]? = some (.cells arr e2 fr)) (he : e2 ≠ e) : v.ownBlock ≠ some k := by
  rcases h.2 with ⟨a, _⟩ | ⟨g, cap, cur, a, _, a3, _⟩
  · rw [a]; intro h; cases h
  · rw [a]
    intro h
    cases h
    rw [hs] at a3
    cases a3
    exact he rfl
theorem join_any (B : Nat) (v : Value) (ws : List (List UInt8)) (m : Nat) (w : World) (hv : StrC B w v ws) (h0 : ws ≠ []) (hm : ∀ x ∈ ws, x.length ≤ m) (hb : ws.length * (m + 1) ≤ 1000000) :
    Calls Tryd.prog 36 #[v, .string ⟨#[32]⟩] w fun e w' => e = .returned (.string ⟨(Lib.join ws [32]).toArray⟩) ∧ Below w.heap.size w w' := by
  obtain ⟨A, c, rfl, hA, hw⟩ := words_at8 hv (w' := w) (fun _ _ _ => rfl) (Nat.le_refl _) h0
  have hlen : ws.length ≤ 1000000 := Nat.le_trans (Nat.le_mul_of_pos_right _ (by omega)) hb
  have hc : ws.length ≤ c := by
    rcases hv.2 with ⟨a, b⟩ | ⟨g, cap, cur, a, _, _, a4, _⟩
    · cases a
    · cases a; exact a4
  have hj := join_le m ws hm
  have e2 : ((ws.map fun l => (⟨l.toArray⟩ : ByteArray)).map (·.data.toList)) = ws := by
    rw [List.map_map]
    conv => rhs; rw [← List.map_id ws]
    apply List.map_congr_left
    intro x _
    simp
  have hl2 : (ws.map fun l => (⟨l.toArray⟩ : ByteArray)).length = ws.length := by simp
  have := Tryd.strings_Join A 0 c (ws.map fun l => (⟨l.toArray⟩ : ByteArray)) ⟨#[32]⟩ w (fun j x hj => by
    rw [List.getElem?_map] at hj
    obtain ⟨l, hl, rfl⟩ := Option.map_eq_some_iff.1 hj
    exact hw j l hl) hA (by rw [hl2]; omega) (by rw [hl2]; exact hc) (by rw [e2]; show (Lib.join ws [32]).length ≤ _; omega)
  rw [hl2, e2] at this
  exact this
set_option maxHeartbeats 4000000 in
set_option maxRecDepth 100000 in
theorem printSteps_any (v : Value) (l : List Stp) (w : World) (hg : PG w) (hv : StpsAt w v l) (hl : l.length ≤ 8) (hs : ∀ s ∈ l, s.src.length ≤ 16) :
    Calls Tryd.prog 24 #[v] w fun e w' => e = .returned (.string ⟨(printS l).toArray⟩) ∧ Below w.heap.size w w' := by
  obtain ⟨p, c, rfl, hat⟩ := hv
  have HAt := Lib.hid hat
  have HG := Lib.hid hg
  have HSz := Lib.hid hs
  obtain ⟨i9, hi, hz0, hz1, hz2⟩ := info_parts' info9
  have HW0 : Hid (StrC w.heap.size (w.alloc (.cells #[.string ⟨#[]⟩] 9)) (.slice (some ⟨w.heap.size, 0, none⟩) 1 1) (wordsS (l.take 0))) := Lib.hid (by
    refine ⟨rfl, .inr ⟨w.heap.size, 1, _, rfl, Nat.le_refl _, heap_alloc_new w _, Nat.le_refl _, by unfold maxLen; omega, rfl, rfl⟩⟩)
  clear hat hg hs
  go_enter Tryd.func24, Tryd.ntmps24
  go_wp2
  obtain ⟨n, hn⟩ : ∃ n, l.length = n := ⟨_, rfl⟩
  rw [hn] at hl ⊢
  have HN := Lib.hid hn
  clear hn
  go_loopw [3, 10] (fun sv iv wr => ∃ i : Nat, i ≤ n ∧ iv = .int .i64 i ∧ StrC w.heap.size wr sv (wordsS (l.take i)) ∧ Below w.heap.size w wr) (fun _ iv _ => n - (intOf iv).toNat)
  case atStart => exact ⟨0, Nat.zero_le _, rfl, HW0.out, (Below.refl _ _).alloc (Nat.le_refl _) _⟩
  case round =>
    obtain ⟨i, hin, rfl, hS, hB⟩ := hrel
    obtain ⟨pw, cw, rfl⟩ := hS.shape
    by_cases hlt : i < n
    · obtain ⟨s, hs⟩ : ∃ s, l[i]? = some s := ⟨_, List.getElem?_eq_getElem (by rw [HN.out]; exact hlt)⟩
      obtain ⟨g, rfl, hcs⟩ := HAt.out i s hs
      have hgl : g < w.heap.size := block_lt_of_cell (hcs 0 _ rfl)
      have k0 : wr.cell? ⟨g, i * 5, none⟩ = some (.string ⟨s.src.toArray⟩) := (hB.cell (p := ⟨g, i * 5, none⟩) hgl).trans (hcs 0 _ rfl)
      have k1 : wr.cell? ⟨g, i * 5 + 1, none⟩ = some (.int .i64 (dOf s 0)) := (hB.cell (p := ⟨g, i * 5 + 1, none⟩) hgl).trans (hcs 1 _ rfl)
      have k2 : wr.cell? ⟨g, i * 5 + 2, none⟩ = some (.int .i64 (dOf s 1)) := (hB.cell (p := ⟨g, i * 5 + 2, none⟩) hgl).trans (hcs 2 _ rfl)
      have k3 : wr.cell? ⟨g, i * 5 + 3, none⟩ = some (.int .i64 (dOf s 2)) := (hB.cell (p := ⟨g, i * 5 + 3, none⟩) hgl).trans (hcs 3 _ rfl)
      have k4 : wr.cell? ⟨g, i * 5 + 4, none⟩ = some (.int .i64 (dOf s 3)) := (hB.cell (p := ⟨g, i * 5 + 4, none⟩) hgl).trans (hcs 4 _ rfl)
      have hii : (0 : Int) ≤ (i : Int) := by omega
      have hin' : (i : Int) < (n : Int) := by omega
      have hsl := HSz.out s (List.mem_of_getElem? hs)
      have htk : l.take (i + 1) = l.take i ++ [s] := List.take_succ_eq_append_getElem (by rw [HN.out]; exact hlt) |>.trans (by rw [(List.getElem?_eq_some_iff.1 hs).2])
      have HTk : Hid (wordsS (l.take (i + 1)) = wordsS (l.take i) ++ stpT (dOf s) s.src) := Lib.hid (by
        rw [htk]
        unfold wordsS
        rw [List.flatMap_append]
        simp)
      have hwl : (wordsS (l.take i)).length ≤ 17 := words_le _ (by rw [List.length_take]; omega)
      obtain ⟨nw, hnw⟩ : ∃ nw, (wordsS (l.take i)).length = nw := ⟨_, rfl⟩
      have HS0 := Lib.hid hS
      have HB := Lib.hid hB
      have HSn : Hid (wr.ownsRow w.heap.size 9 1 (.slice pw nw cw) nw ((wordsS (l.take i)).map strV)) := Lib.hid (by unfold StrC at hS; rw [hnw] at hS; exact hS)
      rw [hnw] at hwl ⊢
      have HNw := Lib.hid hnw
      obtain ⟨X, hX⟩ : ∃ X : ByteArray, (⟨s.src.toArray⟩ : ByteArray) = X := ⟨_, rfl⟩
      rw [hX] at k0
      have HX : Hid (X.data.toList = s.src) := Lib.hid (by rw [← hX])
      clear hcs hs htk hS hB hnw hX hsl
      go_upto_region 5 with (fail)
      have hst1 : (wr.alloc (.cells #[.string X, .int .i64 (dOf s 0), .int .i64 (dOf s 1), .int .i64 (dOf s 2), .int .i64 (dOf s 3)] 47)).heap[wr.heap.size]? = some (.cells #[.string X, .int .i64 (dOf s 0), .int .i64 (dOf s 1), .int .i64 (dOf s 2), .int .i64 (dOf s 3)] 47 (0, 0)) := heap_alloc_new wr _
      have hb1 : Below wr.heap.size wr (wr.alloc (.cells #[.string X, .int .i64 (dOf s 0), .int .i64 (dOf s 1), .int .i64 (dOf s 2), .int .i64 (dOf s 3)] 47)) := (Below.refl _ wr).alloc (Nat.le_refl _) _
      obtain ⟨gs, hgs⟩ : ∃ gs, wr.heap.size = gs := ⟨_, rfl⟩
      have hBz := HB.out.size
      generalize (wr.alloc (.cells #[.string X, .int .i64 (dOf s 0), .int .i64 (dOf s 1), .int .i64 (dOf s 2), .int .i64 (dOf s 3)] 47)) = w1 at *
      have HS1n := Lib.hid (own_below HSn.out hb1)
      have HB1 := Lib.hid (HB.out.trans (hb1.mono hBz))
      have hz1' : w.heap.size ≤ w1.heap.size := HB1.out.size
      rw [hgs] at hst1 ⊢
      have HSt1 := Lib.hid hst1
      have s0 : w1.cell? ⟨gs, 0, none⟩ = some (.string X) := by unfold World.cell?; rw [hst1]; rfl
      have hg1l : gs < w1.heap.size := (Array.getElem?_eq_some_iff.1 hst1).1
      clear hst1 hb1 hgs hBz k0 k1 k2 k3 k4
      go_upto_region 6 with (at_builtin; refine wpList_append_own _ rfl _ _ 44 rfl w.heap.size 9 i9 (.string ⟨#[]⟩) 1 16 Tryd.underlying44 hi hz0 hz1 hz2 rfl (by decide) _ _ _ rfl (HS1n.out.alloc _) ⟨w1.heap.size, 0, none⟩ 1 1 [.string X] rfl rfl (newN w1 [.string X] _) (by simp [Value.oneCell']) (by unfold maxLen; omega) (by omega) (by show w.heap.size ≤ (w1.heap.push _).size; simp; omega) ?_; intro v2 w2 hown hg _; have HO2 := Lib.hid hown; have HG2 := Lib.hid hg; clear hown hg)
      have HB2 : Hid (Below w.heap.size w w2) := Lib.hid ((HB1.out.alloc hz1' _).grown HG2.out (by show w.heap.size ≤ (w1.heap.push _).size; simp; omega) (fun g hg => (HS1n.out.lt g hg).1))
      have hst2 : w2.heap[gs]? = some (.cells #[.string X, .int .i64 (dOf s 0), .int .i64 (dOf s 1), .int .i64 (dOf s 2), .int .i64 (dOf s 3)] 47 (0, 0)) :=
        (HG2.out.block gs (by show gs < (w1.heap.push _).size; simp; omega) (fun e => own_ne HS1n.out HSt1.out (by decide) e.symm)).trans ((Below.heap_alloc w1 _ gs hg1l).trans HSt1.out)
      have d0 : w2.cell? ⟨gs, 1, none⟩ = some (.int .i64 (dOf s 0)) := by unfold World.cell?; rw [hst2]; rfl
      have d1 : w2.cell? ⟨gs, 2, none⟩ = some (.int .i64 (dOf s 1)) := by unfold World.cell?; rw [hst2]; rfl
      have d2 : w2.cell? ⟨gs, 3, none⟩ = some (.int .i64 (dOf s 2)) := by unfold World.cell?; rw [hst2]; rfl
      have d3 : w2.cell? ⟨gs, 4, none⟩ = some (.int .i64 (dOf s 3)) := by unfold World.cell?; rw [hst2]; rfl
      have HRo := Lib.hid (rulesOf_any (dOf s) w2 (HG.out.below HB2.out))
      have hz2' : w.heap.size ≤ w2.heap.size := HB2.out.size
      clear hst2 s0
      go_upto_region 7 with (go_at_call 35; refine HRo.out.mono ?_; rintro e w3 ⟨v3, rfl, hv3, hb3⟩; obtain ⟨p3, c3, rfl⟩ := hv3.shape; have HV3 := Lib.hid hv3; have HB3 := Lib.hid hb3; clear hv3 hb3)
      have HS3n := Lib.hid (own_below HO2.out HB3.out)
      have hz3' : w.heap.size ≤ w3.heap.size := Nat.le_trans hz2' HB3.out.size
      obtain ⟨nr, hnr⟩ : ∃ nr, (rulT (dOf s) 4).length = nr := ⟨_, rfl⟩
      rw [hnr] at HV3 ⊢
      clear d0 d1 d2 d3
      by_cases hr : rulT (dOf s) 4 = []
      · obtain rfl : nr = 0 := by rw [← hnr, hr]; rfl
        have HW : Hid (wordsS (l.take (i + 1)) = wordsS (l.take i) ++ [s.src]) := Lib.hid (by rw [HTk.out]; unfold stpT; rw [if_pos hr])
        clear hr hnr
        go_wp2
        go_roundw
        case rel => exact ⟨i + 1, hlt, by go_num, by rw [HW.out]; exact StrC.push1 HS3n.out HNw.out HX.out, HB2.out.trans (HB3.out.mono hz2')⟩
        case measure => simp [intOf]; omega
      · have hn0 : (0 : Int) < (nr : Int) := by
          have := List.length_pos_iff.2 hr
          omega
        have HW : Hid (wordsS (l.take (i + 1)) = (wordsS (l.take i) ++ [s.src]) ++ [brkW (rulT (dOf s) 4)]) := Lib.hid (by rw [HTk.out]; unfold stpT; rw [if_neg hr, List.append_assoc]; rfl)
        have hJ := join_any w2.heap.size (.slice p3 nr c3) (rulT (dOf s) 4) 17 w3 (by rw [← hnr]; rw [← hnr] at HV3; exact HV3.out) hr (rulT_word _ _) (by have := rulT_len (dOf s) 4; omega)
        have hbk := brkW_le (dOf s)
        obtain ⟨J, hJe⟩ : ∃ J : ByteArray, (⟨(Lib.join (rulT (dOf s) 4) [32]).toArray⟩ : ByteArray) = J := ⟨_, rfl⟩
        rw [hJe] at hJ
        have hJd : J.data.toList = Lib.join (rulT (dOf s) 4) [32] := by rw [← hJe]
        have hJs : J.size ≤ 80 := by
          have e : J.data.toList.length = J.size := rfl
          unfold brkW at hbk
          simp only [List.length_append, List.length_cons, List.length_nil] at hbk
          rw [hJd] at e
          omega
        have HJ := Lib.hid hJ
        have HBr : Hid (((⟨#[91]⟩ : ByteArray) ++ J ++ ⟨#[93]⟩).data.toList = brkW (rulT (dOf s) 4)) := Lib.hid (by unfold brkW; rw [← hJd]; simp)
        have hq1 : ¬ 9223372036854775807 < 1 + J.size := by omega
        have hq2 : ¬ 9223372036854775807 < 1 + J.size + 1 := by omega
        clear hr hnr hJ hJe hJd hbk
        go_wp2_with (first | (go_at_call 36; refine HJ.out.mono ?_; rintro e w4 ⟨rfl, hb4⟩; have HB4 := Lib.hid hb4; have HS4n := Lib.hid (own_below HS3n.out hb4); have hz4' : w.heap.size ≤ w4.heap.size := Nat.le_trans hz3' hb4.size; clear hb4) | (at_builtin; refine wpList_append_own _ rfl _ _ 44 rfl w.heap.size 9 i9 (.string ⟨#[]⟩) 1 16 Tryd.underlying44 hi hz0 hz1 hz2 rfl (by decide) _ _ _ rfl (HS4n.out.alloc _) ⟨w4.heap.size, 0, none⟩ 1 1 [.string ((⟨#[91]⟩ : ByteArray) ++ J ++ ⟨#[93]⟩)] rfl rfl (newN w4 [.string ((⟨#[91]⟩ : ByteArray) ++ J ++ ⟨#[93]⟩)] _) (by simp [Value.oneCell']) (by unfold maxLen; omega) (by omega) (by show w.heap.size ≤ (w4.heap.push _).size; simp; omega) ?_; intro v5 w5 hown hg _; have HO5 := Lib.hid hown; have HG5 := Lib.hid hg; clear hown hg))
        go_roundw
        case rel => exact ⟨i + 1, hlt, by go_num, by rw [HW.out]; exact StrC.push1 (ws := wordsS (l.take i) ++ [s.src]) (by rw [List.map_append, show [s.src].map strV = [Value.string X] from by rw [← HX.out]; rfl]; exact HO5.out) (by rw [List.length_append, HNw.out]; rfl) HBr.out, (((HB2.out.trans (HB3.out.mono hz2')).trans (HB4.out.mono hz3')).alloc hz4' _).grown HG5.out (by show w.heap.size ≤ (w4.heap.push _).size; simp; omega) (fun g hg => (HS4n.out.lt g hg).1)⟩
        case measure => simp [intOf]; omega
    · obtain rfl : i = n := by omega
      have hfin : l.take i = l := List.take_of_length_le (by rw [HN.out]; exact Nat.le_refl _)
      rw [hfin] at hS ⊢
      have hJ := join_any w.heap.size _ (wordsS l) 80 wr hS (by unfold wordsS; simp) (words_word l HSz.out) (by have := words_le l (by rw [HN.out]; exact hl); omega)
      have HJ := Lib.hid hJ
      have HB := Lib.hid hB
      clear hS hB hJ hfin
      go_wp2_with (go_at_call 36; refine HJ.out.mono ?_; rintro e w4 ⟨rfl, hb4⟩; have HB4 := Lib.hid hb4; clear hb4)
      go_ret
      exact ⟨rfl, HB.out.trans (HB4.out.mono HB.out.size)⟩
end Go.Proofs.YtpighkpdnifejaaDoor

namespace Go.Proofs.YtpighkpdnifejaaDoor
open Go.RowKit Go.Lib Go.Tx Go.Pol
def printL (P : Nat → List Stp) (j : Nat) : List UInt8 := if 0 < j ∧ P j ≠ [] then dbW.getD j [] ++ printS (P j) ++ [10] else []
def printG (P : Nat → List Stp) (j : Nat) : List UInt8 := ((List.range j).map (printL P)).flatten
def printP (P : Nat → List Stp) : List UInt8 := printG P 5
theorem printG_succ (P : Nat → List Stp) (j : Nat) : printG P (j + 1) = printG P j ++ printL P j := by
  unfold printG
  rw [List.range_succ, List.map_append, List.flatten_append]
  simp
theorem db_len (j : Nat) : (dbW.getD j []).length ≤ 9 := by
  match j with
  | 0 => decide
  | 1 => decide
  | 2 => decide
  | 3 => decide
  | 4 => decide
  | n + 5 => exact (by simp [dbW] : (dbW.getD (n + 5) []).length ≤ 9)
theorem printL_le (P : Nat → List Stp) (j : Nat) (hl : (P j).length ≤ 8) (hs : ∀ s ∈ P j, s.src.length ≤ 16) : (printL P j).length ≤ 1410 := by
  unfold printL
  split
  · have h1 := printS_le (P j) hl hs
    have h2 := db_len j
    simp only [List.length_append, List.length_cons, List.length_nil]
    omega
  · simp
theorem printG_le (P : Nat → List Stp) (hl : ∀ j, j < 5 → (P j).length ≤ 8) (hs : ∀ j, j < 5 → ∀ s ∈ P j, s.src.length ≤ 16) : ∀ j, j ≤ 5 → (printG P j).length ≤ 1410 * j
  | 0, _ => by simp [printG]
  | j + 1, h => by
    have ih := printG_le P hl hs j (by omega)
    have := printL_le P j (hl j (by omega)) (hs j (by omega))
    rw [printG_succ, List.length_append]
    omega
theorem ix_pol (vs : Nat → Value) (i : Nat) (hi : i < 5) (W : World) : (Instr.index 26 (.agg #[vs 0, vs 1, vs 2, vs 3, vs 4]) (.int .i64 (i : Int))).run Tryd.prog W = .ok (vs i) W := by
  have key : ∀ k : Nat, k < 5 → (Instr.index 26 (.agg #[vs 0, vs 1, vs 2, vs 3, vs 4]) (.int .i64 (k : Int))).run Tryd.prog W = .ok (vs k) W := fun k hk => by
    have hh : k = 0 ∨ k = 1 ∨ k = 2 ∨ k = 3 ∨ k = 4 := by omega
    rcases hh with rfl | rfl | rfl | rfl | rfl <;> (apply Eq.symm; apply Eq.symm; kernel_rfl)
  exact key i hi
theorem StpsAt.below {w w' : World} {v : Value} {l : List Stp} (h : StpsAt w v l) (hb : Below w.heap.size w w') : StpsAt w' v l := by
  obtain ⟨p, c, e, h⟩ := h
  refine ⟨p, c, e, fun i s hs => ?_⟩
  obtain ⟨g, e2, hc⟩ := h i s hs
  refine ⟨g, e2, fun j u hj => ?_⟩
  have := hc j u hj
  exact (hb.cell (p := ⟨g, i * 5 + j, none⟩) (block_lt_of_cell this)).trans this
set_option maxHeartbeats 4000000 in
set_option maxRecDepth 100000 in
theorem print_any (vs : Nat → Value) (P : Nat → List Stp) (w : World) (hg : PG w) (hst : ∀ j, j < 5 → StpsAt w (vs j) (P j)) (hl : ∀ j, j < 5 → (P j).length ≤ 8) (hs : ∀ j, j < 5 → ∀ s ∈ P j, s.src.length ≤ 16) :
    Calls Tryd.prog 13 #[.agg #[vs 0, vs 1, vs 2, vs 3, vs 4]] w fun e w' => e = .returned (.string ⟨(printP P).toArray⟩) ∧ Below w.heap.size w w' := by
  have HG := Lib.hid hg
  have HSt := Lib.hid hst
  have HL := Lib.hid hl
  have HSz := Lib.hid hs
  have HIx := Lib.hid (ix_pol vs)
  have HGl := Lib.hid (printG_le P hl hs)
  clear hg hst hl hs
  go_enter Tryd.func13, Tryd.ntmps13
  go_wp2
  go_loopw [3, 8] (fun sv iv wr => ∃ i : Nat, i ≤ 5 ∧ iv = .int .i64 i ∧ sv = .string ⟨(printG P i).toArray⟩ ∧ Below w.heap.size w wr) (fun _ iv _ => 5 - (intOf iv).toNat)
  case atStart => exact ⟨0, by decide, rfl, rfl, (Below.refl _ _).alloc (Nat.le_refl _) _⟩
  case round =>
    obtain ⟨i, hi5, rfl, rfl, hB⟩ := hrel
    have HB := Lib.hid hB
    by_cases hlt : i < 5
    · have hix := fun W => HIx.out i hlt W
      have hst := (HSt.out i hlt)
      have hst2 := hst
      obtain ⟨pv, cv, hv, _⟩ := hst2
      rw [hv] at hix hst
      have HPs : Hid (∀ W, Below w.heap.size w W → Calls Tryd.prog 24 #[.slice pv (P i).length cv] W fun e w' => e = .returned (.string ⟨(printS (P i)).toArray⟩) ∧ Below W.heap.size W w') := Lib.hid (fun W hW => printSteps_any _ (P i) W (HG.out.below hW) (hst.below hW) (HL.out i hlt) (HSz.out i hlt))
      have hdb := (HG.out.below hB).dbAt i hlt
      have HPl : Hid (printG P (i + 1) = printG P i ++ printL P i) := Lib.hid (printG_succ P i)
      have hgl := HGl.out i hi5
      have hsl := printS_le (P i) (HL.out i hlt) (HSz.out i hlt)
      have hdl := db_len i
      obtain ⟨G, hG⟩ : ∃ G : ByteArray, (⟨(printG P i).toArray⟩ : ByteArray) = G := ⟨_, rfl⟩
      have hGs : G.size ≤ 7050 := by rw [← hG]; show (printG P i).toArray.size ≤ _; simp; omega
      obtain ⟨S, hS⟩ : ∃ S : ByteArray, (⟨(printS (P i)).toArray⟩ : ByteArray) = S := ⟨_, rfl⟩
      have hSs : S.size ≤ 1400 := by rw [← hS]; show (printS (P i)).toArray.size ≤ _; simp; omega
      obtain ⟨D, hD⟩ : ∃ D : ByteArray, (⟨(dbW.getD i []).toArray⟩ : ByteArray) = D := ⟨_, rfl⟩
      have hDs : D.size ≤ 9 := by rw [← hD]; show (dbW.getD i []).toArray.size ≤ _; simp at hdl ⊢; omega
      rw [hS] at HPs
      rw [hD] at hdb
      have HGd : Hid (G.data.toList = printG P i) := Lib.hid (by rw [← hG])
      have HSd : Hid (S.data.toList = printS (P i)) := Lib.hid (by rw [← hS])
      have HDd : Hid (D.data.toList = dbW.getD i []) := Lib.hid (by rw [← hD])
      have HG2 := Lib.hid hG
      rw [hG]
      obtain ⟨n, hn⟩ : ∃ n, (P i).length = n := ⟨_, rfl⟩
      rw [hn] at hix HPs
      have hn8 : n ≤ 8 := by rw [← hn]; exact HL.out i hlt
      have HN := Lib.hid hn
      have hii : (0 : Int) ≤ (i : Int) := by omega
      have hi5' : (i : Int) < 5 := by omega
      clear hgl hsl hdl hG hS hD hst hv hB hn
      by_cases hgo : 0 < i ∧ 0 < n
      · obtain ⟨hi1, hn1⟩ := hgo
        have hi1' : (0 : Int) < (i : Int) := by omega
        have hn1' : (0 : Int) < (n : Int) := by omega
        have HNx : Hid (((G ++ (D ++ S ++ (⟨#[10]⟩ : ByteArray)))).data.toList = printG P (i + 1)) := Lib.hid (by
          rw [HPl.out]
          unfold printL
          rw [if_pos ⟨hi1, fun e => by have := HN.out; rw [e] at this; simp at this; omega⟩, ← HGd.out, ← HSd.out, ← HDd.out]
          simp)
        have HSx : Hid (∀ V, Below w.heap.size w V → V.cell? ⟨0, i, none⟩ = some (.string D)) := Lib.hid (fun V hV => by
          have := (HG.out.below hV).dbAt i hlt
          rw [this]
          congr 2
          rw [← HDd.out])
        have q1 : ¬ 9223372036854775807 < D.size + S.size := by omega
        have q2 : ¬ 9223372036854775807 < D.size + S.size + 1 := by omega
        have q3 : ¬ 9223372036854775807 < G.size + (D.size + S.size + 1) := by omega
        clear hn1 hi1
        go_upto_region 6 with (fail)
        go_region_held3 (fun V => V.cell? ⟨0, i, none⟩ = some (.string D)) (first | exact HSx.out _ HB.out | exact HSx.out _ HB.out.drew | exact HSx.out _ HB4.out) (((go_at_call 24; refine (HPs.out _ (by first | exact HB.out.drew | exact HB.out)).mono ?_; rintro e w4 ⟨rfl, hb4⟩; have HB4 : Hid (Below w.heap.size w w4) := Lib.hid (by first | exact HB.out.drew.trans (hb4.mono HB.out.size) | exact HB.out.trans (hb4.mono HB.out.size)); clear hb4)))
        all_goals
          go_wp2
          go_roundw
          case rel => exact ⟨i + 1, hlt, by go_num, by rw [← HNx.out], HB4.out⟩
          case measure => simp [intOf]; omega
      · have HNx : Hid (printG P (i + 1) = printG P i) := Lib.hid (by
          rw [HPl.out]
          unfold printL
          rw [if_neg (fun e => hgo ⟨e.1, by rw [← HN.out]; exact List.length_pos_iff.2 e.2⟩)]
          simp)
        by_cases hi0 : i = 0
        · have hi1' : ¬ (0 : Int) < (i : Int) := by omega
          clear hi0 hgo
          go_wp2
          go_roundw
          case rel => exact ⟨i + 1, hlt, by go_num, by rw [HNx.out, HG2.out], HB.out⟩
          case measure => simp [intOf]; omega
        · have hi1' : (0 : Int) < (i : Int) := by omega
          have hn1' : ¬ (0 : Int) < (n : Int) := by omega
          clear hi0 hgo
          go_wp2
          go_roundw
          case rel => exact ⟨i + 1, hlt, by go_num, by rw [HNx.out, HG2.out], HB.out⟩
          case measure => simp [intOf]; omega
    · obtain rfl : i = 5 := by omega
      clear hB
      go_wp2
      go_ret
      exact ⟨rfl, HB.out⟩
end Go.Proofs.YtpighkpdnifejaaDoor

namespace Go.Proofs.YtpighkpdnifejaaDoor
open Go.RowKit Go.Lib Go.Extern.Stop Go.Stop
theorem j_tT (v : Value) (x : TypeId) (w : World) : (Instr.typeAssert (.iface 36 v) x 40 true).run Tryd.prog w = .ok (.tuple #[.int .i64 0, .bool false]) w := by kernel_rfl
theorem j_tC (v : Value) (x : TypeId) (w : World) : (Instr.typeAssert (.iface 40 v) x 40 true).run Tryd.prog w = .ok (.tuple #[v, .bool true]) w := by kernel_rfl
theorem j_wT (v : Value) (x : TypeId) (w : World) : (Instr.typeAssert (.iface 36 v) x 82 true).run Tryd.prog w = .ok (.tuple #[.iface 36 v, .bool true]) w := run_typeAssert_hasB Tryd.underlying82 (by kernel_rfl) v x w
theorem j_wC (v : Value) (x : TypeId) (w : World) : (Instr.typeAssert (.iface 40 v) x 82 true).run Tryd.prog w = .ok (.tuple #[.nilIface, .bool false]) w := run_typeAssert_lacksB Tryd.underlying82 (by kernel_rfl) (by kernel_rfl) v x w
theorem j_ne (t : TypeId) (x : Value) (w : World) : (binOp .neq 30 (.iface t x) .nilIface).run Tryd.prog w = .ok (.bool true) w := run_neq_iface_nil w _ (by kernel_rfl) _ _
theorem j_eq (t : TypeId) (x : Value) (w : World) : (binOp .eql 30 (.iface t x) .nilIface).run Tryd.prog w = .ok (.bool false) w := run_eql_iface_nil w _ (by kernel_rfl) _ _
theorem j_met (n : Nat) (v : Value) (w : World) : (Go.method (n + 1) 36 v "Unwrap").run Tryd.prog w = .ok (101, v) w := by kernel_rfl
theorem j_un (b : Nat) (l c : Int) (u : Value) (w : World) (h : w.heap[b]? = some (.cells #[.int .i64 l, .int .i64 c, u] 39 (0, 0))) :
    Calls Tryd.prog 101 #[.pointer (some ⟨b, 0, none⟩)] w fun e w' => e = .returned u ∧ w = w' := by
  have k1 : w.cell? ⟨b, 2, none⟩ = some u := by simp [World.cell?, h]
  clear h
  go_enter Tryd.func101, Tryd.ntmps101
  go_wp2
  go_ret
  exact ⟨rfl, rfl⟩
set_option maxRecDepth 100000 in
theorem is0_any (b : Nat) (l cl k c : Int) (w : World) (h : w.heap[b]? = some (.cells #[.int .i64 l, .int .i64 cl, .iface 40 (.int .i64 k)] 39 (0, 0))) :
    Calls Tryd.prog 23 #[.iface 36 (.pointer (some ⟨b, 0, none⟩)), .int .i64 c] w fun e w' => e = .returned (.bool (k == c)) ∧ w = w' := by
  have HU := Lib.hid (j_un b l cl _ w h)
  have t1 := j_tT
  have t2 := j_tC
  have t3 := j_wT
  have t4 := j_wC
  have t5 := j_ne
  have t6 := j_met
  clear h
  by_cases hk : k = c
  · subst hk
    have hq : (k == k) = true := by simp
    go_enter Tryd.func23, Tryd.ntmps23
    go_wp2
    refine wp_loop_rounds 2 ?_
    rw [rounds_succ]
    go_wp2_with (go_at_call 101; refine HU.out.mono ?_; rintro e w2 ⟨rfl, rfl⟩)
    rw [rounds_succ]
    go_wp2
    go_ret
    exact ⟨by simp, rfl⟩
  · have hq : (k == c) = false := by simpa using hk
    go_enter Tryd.func23, Tryd.ntmps23
    go_wp2
    refine wp_loop_rounds 2 ?_
    rw [rounds_succ]
    go_wp2_with (go_at_call 101; refine HU.out.mono ?_; rintro e w2 ⟨rfl, rfl⟩)
    rw [rounds_succ]
    go_wp2
    go_ret
    exact ⟨by rw [hq]; rfl, rfl⟩
end Go.Proofs.YtpighkpdnifejaaDoor

namespace Go.Proofs.YtpighkpdnifejaaDoor
open Go.RowKit Go.Lib Go.Tx Go.Pol Go.Extern.Stop Go.Stop
def noP : Nat → List Stp := fun _ => []
def polOf (l : List UInt8) : Except (Nat × Nat) (Nat → List Stp) := parseP (toldG 1 [] l) noP
theorem pparse_any (a : Option Addr) (n c : Nat) (l : List UInt8) (w : World) (h : BA w a n c l) (hold : ∀ x, a = some x → x.block < w.heap.size) (hn : n ≤ 1000000) (hg : PG w) :
    Calls Tryd.prog 9 #[.slice a n c] w (PParR w (polOf l)) := by
  have hl := h.len
  have hf := toldG_fineP 2000000 l 1 [] (by omega)
  exact pparse_core a n c (toldG 1 [] l) w hg hf.1 (by have := hf.2; omega) (fun W (hb : Below w.heap.size w W) => lines_any a n c l W (h.below hb hold) (fun x hx => Nat.lt_of_lt_of_le (hold x hx) hb.size) hn)
theorem rparse_any (a : Option Addr) (n c : Nat) (l : List UInt8) (w : World) (h : BA w a n c l) (hold : ∀ x, a = some x → x.block < w.heap.size) (hn : n ≤ 1000000) :
    Calls Tryd.prog 10 #[.slice a n c] w (RParR w (polOf l)) := by
  have hl := h.len
  have hf := toldG_fineP 2000000 l 1 [] (by omega)
  exact rparse_core a n c (toldG 1 [] l) w hf.1 (by have := hf.2; omega) (fun W (hb : Below w.heap.size w W) => rlines_any a n c l W (h.below hb hold) (fun x hx => Nat.lt_of_lt_of_le (hold x hx) hb.size) hn)
theorem short_le (a : Option Addr) (n c m : Nat) (w : World) (hc : n ≤ c) (hm : c ≤ 9223372036854775807) (h : n ≤ m) :
    Calls Tryd.prog 8 #[.slice a n c, .int .i64 m] w fun e w' => e = .returned (.slice a n c) ∧ w = w' := by
  go_enter Tryd.func8, Tryd.ntmps8
  go_wp2
  go_ret
  exact ⟨rfl, rfl⟩
theorem short_gt (a : Option Addr) (n c m : Nat) (w : World) (hc : n ≤ c) (hm : c ≤ 9223372036854775807) (h : m < n) :
    Calls Tryd.prog 8 #[.slice a n c, .int .i64 m] w fun e w' => e = .returned (.slice a m c) ∧ w = w' := by
  go_enter Tryd.func8, Tryd.ntmps8
  go_wp2
  go_ret
  exact ⟨rfl, rfl⟩
set_option maxRecDepth 100000 in
theorem code_bad (b : Nat) (l cl : Int) (w : World) (h : w.heap[b]? = some (.cells #[.int .i64 l, .int .i64 cl, .iface 40 (.int .i64 5)] 39 (0, 0))) :
    Calls Tryd.prog 12 #[.iface 36 (.pointer (some ⟨b, 0, none⟩))] w fun e w' => e = .returned (.int .i64 5) ∧ Below w.heap.size w w' := by
  have hlt : b < w.heap.size := (Array.getElem?_eq_some_iff.1 h).1
  have HIs : Hid (∀ (c : Int) (o : Obj), Calls Tryd.prog 23 #[.iface 36 (.pointer (some ⟨b, 0, none⟩)), .int .i64 c] (w.alloc o) fun e w' => e = .returned (.bool ((5 : Int) == c)) ∧ w.alloc o = w') := Lib.hid (fun c o => is0_any b l cl 5 c (w.alloc o) ((Below.heap_alloc w o b hlt).trans h))
  have t5 := j_eq
  clear h
  go_enter Tryd.func12, Tryd.ntmps12
  go_wp2
  refine wp_loop_rounds 5 ?_
  rw [rounds_succ]
  go_wp2_with (go_at_call 23; refine (HIs.out _ _).mono ?_; rintro e w2 ⟨rfl, rfl⟩)
  rw [rounds_succ]
  go_wp2_with (go_at_call 23; refine (HIs.out _ _).mono ?_; rintro e w2 ⟨rfl, rfl⟩)
  rw [rounds_succ]
  go_wp2_with (go_at_call 23; refine (HIs.out _ _).mono ?_; rintro e w2 ⟨rfl, rfl⟩)
  rw [rounds_succ]
  go_wp2_with (go_at_call 23; refine (HIs.out _ _).mono ?_; rintro e w2 ⟨rfl, rfl⟩)
  rw [rounds_succ]
  go_wp2_with (go_at_call 23; refine (HIs.out _ _).mono ?_; rintro e w2 ⟨rfl, rfl⟩)
  go_ret
  exact ⟨rfl, (Below.refl _ _).alloc (Nat.le_refl _) _⟩
theorem StpsAt.heap {w w' : World} {v : Value} {l : List Stp} (h : StpsAt w v l) (hh : w'.heap = w.heap) : StpsAt w' v l := by
  obtain ⟨p, c, e, h⟩ := h
  refine ⟨p, c, e, fun i s hs => ?_⟩
  obtain ⟨g, e2, hc⟩ := h i s hs
  exact ⟨g, e2, fun j u hj => by rw [← hc j u hj]; unfold World.cell?; rw [hh]⟩
set_option maxHeartbeats 2000000 in
set_option maxRecDepth 100000 in
theorem same_any (vs us : Nat → Value) (P : Nat → List Stp) (w : World) (hv : ∀ j, j < 5 → StpsAt w (vs j) (P j)) (hu : ∀ j, j < 5 → StpsAt w (us j) (P j)) (hl : ∀ j, j < 5 → (P j).length ≤ 9223372036854775807) :
    Calls Tryd.prog 11 #[.agg #[vs 0, vs 1, vs 2, vs 3, vs 4], .agg #[us 0, us 1, us 2, us 3, us 4]] w fun e w' => e = .returned (.bool true) ∧ Below w.heap.size w w' := by
  obtain ⟨W1, hW1⟩ : ∃ W1, (w.alloc (.cells (pArr vs) 28)).alloc (.cells (pArr us) 26) = W1 := ⟨_, rfl⟩
  have hb1 : Below w.heap.size w W1 := by rw [← hW1]; exact ((Below.refl _ w).alloc (Nat.le_refl _) _).alloc (by show w.heap.size ≤ (w.heap.push _).size; simp) _
  have hc1 : W1.heap[w.heap.size]? = some (.cells (pArr vs) 28 (0, 0)) := by rw [← hW1]; exact heap_alloc2_old w _ _
  have hc2 : W1.heap[w.heap.size + 1]? = some (.cells (pArr us) 26 (0, 0)) := by rw [← hW1]; exact heap_alloc2_new w _ _
  have HV : Hid (∀ W : World, W.heap = W1.heap → ∀ j, j < 5 → StpsAt W (vs j) (P j)) := Lib.hid (fun W hW j hj => ((hv j hj).below hb1).heap hW)
  have HU : Hid (∀ W : World, W.heap = W1.heap → ∀ j, j < 5 → StpsAt W (us j) (P j)) := Lib.hid (fun W hW j hj => ((hu j hj).below hb1).heap hW)
  have HL := Lib.hid hl
  have HB1 := Lib.hid hb1
  have HC1 := Lib.hid hc1
  have HC2 := Lib.hid hc2
  clear hv hu hl hb1 hc1 hc2
  unfold pArr at hW1
  go_enter Tryd.func11, Tryd.ntmps11
  go_upto_region 1 with (fail)
  clear hW1
  go_wp2
  go_loopw [5] (fun iv wr => ∃ i : Nat, i ≤ 5 ∧ iv = .int .i64 i ∧ wr.heap = W1.heap ∧ Below w.heap.size w wr) (fun iv _ => 5 - (intOf iv).toNat)
  case atStart => exact ⟨0, by decide, rfl, rfl, HB1.out⟩
  case round =>
    obtain ⟨i, hi, rfl, hh, hB⟩ := hrel
    have HB := Lib.hid hB
    have HH := Lib.hid hh
    by_cases hlt : i < 5
    · have c1 : wr.cell? ⟨w.heap.size, i, none⟩ = some (vs i) := by unfold World.cell?; rw [hh, HC1.out]; exact pArr_at vs i hlt
      have c2 : wr.cell? ⟨w.heap.size + 1, i, none⟩ = some (us i) := by unfold World.cell?; rw [hh, HC2.out]; exact pArr_at us i hlt
      have HEq : Hid (∀ q, Calls Tryd.prog 22 #[vs i, us i] (wr.drewN q) fun e w' => e = .returned (.bool true) ∧ ∃ m, w' = (wr.drewN q).drewN m) := Lib.hid (fun q => eq_any (vs i) (us i) (P i) (wr.drewN q) (HV.out (wr.drewN q) HH.out i hlt) (HU.out (wr.drewN q) HH.out i hlt) (HL.out i hlt))
      have hii : (0 : Int) ≤ (i : Int) := by omega
      have hi5 : (i : Int) < 5 := by omega
      clear hh hB
      go_upto_region 4 with (fail)
      go_quiet ((go_at_call 22; exact Calls.quiet_of (HEq.out _)))
      go_wp2
      go_roundw
      case rel => exact ⟨i + 1, hlt, by go_num, HH.out, ⟨HB.out.os, HB.out.tape, HB.out.output, HB.out.size, HB.out.block⟩⟩
      case measure => simp [intOf]; omega
    · clear hh hB
      obtain rfl : i = 5 := by omega
      go_wp2
      go_ret
      exact ⟨rfl, HB.out⟩
end Go.Proofs.YtpighkpdnifejaaDoor

namespace Go.Proofs.YtpighkpdnifejaaDoor
open Go.RowKit Go.Lib Go.Tx Go.Pol
theorem mark_any {w : World} {b : Nat} {arr : Array Value} (h : w.heap[b]? = some (.cells arr 5 (0, 0))) (n c : Nat) :
    ∃ w' fr', (convert 22 22 (.slice (some ⟨b, 0, none⟩) n c)).run Tryd.prog w = .ok (.slice (some ⟨b, 0, none⟩) n c) w' ∧ w'.heap[b]? = some (.cells arr 5 fr') ∧ (∀ k, k ≠ b → w'.heap[k]? = w.heap[k]?) ∧ w'.heap.size = w.heap.size ∧ w'.os = w.os ∧ w'.tape = w.tape ∧ w'.output = w.output := by
  obtain ⟨w', fr', e1, e2, e3, e4, e5, e6, e7, e8⟩ := Go.Ev.freeze_at h ⟨fun i hi h => by simp only at h; omega, by simp⟩
  have hsh : w.shape? b = some (5, arr.size) := by unfold World.shape?; rw [h]
  refine ⟨w', fr', ?_, e3, e4, e5, e6, e7, e8⟩
  simp [convert, Go.Ev.run_und Tryd.underlying22, Go.Ev.run_und Tryd.underlying5, markStringish, hsh, e1]
theorem ba_lit {w : World} {b : Nat} {arr : Array Value} {fr : Nat × Nat} {l : List UInt8} (h : w.heap[b]? = some (.cells arr 5 fr)) (ha : arr = (l.map fun c => Value.int .u8 (c.toNat : Int)).toArray) (hl : l.length ≤ 9223372036854775807) : BA w (some ⟨b, 0, none⟩) l.length l.length l :=
  ⟨rfl, Nat.le_refl _, hl, (fun h => by cases h), fun x hx j c hj => by
    cases hx
    have e : (⟨b, 0, none⟩ : Addr).add j = ⟨b, j, none⟩ := by unfold Addr.add; split <;> simp_all
    rw [e]
    subst ha
    simp [World.cell?, h, hj]⟩
/-- Bytes written as a literal, marked: what a caller reads. -/
theorem lit_any (w : World) (arr : Array Value) (l : List UInt8) (ha : arr = (l.map fun c => Value.int .u8 (c.toNat : Int)).toArray) (hl : l.length ≤ 9223372036854775807) :
    ∃ w', (convert 22 22 (.slice (some ⟨w.heap.size, 0, none⟩) l.length l.length)).run Tryd.prog (w.alloc (.cells arr 5)) = .ok (.slice (some ⟨w.heap.size, 0, none⟩) l.length l.length) w' ∧ BA w' (some ⟨w.heap.size, 0, none⟩) l.length l.length l ∧ w.heap.size < w'.heap.size ∧ Below w.heap.size w w' := by
  obtain ⟨w', fr', h1, h2, h3, h4, h5, h6, h7⟩ := mark_any (heap_alloc_new w (.cells arr 5)) l.length l.length
  have hs : (w.alloc (.cells arr 5)).heap.size = w.heap.size + 1 := by show (w.heap.push _).size = _; simp
  refine ⟨w', h1, ba_lit h2 ha hl, by omega, h5, h6, h7, by omega, fun k hk => ?_⟩
  rw [h3 k (by omega)]
  exact Below.heap_alloc w _ k hk
def bytesA : List UInt8 := [104, 111, 115, 116, 115, 58, 32, 102, 105, 108, 101, 115, 32, 91, 78, 79, 84, 70, 79, 85, 78, 68, 61, 114, 101, 116, 117, 114, 110, 93, 32, 100, 110, 115, 10]
def bytesB : List UInt8 := [104, 111, 115, 116, 115, 58, 32, 91, 97, 93, 10]
def tupS (s : Stp) : List UInt8 × Int × Int × Int × Int := (s.src, s.d0, s.d1, s.d2, s.d3)
/-- A policy, so that one can look at it. -/
def viewP (r : Except (Nat × Nat) (Nat → List Stp)) : Option (List (List (List UInt8 × Int × Int × Int × Int)) × List UInt8) := match r with
  | .ok P => some ((List.range 5).map fun j => (P j).map tupS, printP P)
  | .error _ => none
def viewE (r : Except (Nat × Nat) (Nat → List Stp)) : Option (Nat × Nat) := match r with
  | .ok _ => none
  | .error q => some q
theorem viewE_bad {r : Except (Nat × Nat) (Nat → List Stp)} {q : Nat × Nat} (h : viewE r = some q) : r = .error q := by
  cases r with
  | ok P => cases h
  | error q' => simp [viewE] at h; rw [h]
theorem tup_inj {l : List Stp} {ts : List (List UInt8 × Int × Int × Int × Int)} (h : l.map tupS = ts) : l = ts.map fun x => ⟨x.1, x.2.1, x.2.2.1, x.2.2.2.1, x.2.2.2.2⟩ := by
  subst h
  rw [List.map_map]
  conv => lhs; rw [← List.map_id l]
  apply List.map_congr_left
  intro s _
  rfl
instance decT : DecidableEq (List UInt8 × Int × Int × Int × Int) := inferInstance
instance decT2 : DecidableEq (List (List (List UInt8 × Int × Int × Int × Int)) × List UInt8) := inferInstance
theorem viewA : viewP (polOf bytesA) = some ([[], [([102, 105, 108, 101, 115], 1, 1, 2, 2), ([100, 110, 115], 1, 2, 2, 2)], [], [], []], bytesA) := by decide +kernel
theorem viewB : viewE (polOf bytesB) = some (1, 2) := by decide +kernel
theorem begA_plain : ∃ P, polOf bytesA = .ok P ∧ P 1 = [⟨[102, 105, 108, 101, 115], 1, 1, 2, 2⟩, ⟨[100, 110, 115], 1, 2, 2, 2⟩] ∧ P 0 = [] ∧ P 2 = [] ∧ P 3 = [] ∧ P 4 = [] ∧ printP P = bytesA := by
  have h := viewA
  cases hr : polOf bytesA with
  | error q => rw [hr] at h; cases h
  | ok P =>
    rw [hr] at h
    simp only [viewP, Option.some.injEq, Prod.mk.injEq] at h
    obtain ⟨h1, h2⟩ := h
    have hl : (List.range 5).map (fun j => (P j).map tupS) = [(P 0).map tupS, (P 1).map tupS, (P 2).map tupS, (P 3).map tupS, (P 4).map tupS] := rfl
    rw [hl] at h1
    simp only [List.cons.injEq, List.map_eq_nil_iff, and_true] at h1
    exact ⟨P, rfl, tup_inj h1.2.1, h1.1, h1.2.2.1, h1.2.2.2.1, h1.2.2.2.2, h2⟩
/-- What the first text gives. -/
def BegA (w : World) (e : Ending) (w' : World) : Prop := ∃ p0 c0 p1 c1 p2 c2 p3 c3 p4 c4, e = .returned (.tuple #[.agg #[.slice p0 0 c0, .slice (some ⟨p1, 0, none⟩) 2 c1, .slice p2 0 c2, .slice p3 0 c3, .slice p4 0 c4], .nilIface]) ∧ 2 ≤ c1 ∧ Below w.heap.size w w' ∧ (∀ W, Below w'.heap.size w' W → W.cell? ⟨p1, 2, none⟩ = some (.int .i64 1)) ∧
  Hid (∀ W, Below w'.heap.size w' W → PG W → Calls Tryd.prog 13 #[.agg #[.slice p0 0 c0, .slice (some ⟨p1, 0, none⟩) 2 c1, .slice p2 0 c2, .slice p3 0 c3, .slice p4 0 c4]] W fun e w'' => e = .returned (.string ⟨#[104, 111, 115, 116, 115, 58, 32, 102, 105, 108, 101, 115, 32, 91, 78, 79, 84, 70, 79, 85, 78, 68, 61, 114, 101, 116, 117, 114, 110, 93, 32, 100, 110, 115, 10]⟩) ∧ Below W.heap.size W w'')
theorem begA_any (b : Nat) (w : World) (h : BA w (some ⟨b, 0, none⟩) 35 35 bytesA) (hb : b < w.heap.size) (hg : PG w) : Calls Tryd.prog 9 #[.slice (some ⟨b, 0, none⟩) 35 35] w (BegA w) := by
  obtain ⟨P, hP, h1, h0, h2, h3, h4, hpr⟩ := begA_plain
  refine (pparse_any _ _ _ _ w h (fun x hx => by cases hx; exact hb) (by decide) hg).mono fun e w' hq => ?_
  obtain ⟨hbel, hm⟩ := hq
  rw [hP] at hm
  obtain ⟨vs, he, hst⟩ := hm
  have hl : ∀ j, j < 5 → (P j).length ≤ 8 ∧ ∀ s ∈ P j, s.src.length ≤ 16 := fun j hj => by
    have hj5 : j = 0 ∨ j = 1 ∨ j = 2 ∨ j = 3 ∨ j = 4 := by omega
    rcases hj5 with rfl | rfl | rfl | rfl | rfl
    · rw [h0]; simp
    · rw [h1]; simp
    · rw [h2]; simp
    · rw [h3]; simp
    · rw [h4]; simp
  have hs1 := hst 1 (by decide)
  rw [h1] at hs1
  obtain ⟨p, c, hv1⟩ := hs1.shape
  obtain ⟨p', c', hv1', hat⟩ := StpsAt.of hs1
  have hc2 : 2 ≤ c := by
    rcases hs1.2 with ⟨_, q⟩ | ⟨g, cap, cur, a, _, _, a4, _⟩
    · cases q
    · rw [hv1] at a; cases a; exact a4
  obtain ⟨g, hg0, hcell⟩ := hat 0 _ rfl
  rw [hv1] at hv1'
  cases hv1'
  subst hg0
  obtain ⟨q0, e0, hv0⟩ := (hst 0 (by decide)).shape
  obtain ⟨q2, e2, hv2⟩ := (hst 2 (by decide)).shape
  obtain ⟨q3, e3, hv3⟩ := (hst 3 (by decide)).shape
  obtain ⟨q4, e4, hv4⟩ := (hst 4 (by decide)).shape
  rw [h0] at hv0
  rw [h2] at hv2
  rw [h3] at hv3
  rw [h4] at hv4
  refine ⟨q0, e0, g, c, q2, e2, q3, e3, q4, e4, ?_, hc2, hbel, fun W hW => ?_, Lib.hid (fun W hW hgW => ?_)⟩
  · rw [he]; unfold pArr; rw [hv0, hv1, hv2, hv3, hv4]; rfl
  · have := hcell 2 (.int .i64 1) rfl
    exact (hW.cell (p := ⟨g, 2, none⟩) (block_lt_of_cell this)).trans this
  · have := print_any vs P W hgW (fun j hj => (StpsAt.of (hst j hj)).below hW) (fun j hj => (hl j hj).1) (fun j hj => (hl j hj).2)
    rw [hpr, hv0, hv1, hv2, hv3, hv4] at this
    exact this
set_option maxHeartbeats 2000000 in
set_option maxRecDepth 100000 in
theorem begun_any (w : World) (hg : PG w) :
    Calls Tryd.prog 7 #[] w fun e w' => e = .returned (.bool true) ∧ Below w.heap.size w w' := by
  obtain ⟨w1, hc, hba, hlt, hb1⟩ := lit_any w _ bytesA rfl (by decide)
  have HPa := Lib.hid (begA_any w.heap.size w1 hba hlt (hg.below hb1))
  have hc2 : (convert 22 22 (.slice (some ⟨w.heap.size, 0, none⟩) 35 35)).run Tryd.prog (w.alloc (.cells #[.int .u8 104, .int .u8 111, .int .u8 115, .int .u8 116, .int .u8 115, .int .u8 58, .int .u8 32, .int .u8 102, .int .u8 105, .int .u8 108, .int .u8 101, .int .u8 115, .int .u8 32, .int .u8 91, .int .u8 78, .int .u8 79, .int .u8 84, .int .u8 70, .int .u8 79, .int .u8 85, .int .u8 78, .int .u8 68, .int .u8 61, .int .u8 114, .int .u8 101, .int .u8 116, .int .u8 117, .int .u8 114, .int .u8 110, .int .u8 93, .int .u8 32, .int .u8 100, .int .u8 110, .int .u8 115, .int .u8 10] 5)) = .ok (.slice (some ⟨w.heap.size, 0, none⟩) 35 35) w1 := hc
  have HG := Lib.hid hg
  have HB1 := Lib.hid hb1
  have hlt1 := hlt
  have t5 := j_eq
  clear hc hba hlt hb1 hg
  go_enter Tryd.func7, Tryd.ntmps7
  go_upto_region 2 with (go_at_call 9; refine HPa.out.mono ?_; rintro e w2 ⟨p0, c0, p1, c1, p2, c2, p3, c3, p4, c4, rfl, hc1, hb2, hcell2, hpr2⟩; have HB2 := Lib.hid hb2; have HC2 := Lib.hid hcell2; clear hb2 hcell2)
  clear hc2
  have hs3 : (w2.alloc (.cells #[.slice p0 0 c0, .slice (some ⟨p1, 0, none⟩) 2 c1, .slice p2 0 c2, .slice p3 0 c3, .slice p4 0 c4] 28)).heap[w2.heap.size]? = some (.cells #[.slice p0 0 c0, .slice (some ⟨p1, 0, none⟩) 2 c1, .slice p2 0 c2, .slice p3 0 c3, .slice p4 0 c4] 28 (0, 0)) := heap_alloc_new w2 _
  have hb3 : Below w2.heap.size w2 (w2.alloc (.cells #[.slice p0 0 c0, .slice (some ⟨p1, 0, none⟩) 2 c1, .slice p2 0 c2, .slice p3 0 c3, .slice p4 0 c4] 28)) := (Below.refl _ w2).alloc (Nat.le_refl _) _
  generalize (w2.alloc (.cells #[.slice p0 0 c0, .slice (some ⟨p1, 0, none⟩) 2 c1, .slice p2 0 c2, .slice p3 0 c3, .slice p4 0 c4] 28)) = w3 at *
  have HB13 : Hid (Below w.heap.size w w3) := Lib.hid ((HB1.out.trans (HB2.out.mono HB1.out.size)).trans (hb3.mono (Nat.le_trans HB1.out.size HB2.out.size)))
  obtain ⟨w4, hc4, hba4, hlt4, hb4⟩ := lit_any w3 _ bytesB rfl (by decide)
  have hc5 : (convert 22 22 (.slice (some ⟨w3.heap.size, 0, none⟩) 11 11)).run Tryd.prog (w3.alloc (.cells #[.int .u8 104, .int .u8 111, .int .u8 115, .int .u8 116, .int .u8 115, .int .u8 58, .int .u8 32, .int .u8 91, .int .u8 97, .int .u8 93, .int .u8 10] 5)) = .ok (.slice (some ⟨w3.heap.size, 0, none⟩) 11 11) w4 := hc4
  have HPb : Hid (Calls Tryd.prog 9 #[.slice (some ⟨w3.heap.size, 0, none⟩) 11 11] w4 fun e w' => ∃ b, e = .returned (.tuple #[.agg #[.slice none 0 0, .slice none 0 0, .slice none 0 0, .slice none 0 0, .slice none 0 0], .iface 36 (.pointer (some ⟨b, 0, none⟩))]) ∧ Below w4.heap.size w4 w' ∧ Hid (∀ W, Below w'.heap.size w' W → Calls Tryd.prog 12 #[.iface 36 (.pointer (some ⟨b, 0, none⟩))] W fun e w'' => e = .returned (.int .i64 5) ∧ Below W.heap.size W w'')) := Lib.hid (by
    refine (pparse_any _ _ _ _ w4 hba4 (fun x hx => by cases hx; exact hlt4) (by decide) (HG.out.below (HB13.out.trans (hb4.mono HB13.out.size)))).mono fun e w' hq => ?_
    obtain ⟨hbel, hm⟩ := hq
    rw [viewE_bad viewB] at hm
    obtain ⟨b, he, hh, _⟩ := hm
    exact ⟨b, he, hbel, Lib.hid (fun W hW => code_bad b _ _ W ((hW.block b (Array.getElem?_eq_some_iff.1 hh).1).trans hh))⟩)
  have HB4 := Lib.hid hb4
  have hs3l : w2.heap.size < w3.heap.size := (Array.getElem?_eq_some_iff.1 hs3).1
  have HS3 := Lib.hid hs3
  have HB3 := Lib.hid hb3
  clear hc4 hba4 hb4 hs3 hb3
  go_upto_region 3 with (go_at_call 9; refine HPb.out.mono ?_; rintro e w5 ⟨b5, rfl, hb5, hcd5⟩; have HB5 := Lib.hid hb5; clear hb5)
  clear hc5
  have hb6 : Below w5.heap.size w5 (w5.alloc (.cells #[.slice none 0 0, .slice none 0 0, .slice none 0 0, .slice none 0 0, .slice none 0 0] 28)) := (Below.refl _ w5).alloc (Nat.le_refl _) _
  generalize (w5.alloc (.cells #[.slice none 0 0, .slice none 0 0, .slice none 0 0, .slice none 0 0, .slice none 0 0] 28)) = w6 at *
  have HB36 : Hid (Below w3.heap.size w3 w6) := Lib.hid ((HB4.out.trans (HB5.out.mono HB4.out.size)).trans (hb6.mono (Nat.le_trans HB4.out.size HB5.out.size)))
  have HB16 : Hid (Below w.heap.size w w6) := Lib.hid (HB13.out.trans (HB36.out.mono HB13.out.size))
  have HB26 : Hid (Below w2.heap.size w2 w6) := Lib.hid (HB3.out.trans (HB36.out.mono HB3.out.size))
  have HS6 : Hid (w6.heap[w2.heap.size]? = some (.cells #[.slice p0 0 c0, .slice (some ⟨p1, 0, none⟩) 2 c1, .slice p2 0 c2, .slice p3 0 c3, .slice p4 0 c4] 28 (0, 0))) := Lib.hid ((HB36.out.block _ hs3l).trans HS3.out)
  have r0 : w6.cell? ⟨w2.heap.size, 0, none⟩ = some (.slice p0 0 c0) := by unfold World.cell?; rw [HS6.out]; rfl
  have r1 : w6.cell? ⟨w2.heap.size, 1, none⟩ = some (.slice (some ⟨p1, 0, none⟩) 2 c1) := by unfold World.cell?; rw [HS6.out]; rfl
  have r2 : w6.cell? ⟨w2.heap.size, 2, none⟩ = some (.slice p2 0 c2) := by unfold World.cell?; rw [HS6.out]; rfl
  have r3 : w6.cell? ⟨w2.heap.size, 3, none⟩ = some (.slice p3 0 c3) := by unfold World.cell?; rw [HS6.out]; rfl
  have r4 : w6.cell? ⟨w2.heap.size, 4, none⟩ = some (.slice p4 0 c4) := by unfold World.cell?; rw [HS6.out]; rfl
  have k2 := HC2.out w6 HB26.out
  have HPr := Lib.hid (hpr2.out w6 HB26.out (HG.out.below HB16.out))
  have HCd : Hid (∀ W, Below w6.heap.size w6 W → Calls Tryd.prog 12 #[.iface 36 (.pointer (some ⟨b5, 0, none⟩))] W fun e w'' => e = .returned (.int .i64 5) ∧ Below W.heap.size W w'') := Lib.hid (fun W hW => hcd5.out W (hb6.trans (hW.mono hb6.size)))
  clear hb6 hpr2 hcd5
  go_wp2_with (first | (go_at_call 13; refine HPr.out.mono ?_; rintro e w7 ⟨rfl, hb7⟩; have HB7 := Lib.hid hb7; clear hb7) | (go_at_call 12; refine (HCd.out _ HB7.out).mono ?_; rintro e w8 ⟨rfl, hb8⟩; have HB8 := Lib.hid hb8; clear hb8))
  go_ret
  exact ⟨rfl, (HB16.out.trans (HB7.out.mono HB16.out.size)).trans (HB8.out.mono (Nat.le_trans HB16.out.size HB7.out.size))⟩
end Go.Proofs.YtpighkpdnifejaaDoor

namespace Go.Pol
open Go.Tx
theorem toldG_from : ∀ (l : List UInt8) (no : Nat) (cur : List UInt8), ∀ t ∈ toldG no cur l, no ≤ t.1
  | [], no, cur => by
    intro t ht
    unfold toldG tell at ht
    split at ht
    · simp at ht
    · rw [List.mem_singleton.1 ht]; exact Nat.le_refl _
  | c :: l, no, cur => by
    intro t ht
    unfold toldG at ht
    split at ht
    · rcases List.mem_append.1 ht with ht | ht
      · unfold tell at ht
        split at ht
        · simp at ht
        · rw [List.mem_singleton.1 ht]; exact Nat.le_refl _
      · have := toldG_from l (no + 1) [] t ht; omega
    · exact toldG_from l no _ t ht
theorem parseP_no : ∀ (T : List (Nat × List (List UInt8))) (p : Nat → List Stp) (no col : Nat), parseP T p = .error (no, col) → ∃ t ∈ T, t.1 = no
  | [], p, no, col, h => by cases h
  | (n, ws) :: T, p, no, col, h => by
    unfold parseP at h
    split at h
    · cases h; exact ⟨_, List.mem_cons_self, rfl⟩
    · split at h
      · cases h; exact ⟨_, List.mem_cons_self, rfl⟩
      · obtain ⟨t, ht, e⟩ := parseP_no T _ no col h
        exact ⟨t, List.mem_cons_of_mem _ ht, e⟩
end Go.Pol
namespace Go.Proofs.YtpighkpdnifejaaDoor
open Go.RowKit Go.Lib Go.Tx Go.Pol Go.Extern.Stop Go.Stop
theorem polOf_no {l : List UInt8} {no col : Nat} (h : polOf l = .error (no, col)) : 1 ≤ no := by
  obtain ⟨t, ht, e⟩ := parseP_no _ _ _ _ h
  have := toldG_from l 1 [] t ht
  omega
theorem lines_zero (a : Option Addr) (w : World) : Calls Tryd.prog 14 #[.slice a 0 0] w fun e w' => e = .returned (.slice none 0 0) ∧ w = w' := by
  go_enter Tryd.func14, Tryd.ntmps14
  go_wp2
  go_loop [0, 3] (fun b t => b = .slice a 0 0 ∧ t = .slice none 0 0) (fun _ _ => 0)
  case atStart => exact ⟨rfl, rfl⟩
  case round =>
    obtain ⟨rfl, rfl⟩ := hrel
    go_wp2
    go_ret
    exact ⟨rfl, rfl⟩
theorem one_zero (a : Option Addr) (w : World) : Calls Tryd.prog 30 #[.slice a 0 0] w fun e w' => e = .returned (.slice none 0 0) ∧ w = w' := by
  go_enter Tryd.func30, Tryd.ntmps30
  go_wp2
  go_loop [3, 4, 6] (fun l s i => l = .slice none 0 0 ∧ s = .string ⟨#[]⟩ ∧ i = .int .i64 0) (fun _ _ _ => 0)
  case atStart => exact ⟨rfl, rfl, rfl⟩
  case round =>
    obtain ⟨rfl, rfl, rfl⟩ := hrel
    go_wp2
    go_ret
    exact ⟨rfl, rfl⟩
theorem rlines_zero (a : Option Addr) (w : World) : Calls Tryd.prog 18 #[.slice a 0 0] w fun e w' => e = .returned (.slice none 0 0) ∧ w = w' := by
  go_enter Tryd.func18, Tryd.ntmps18
  go_wp2
  go_loop [3, 4, 5, 6] (fun l no fr i => l = .slice none 0 0 ∧ ((no = .int .i64 0 ∧ fr = .int .i64 0 ∧ i = .int .i64 0) ∨ i = .int .i64 1)) (fun _ _ _ i => 1 - (intOf i).toNat)
  case atStart => exact ⟨rfl, .inl ⟨rfl, rfl, rfl⟩⟩
  case round =>
    obtain ⟨rfl, ⟨rfl, rfl, rfl⟩ | rfl⟩ := hrel
    · go_wp2_with (go_at_call 30; refine (one_zero _ _).mono ?_; rintro e w' ⟨rfl, rfl⟩)
      go_round
      case rel => exact ⟨rfl, .inr rfl⟩
      case measure => simp [intOf]
    · go_wp2
      go_ret
      exact ⟨rfl, rfl⟩
theorem ba_ints {W : World} {a : Option Addr} {n0 n c : Nat} {zs : List Int} (h : Go.Sl.IsInts .u8 W a n0 c zs) (hn : n ≤ n0) : BA W a n c ((zs.take n).map fun z => UInt8.ofNat z.toNat) ∧ n0 ≤ c ∧ c ≤ maxLen ∧ (0 < c → ∀ x, a = some x → x.block < W.heap.size) := by
  rcases h with ⟨rfl, rfl, rfl, rfl⟩ | ⟨x, rfl, h1, h2, h3, h4, h5⟩
  · obtain rfl : n = 0 := by omega
    exact ⟨⟨rfl, Nat.le_refl _, by omega, fun _ => rfl, fun x hx => by cases hx⟩, Nat.le_refl _, by unfold maxLen; omega, fun h => by omega⟩
  · refine ⟨⟨by simp; omega, by omega, by unfold maxLen at h2; omega, (fun h => by cases h), fun y hy j b hj => ?_⟩, h1, h2, fun h0 y hy => ?_⟩
    · cases hy
      rw [List.getElem?_map] at hj
      obtain ⟨z, hz, rfl⟩ := Option.map_eq_some_iff.1 hj
      rw [List.getElem?_take] at hz
      split at hz
      · rename_i hjn
        have hjl := (List.getElem?_eq_some_iff.1 hz).1
        have hc := h4 j hjl
        rw [List.getD_eq_getElem?_getD, hz] at hc
        have hw := h5 z (List.mem_of_getElem? hz)
        have hw2 : 0 ≤ z ∧ z ≤ 255 := by simpa [Lit.wf, IntKind.wrap, IntKind.bits, IntKind.signed, IntKind.min, IntKind.max] using hw
        rw [hc]
        simp only [Option.getD_some]
        rw [UInt8.toNat_ofNat_of_lt' (by show z.toNat < 256; omega)]
        congr 2
        omega
      · cases hz
    · cases hy
      have hc := h4 0 (by omega)
      unfold World.cell? at hc
      have ha : (x.add 0).block = x.block := by unfold Addr.add; split <;> rfl
      split at hc
      · rename_i hh; rw [← ha]; exact (Array.getElem?_eq_some_iff.1 hh).1
      · cases hc

/-- What both sides' Parse say of bytes that came in. -/
theorem parse_in {W : World} {a : Option Addr} {n0 n c : Nat} (h : ∃ zs, Go.Sl.IsInts .u8 W a n0 c zs) (hn : n ≤ n0) (hn2 : n ≤ 1500) : ∃ r : Except (Nat × Nat) (Nat → List Stp), (∀ no col, r = .error (no, col) → 1 ≤ no) ∧
    (∀ W', Below W.heap.size W W' → PG W' → Calls Tryd.prog 9 #[.slice a n c] W' (PParR W' r)) ∧ (∀ W', Below W.heap.size W W' → Calls Tryd.prog 10 #[.slice a n c] W' (RParR W' r)) := by
  obtain ⟨zs, hz⟩ := h
  obtain ⟨hba, hnc, hcm, hold⟩ := ba_ints hz hn
  by_cases hc : c = 0
  · subst hc
    obtain rfl : n = 0 := by omega
    refine ⟨polOf [], fun no col h => polOf_no h, fun W' _ hg => ?_, fun W' _ => ?_⟩
    · exact pparse_core a 0 0 [] W' hg (fun t ht => by cases ht) (by simp) (fun W2 _ => (lines_zero a W2).mono (by rintro e w ⟨rfl, rfl⟩; exact ⟨_, rfl, LinesAt.nil _ _, Below.refl _ _⟩))
    · exact rparse_core a 0 0 [] W' (fun t ht => by cases ht) (by simp) (fun W2 _ => (rlines_zero a W2).mono (by rintro e w ⟨rfl, rfl⟩; exact ⟨_, rfl, LinesC.nil _ _ _, Below.refl _ _⟩))
  · have ho := hold (by omega)
    exact ⟨polOf ((zs.take n).map fun z => UInt8.ofNat z.toNat), fun no col h => polOf_no h, fun W' hb hg => pparse_any a n c _ W' (hba.below hb ho) (fun x hx => Nat.lt_of_lt_of_le (ho x hx) hb.size) (by omega) hg, fun W' hb => rparse_any a n c _ W' (hba.below hb ho) (fun x hx => Nat.lt_of_lt_of_le (ho x hx) hb.size) (by omega)⟩
theorem StepsC.few {B : Nat} {w : World} {v : Value} {l : List Stp} (h : StepsC B w v l) : l.length ≤ 9223372036854775807 := by
  rcases h.2 with ⟨_, b⟩ | ⟨_, cap, _, _, _, _, a4, a5, _⟩
  · omega
  · unfold maxLen at a5; omega
def nOf (P : Nat → List Stp) (j : Nat) : Nat := (P j).length
def GoodP (w : World) (P : Nat → List Stp) (e : Ending) (w' : World) : Prop := ∃ (p : Nat → Option Addr) (c : Nat → Nat), e = .returned (.tuple #[.agg #[.slice (p 0) (nOf P 0) (c 0), .slice (p 1) (nOf P 1) (c 1), .slice (p 2) (nOf P 2) (c 2), .slice (p 3) (nOf P 3) (c 3), .slice (p 4) (nOf P 4) (c 4)], .nilIface]) ∧ Below w.heap.size w w' ∧ Hid (∀ W, Below w'.heap.size w' W → ∀ j, j < 5 → StpsAt W (.slice (p j) (nOf P j) (c j)) (P j) ∧ (P j).length ≤ 9223372036854775807)
def GoodR (w : World) (P : Nat → List Stp) (e : Ending) (w' : World) : Prop := ∃ (p : Nat → Option Addr) (c : Nat → Nat), e = .returned (.tuple #[.agg #[.slice (p 0) (nOf P 0) (c 0), .slice (p 1) (nOf P 1) (c 1), .slice (p 2) (nOf P 2) (c 2), .slice (p 3) (nOf P 3) (c 3), .slice (p 4) (nOf P 4) (c 4)], .int .i64 0, .int .i64 0]) ∧ Below w.heap.size w w' ∧ Hid (∀ W, Below w'.heap.size w' W → ∀ j, j < 5 → StpsAt W (.slice (p j) (nOf P j) (c j)) (P j) ∧ (P j).length ≤ 9223372036854775807)
theorem vals_of {B : Nat} {w' : World} {vs : Nat → Value} {P : Nat → List Stp} (hst : ∀ j, j < 5 → StepsC B w' (vs j) (P j)) : ∃ (p : Nat → Option Addr) (c : Nat → Nat), (pArr vs = #[.slice (p 0) (nOf P 0) (c 0), .slice (p 1) (nOf P 1) (c 1), .slice (p 2) (nOf P 2) (c 2), .slice (p 3) (nOf P 3) (c 3), .slice (p 4) (nOf P 4) (c 4)]) ∧ (∀ W, Below w'.heap.size w' W → ∀ j, j < 5 → StpsAt W (.slice (p j) (nOf P j) (c j)) (P j) ∧ (P j).length ≤ 9223372036854775807) := by
  have h : ∀ j, ∃ pc : Option Addr × Nat, j < 5 → vs j = .slice pc.1 (P j).length pc.2 := fun j => by
    by_cases hj : j < 5
    · obtain ⟨p, c, e⟩ := (hst j hj).shape
      exact ⟨(p, c), fun _ => e⟩
    · exact ⟨(none, 0), fun h => absurd h hj⟩
  refine ⟨fun j => (h j).choose.1, fun j => (h j).choose.2, ?_, fun W hW j hj => ?_⟩
  · unfold pArr
    rw [(h 0).choose_spec (by decide), (h 1).choose_spec (by decide), (h 2).choose_spec (by decide), (h 3).choose_spec (by decide), (h 4).choose_spec (by decide)]
    rfl
  · have e := (h j).choose_spec hj
    have h1 := (StpsAt.of (hst j hj)).below hW
    rw [e] at h1
    exact ⟨h1, (hst j hj).few⟩
theorem good_p {w : World} {P : Nat → List Stp} {e : Ending} {w' : World} (h : PParR w (.ok P) e w') : GoodP w P e w' := by
  obtain ⟨hb, vs, he, hst⟩ := h
  obtain ⟨p, c, hv, hW⟩ := vals_of hst
  exact ⟨p, c, by rw [he, hv], hb, Lib.hid hW⟩
theorem good_r {w : World} {P : Nat → List Stp} {e : Ending} {w' : World} (h : RParR w (.ok P) e w') : GoodR w P e w' := by
  obtain ⟨hb, vs, he, hst⟩ := h
  obtain ⟨p, c, hv, hW⟩ := vals_of hst
  exact ⟨p, c, by rw [he, hv], hb, Lib.hid hW⟩
theorem o_tT (v : Value) (x : TypeId) (w : World) : (Instr.typeAssert (.iface 36 v) x 36 true).run Tryd.prog w = .ok (.tuple #[v, .bool true]) w := by kernel_rfl
set_option maxHeartbeats 4000000 in
set_option maxRecDepth 100000 in
theorem policyParse_walk (a0 : Option Addr) (n0 c0 : Nat) (W : World) (w0 : ∃ zs, Go.Sl.IsInts .u8 W a0 n0 c0 zs) (hg : PG W) :
    Calls Tryd.prog 3 #[.slice a0 n0 c0] W fun e w' => e = .returned (.bool true) ∧ Below W.heap.size W w' := by
  have HBg := Lib.hid (begun_any W hg)
  have HG := Lib.hid hg
  obtain ⟨n, hn0, hn1, hShort⟩ : ∃ n, n ≤ n0 ∧ n ≤ 1500 ∧ ∀ w : World, Calls Tryd.prog 8 #[.slice a0 n0 c0, .int .i64 1500] w fun e w' => e = .returned (.slice a0 n c0) ∧ w = w' := by
    obtain ⟨zs, hz⟩ := w0
    obtain ⟨_, hnc, hcm, _⟩ := ba_ints hz (Nat.le_refl _)
    unfold maxLen at hcm
    by_cases h : n0 ≤ 1500
    · exact ⟨n0, Nat.le_refl _, h, fun w => short_le a0 n0 c0 1500 w hnc hcm h⟩
    · exact ⟨1500, by omega, Nat.le_refl _, fun w => short_gt a0 n0 c0 1500 w hnc hcm (by omega)⟩
  obtain ⟨r, hno, hp, hr⟩ := parse_in w0 hn0 hn1
  have HSh := Lib.hid hShort
  have t5 := j_eq
  have t6 := o_tT
  cases r with
  | ok P =>
    have HP : Hid (∀ W', Below W.heap.size W W' → Calls Tryd.prog 9 #[.slice a0 n c0] W' (GoodP W' P)) := Lib.hid (fun W' hb => (hp W' hb (hg.below hb)).mono fun e w' h => good_p h)
    have HR : Hid (∀ W', Below W.heap.size W W' → Calls Tryd.prog 10 #[.slice a0 n c0] W' (GoodR W' P)) := Lib.hid (fun W' hb => (hr W' hb).mono fun e w' h => good_r h)
    clear hg hShort hno hp hr w0 hn0 hn1
    go_enter Tryd.func3, Tryd.ntmps3
    go_upto_region 6 with (first | (go_at_call 7; refine HBg.out.mono ?_; rintro e w1 ⟨rfl, hb1⟩; have HB1 := Lib.hid hb1; clear hb1) | (go_at_call 8; refine (HSh.out _).mono ?_; rintro e w2 ⟨rfl, rfl⟩) | (go_at_call 9; refine (HP.out _ HB1.out).mono ?_; rintro e w3 ⟨pp, cc, rfl, hb3, hs3⟩; have HB3 := Lib.hid hb3; clear hb3))
    have hb4 : Below w3.heap.size w3 (w3.alloc (.cells #[.slice (pp 0) (nOf P 0) (cc 0), .slice (pp 1) (nOf P 1) (cc 1), .slice (pp 2) (nOf P 2) (cc 2), .slice (pp 3) (nOf P 3) (cc 3), .slice (pp 4) (nOf P 4) (cc 4)] 28)) := (Below.refl _ _).alloc (Nat.le_refl _) _
    have hh4 : (w3.alloc (.cells #[.slice (pp 0) (nOf P 0) (cc 0), .slice (pp 1) (nOf P 1) (cc 1), .slice (pp 2) (nOf P 2) (cc 2), .slice (pp 3) (nOf P 3) (cc 3), .slice (pp 4) (nOf P 4) (cc 4)] 28)).heap[w3.heap.size]? = some (.cells #[.slice (pp 0) (nOf P 0) (cc 0), .slice (pp 1) (nOf P 1) (cc 1), .slice (pp 2) (nOf P 2) (cc 2), .slice (pp 3) (nOf P 3) (cc 3), .slice (pp 4) (nOf P 4) (cc 4)] 28 (0, 0)) := heap_alloc_new w3 _
    generalize (w3.alloc (.cells #[.slice (pp 0) (nOf P 0) (cc 0), .slice (pp 1) (nOf P 1) (cc 1), .slice (pp 2) (nOf P 2) (cc 2), .slice (pp 3) (nOf P 3) (cc 3), .slice (pp 4) (nOf P 4) (cc 4)] 28)) = w4 at *
    have HB14 : Hid (Below W.heap.size W w4) := Lib.hid ((HB1.out.trans (HB3.out.mono HB1.out.size)).trans (hb4.mono (Nat.le_trans HB1.out.size HB3.out.size)))
    have HB4 := Lib.hid hb4
    have HH4 := Lib.hid hh4
    have hl4 : w3.heap.size < w4.heap.size := (Array.getElem?_eq_some_iff.1 hh4).1
    clear hb4 hh4
    go_upto_region 7 with (go_at_call 10; refine (HR.out _ HB14.out).mono ?_; rintro e w5 ⟨qq, dd, rfl, hb5, hs5⟩; have HB5 := Lib.hid hb5; clear hb5)
    have hb6 : Below w5.heap.size w5 (w5.alloc (.cells #[.slice (qq 0) (nOf P 0) (dd 0), .slice (qq 1) (nOf P 1) (dd 1), .slice (qq 2) (nOf P 2) (dd 2), .slice (qq 3) (nOf P 3) (dd 3), .slice (qq 4) (nOf P 4) (dd 4)] 26)) := (Below.refl _ _).alloc (Nat.le_refl _) _
    have hh6 : (w5.alloc (.cells #[.slice (qq 0) (nOf P 0) (dd 0), .slice (qq 1) (nOf P 1) (dd 1), .slice (qq 2) (nOf P 2) (dd 2), .slice (qq 3) (nOf P 3) (dd 3), .slice (qq 4) (nOf P 4) (dd 4)] 26)).heap[w5.heap.size]? = some (.cells #[.slice (qq 0) (nOf P 0) (dd 0), .slice (qq 1) (nOf P 1) (dd 1), .slice (qq 2) (nOf P 2) (dd 2), .slice (qq 3) (nOf P 3) (dd 3), .slice (qq 4) (nOf P 4) (dd 4)] 26 (0, 0)) := heap_alloc_new w5 _
    generalize (w5.alloc (.cells #[.slice (qq 0) (nOf P 0) (dd 0), .slice (qq 1) (nOf P 1) (dd 1), .slice (qq 2) (nOf P 2) (dd 2), .slice (qq 3) (nOf P 3) (dd 3), .slice (qq 4) (nOf P 4) (dd 4)] 26)) = w6 at *
    have HB46 : Hid (Below w4.heap.size w4 w6) := Lib.hid (HB5.out.trans (hb6.mono HB5.out.size))
    have HB16 : Hid (Below W.heap.size W w6) := Lib.hid (HB14.out.trans (HB46.out.mono HB14.out.size))
    have hh4' : w6.heap[w3.heap.size]? = some (.cells #[.slice (pp 0) (nOf P 0) (cc 0), .slice (pp 1) (nOf P 1) (cc 1), .slice (pp 2) (nOf P 2) (cc 2), .slice (pp 3) (nOf P 3) (cc 3), .slice (pp 4) (nOf P 4) (cc 4)] 28 (0, 0)) := (HB46.out.block _ hl4).trans HH4.out
    have r0 : w6.cell? ⟨w3.heap.size, 0, none⟩ = some (.slice (pp 0) (nOf P 0) (cc 0)) := by unfold World.cell?; rw [hh4']; rfl
    have s0 : w6.cell? ⟨w5.heap.size, 0, none⟩ = some (.slice (qq 0) (nOf P 0) (dd 0)) := by unfold World.cell?; rw [hh6]; rfl
    have r1 : w6.cell? ⟨w3.heap.size, 1, none⟩ = some (.slice (pp 1) (nOf P 1) (cc 1)) := by unfold World.cell?; rw [hh4']; rfl
    have s1 : w6.cell? ⟨w5.heap.size, 1, none⟩ = some (.slice (qq 1) (nOf P 1) (dd 1)) := by unfold World.cell?; rw [hh6]; rfl
    have r2 : w6.cell? ⟨w3.heap.size, 2, none⟩ = some (.slice (pp 2) (nOf P 2) (cc 2)) := by unfold World.cell?; rw [hh4']; rfl
    have s2 : w6.cell? ⟨w5.heap.size, 2, none⟩ = some (.slice (qq 2) (nOf P 2) (dd 2)) := by unfold World.cell?; rw [hh6]; rfl
    have r3 : w6.cell? ⟨w3.heap.size, 3, none⟩ = some (.slice (pp 3) (nOf P 3) (cc 3)) := by unfold World.cell?; rw [hh4']; rfl
    have s3 : w6.cell? ⟨w5.heap.size, 3, none⟩ = some (.slice (qq 3) (nOf P 3) (dd 3)) := by unfold World.cell?; rw [hh6]; rfl
    have r4 : w6.cell? ⟨w3.heap.size, 4, none⟩ = some (.slice (pp 4) (nOf P 4) (cc 4)) := by unfold World.cell?; rw [hh4']; rfl
    have s4 : w6.cell? ⟨w5.heap.size, 4, none⟩ = some (.slice (qq 4) (nOf P 4) (dd 4)) := by unfold World.cell?; rw [hh6]; rfl
    have HSm : Hid (Calls Tryd.prog 11 #[.agg #[.slice (pp 0) (nOf P 0) (cc 0), .slice (pp 1) (nOf P 1) (cc 1), .slice (pp 2) (nOf P 2) (cc 2), .slice (pp 3) (nOf P 3) (cc 3), .slice (pp 4) (nOf P 4) (cc 4)], .agg #[.slice (qq 0) (nOf P 0) (dd 0), .slice (qq 1) (nOf P 1) (dd 1), .slice (qq 2) (nOf P 2) (dd 2), .slice (qq 3) (nOf P 3) (dd 3), .slice (qq 4) (nOf P 4) (dd 4)]] w6 fun e w' => e = .returned (.bool true) ∧ Below w6.heap.size w6 w') := Lib.hid
      (same_any (fun j => .slice (pp j) (nOf P j) (cc j)) (fun j => .slice (qq j) (nOf P j) (dd j)) P w6 (fun j hj => (hs3.out w6 (HB4.out.trans (HB46.out.mono HB4.out.size)) j hj).1) (fun j hj => (hs5.out w6 hb6 j hj).1) (fun j hj => (hs3.out w6 (HB4.out.trans (HB46.out.mono HB4.out.size)) j hj).2))
    clear hh4' hh6 hb6 hs3 hs5
    go_wp2_with (go_at_call 11; refine HSm.out.mono ?_; rintro e w7 ⟨rfl, hb7⟩; have HB7 := Lib.hid hb7; clear hb7)
    go_ret
    exact ⟨rfl, HB16.out.trans (HB7.out.mono HB16.out.size)⟩
  | error q =>
    obtain ⟨no, col⟩ := q
    have hno1 : 1 ≤ no := hno no col rfl
    have HP : Hid (∀ W', Below W.heap.size W W' → Calls Tryd.prog 9 #[.slice a0 n c0] W' fun e w' => ∃ b, e = .returned (.tuple #[.agg #[.slice none 0 0, .slice none 0 0, .slice none 0 0, .slice none 0 0, .slice none 0 0], .iface 36 (.pointer (some ⟨b, 0, none⟩))]) ∧ Below W'.heap.size W' w' ∧ Hid (w'.heap[b]? = some (.cells #[.int .i64 (no : Int), .int .i64 (col : Int), .iface 40 (.int .i64 5)] 39 (0, 0)))) := Lib.hid (fun W' hb => (hp W' hb (hg.below hb)).mono fun e w' h => by
      obtain ⟨hb, b, he, hh, _⟩ := h
      exact ⟨b, he, hb, Lib.hid hh⟩)
    have HR : Hid (∀ W', Below W.heap.size W W' → Calls Tryd.prog 10 #[.slice a0 n c0] W' fun e w' => e = .returned (.tuple #[.agg #[.slice none 0 0, .slice none 0 0, .slice none 0 0, .slice none 0 0, .slice none 0 0], .int .i64 (no : Int), .int .i64 (col : Int)]) ∧ Below W'.heap.size W' w') := Lib.hid (fun W' hb => (hr W' hb).mono fun e w' h => ⟨h.2, h.1⟩)
    have hn0' : ((no : Int) == 0) = false := by simp; omega
    clear hg hShort hno hp hr w0 hn0 hn1
    go_enter Tryd.func3, Tryd.ntmps3
    go_upto_region 6 with (first | (go_at_call 7; refine HBg.out.mono ?_; rintro e w1 ⟨rfl, hb1⟩; have HB1 := Lib.hid hb1; clear hb1) | (go_at_call 8; refine (HSh.out _).mono ?_; rintro e w2 ⟨rfl, rfl⟩) | (go_at_call 9; refine (HP.out _ HB1.out).mono ?_; rintro e w3 ⟨b3, rfl, hb3, hh3⟩; have HB3 := Lib.hid hb3; clear hb3))
    have hb4 : Below w3.heap.size w3 (w3.alloc (.cells #[.slice none 0 0, .slice none 0 0, .slice none 0 0, .slice none 0 0, .slice none 0 0] 28)) := (Below.refl _ _).alloc (Nat.le_refl _) _
    have hh4 : (w3.alloc (.cells #[.slice none 0 0, .slice none 0 0, .slice none 0 0, .slice none 0 0, .slice none 0 0] 28)).heap[w3.heap.size]? = some (.cells #[.slice none 0 0, .slice none 0 0, .slice none 0 0, .slice none 0 0, .slice none 0 0] 28 (0, 0)) := heap_alloc_new w3 _
    generalize (w3.alloc (.cells #[.slice none 0 0, .slice none 0 0, .slice none 0 0, .slice none 0 0, .slice none 0 0] 28)) = w4 at *
    have HB14 : Hid (Below W.heap.size W w4) := Lib.hid ((HB1.out.trans (HB3.out.mono HB1.out.size)).trans (hb4.mono (Nat.le_trans HB1.out.size HB3.out.size)))
    have HB4 := Lib.hid hb4
    have HH4 := Lib.hid hh4
    have hl4 : w3.heap.size < w4.heap.size := (Array.getElem?_eq_some_iff.1 hh4).1
    clear hb4 hh4
    go_upto_region 7 with (go_at_call 10; refine (HR.out _ HB14.out).mono ?_; rintro e w5 ⟨rfl, hb5⟩; have HB5 := Lib.hid hb5; clear hb5)
    have hb6 : Below w5.heap.size w5 (w5.alloc (.cells #[.slice none 0 0, .slice none 0 0, .slice none 0 0, .slice none 0 0, .slice none 0 0] 26)) := (Below.refl _ _).alloc (Nat.le_refl _) _
    have hh6 : (w5.alloc (.cells #[.slice none 0 0, .slice none 0 0, .slice none 0 0, .slice none 0 0, .slice none 0 0] 26)).heap[w5.heap.size]? = some (.cells #[.slice none 0 0, .slice none 0 0, .slice none 0 0, .slice none 0 0, .slice none 0 0] 26 (0, 0)) := heap_alloc_new w5 _
    generalize (w5.alloc (.cells #[.slice none 0 0, .slice none 0 0, .slice none 0 0, .slice none 0 0, .slice none 0 0] 26)) = w6 at *
    have HB46 : Hid (Below w4.heap.size w4 w6) := Lib.hid (HB5.out.trans (hb6.mono HB5.out.size))
    have HB16 : Hid (Below W.heap.size W w6) := Lib.hid (HB14.out.trans (HB46.out.mono HB14.out.size))
    have HB36 : Hid (Below w3.heap.size w3 w6) := Lib.hid (HB4.out.trans (HB46.out.mono HB4.out.size))
    have hh4' : w6.heap[w3.heap.size]? = some (.cells #[.slice none 0 0, .slice none 0 0, .slice none 0 0, .slice none 0 0, .slice none 0 0] 28 (0, 0)) := (HB46.out.block _ hl4).trans HH4.out
    have hlb : b3 < w3.heap.size := (Array.getElem?_eq_some_iff.1 hh3.out).1
    have HE6 : Hid (w6.heap[b3]? = some (.cells #[.int .i64 (no : Int), .int .i64 (col : Int), .iface 40 (.int .i64 5)] 39 (0, 0))) := Lib.hid ((HB36.out.block _ hlb).trans hh3.out)
    have r0 : w6.cell? ⟨w3.heap.size, 0, none⟩ = some (.slice none 0 0) := by unfold World.cell?; rw [hh4']; rfl
    have s0 : w6.cell? ⟨w5.heap.size, 0, none⟩ = some (.slice none 0 0) := by unfold World.cell?; rw [hh6]; rfl
    have r1 : w6.cell? ⟨w3.heap.size, 1, none⟩ = some (.slice none 0 0) := by unfold World.cell?; rw [hh4']; rfl
    have s1 : w6.cell? ⟨w5.heap.size, 1, none⟩ = some (.slice none 0 0) := by unfold World.cell?; rw [hh6]; rfl
    have r2 : w6.cell? ⟨w3.heap.size, 2, none⟩ = some (.slice none 0 0) := by unfold World.cell?; rw [hh4']; rfl
    have s2 : w6.cell? ⟨w5.heap.size, 2, none⟩ = some (.slice none 0 0) := by unfold World.cell?; rw [hh6]; rfl
    have r3 : w6.cell? ⟨w3.heap.size, 3, none⟩ = some (.slice none 0 0) := by unfold World.cell?; rw [hh4']; rfl
    have s3 : w6.cell? ⟨w5.heap.size, 3, none⟩ = some (.slice none 0 0) := by unfold World.cell?; rw [hh6]; rfl
    have r4 : w6.cell? ⟨w3.heap.size, 4, none⟩ = some (.slice none 0 0) := by unfold World.cell?; rw [hh4']; rfl
    have s4 : w6.cell? ⟨w5.heap.size, 4, none⟩ = some (.slice none 0 0) := by unfold World.cell?; rw [hh6]; rfl
    have HSm : Hid (Calls Tryd.prog 11 #[.agg #[.slice none 0 0, .slice none 0 0, .slice none 0 0, .slice none 0 0, .slice none 0 0], .agg #[.slice none 0 0, .slice none 0 0, .slice none 0 0, .slice none 0 0, .slice none 0 0]] w6 fun e w' => e = .returned (.bool true) ∧ Below w6.heap.size w6 w') := Lib.hid
      (same_any nilS nilS noP w6 (fun j _ => StpsAt.of (World.ownsRow_nil w6 0 _ _)) (fun j _ => StpsAt.of (World.ownsRow_nil w6 0 _ _)) (fun j _ => by show 0 ≤ _; omega))
    clear hh4' hh6 hb6 hh3
    go_upto_region 9 with (go_at_call 11; refine HSm.out.mono ?_; rintro e w7 ⟨rfl, hb7⟩; have HB7 := Lib.hid hb7; clear hb7)
    clear r0 r1 r2 r3 r4 s0 s1 s2 s3 s4
    have HE7 : Hid (w7.heap[b3]? = some (.cells #[.int .i64 (no : Int), .int .i64 (col : Int), .iface 40 (.int .i64 5)] 39 (0, 0))) := Lib.hid ((HB7.out.block _ (Array.getElem?_eq_some_iff.1 HE6.out).1).trans HE6.out)
    have x0 : w7.cell? ⟨b3, 0, none⟩ = some (.int .i64 (no : Int)) := by unfold World.cell?; rw [HE7.out]; rfl
    have x1 : w7.cell? ⟨b3, 1, none⟩ = some (.int .i64 (col : Int)) := by unfold World.cell?; rw [HE7.out]; rfl
    have HCd := Lib.hid (code_bad b3 no col w7 HE7.out)
    have en : ((no : Int) == (no : Int)) = true := by simp
    have ec : ((col : Int) == (col : Int)) = true := by simp
    go_wp2_with (go_at_call 12; refine HCd.out.mono ?_; rintro e w8 ⟨rfl, hb8⟩; have HB8 := Lib.hid hb8; clear hb8)
    go_ret
    exact ⟨rfl, (HB16.out.trans (HB7.out.mono HB16.out.size)).trans (HB8.out.mono (Nat.le_trans HB16.out.size HB7.out.size))⟩
end Go.Proofs.YtpighkpdnifejaaDoor

