/- Contracts and plain facts that the law leans on. -/
import Derived.Test.YtdfapebggghfdaaGreatDoorHtCb
import Derived.Test.YtdfapebggghfdaaGreatDoorShelfP
import Derived.LoopTactic
import Derived.Test.YtdfapebggghfdaaGreatDoorHtCa
import Derived.Laws.CopyOwn
import Derived.Test.YtdfapebggghfdaaGreatDoorChecked
import Derived.WalkKit
import Derived.OwnWalk
import Derived.BigQuiet
namespace Go.Proofs.YtdfapebggghfdaaGreatDoor
open Go.RowKit Go.Lib Go.Tx Go.Rb
/-- The library's two errors are what errors are. -/
def ErrAt (g : Nat) (w : World) : Prop := ∃ ev, w.cell? ⟨g, 0, none⟩ = some ev ∧ (ev = .nilIface ∨ ∃ te pe, ev = .iface te pe)
theorem ErrAt.below {g : Nat} {w w' : World} (h : ErrAt g w) (hb : Below w.heap.size w w') : ErrAt g w' := by
  obtain ⟨ev, h1, h2⟩ := h
  refine ⟨ev, ?_, h2⟩
  have hlt : g < w.heap.size := by
    unfold World.cell? at h1
    split at h1
    · rename_i hh
      exact (Array.getElem?_eq_some_iff.1 hh).1
    · cases h1
  rw [hb.cell (p := ⟨g, 0, none⟩) hlt]
  exact h1
def PubR (r : Option Int) (w : World) (e : Ending) (w' : World) : Prop :=
  Below w.heap.size w w' ∧ match r with
    | some n => e = .returned (.tuple #[.int .u64 n, .nilIface])
    | none => ∃ (x : Int) (g : Nat), e = .returned (.tuple #[.int .u64 x, .iface 123 (.pointer (some ⟨g, 0, none⟩))])
theorem pub16_any (s : ByteArray) (w : World) (hs : s.size ≤ 1000000) (h1 : ErrAt 1 w) (h2 : ErrAt 2 w) :
    Calls Tryz.prog 55 #[.string s, .int .i64 16, .int .i64 16] w (PubR (if hex16 s.data.toList = true then some (hexA s.data.toList) else none) w) := by
  have HP := Lib.hid (pu16_any s w hs)
  have HT1 : Hid (∀ w2 : World, Below w.heap.size w w2 → Calls Tryz.prog 80 #[.string ⟨#[80, 97, 114, 115, 101, 85, 105, 110, 116]⟩, .string s, .int .i64 16, .int .i64 16, .iface 121 (.int .i64 2)] w2 fun e w' => ∃ N, e = .returned (.iface 123 (.pointer (some ⟨N, 0, none⟩))) ∧ Below w2.heap.size w2 w') := Lib.hid (fun w2 hb => by
    obtain ⟨ev, e1, e2⟩ := h1.below hb
    exact (Tryz.strconv_toError_syntax _ s 16 16 ev w2 (by omega) e1 e2).mono fun e w' ⟨N, a, _, _, b⟩ => ⟨N, a, b⟩)
  have HT2 : Hid (∀ w2 : World, Below w.heap.size w w2 → Calls Tryz.prog 80 #[.string ⟨#[80, 97, 114, 115, 101, 85, 105, 110, 116]⟩, .string s, .int .i64 16, .int .i64 16, .iface 121 (.int .i64 1)] w2 fun e w' => ∃ N, e = .returned (.iface 123 (.pointer (some ⟨N, 0, none⟩))) ∧ Below w2.heap.size w2 w') := Lib.hid (fun w2 hb => by
    obtain ⟨ev, e1, e2⟩ := h2.below hb
    exact (Tryz.strconv_toError_range _ s 16 16 ev w2 (by omega) e1 e2).mono fun e w' ⟨N, a, _, _, b⟩ => ⟨N, a, b⟩)
  have HT : Hid (∀ w2 : World, Below w.heap.size w w2 → ∀ n : Int, (n = 1 ∨ n = 2) → Calls Tryz.prog 80 #[.string ⟨#[80, 97, 114, 115, 101, 85, 105, 110, 116]⟩, .string s, .int .i64 16, .int .i64 16, .iface 121 (.int .i64 n)] w2 fun e w' => ∃ N, e = .returned (.iface 123 (.pointer (some ⟨N, 0, none⟩))) ∧ Below w2.heap.size w2 w') := Lib.hid (fun w2 hb n hn => by
    rcases hn with rfl | rfl
    · exact HT2.out w2 hb
    · exact HT1.out w2 hb)
  clear HT1 HT2
  cases hx : hex16 s.data.toList with
  | true =>
    have HX := Lib.hid hx
    clear hx
    go_enter Tryz.func55, Tryz.ntmps55
    go_wp2_with (go_at_call 79; refine HP.out.mono ?_; rintro e w2 ⟨hb, h⟩; rw [if_pos HX.out] at h; subst h)
    go_ret2
    exact ⟨hb, rfl⟩
  | false =>
    have HX := Lib.hid hx
    clear hx
    go_enter Tryz.func55, Tryz.ntmps55
    go_wp2_with (first | (go_at_call 79; refine HP.out.mono ?_; rintro e w2 ⟨hb, h⟩; rw [if_neg (by rw [HX.out]; decide)] at h; obtain ⟨x, n, hn, rfl⟩ := h; have HNn := Lib.hid hn; clear hn) | (go_at_call 80; refine (HT.out _ hb _ HNn.out).mono ?_; rintro e w3 ⟨g, rfl, hb3⟩))
    all_goals (go_ret2; exact ⟨hb.trans (hb3.mono hb.size), _, g, rfl⟩)
end Go.Proofs.YtdfapebggghfdaaGreatDoor

namespace Go.Proofs.YtdfapebggghfdaaGreatDoor
open Go.RowKit Go.Lib Go.Tx Go.Rb
/-- An array that is being filled: its first k cells hold what f says. -/
structure Arr (w : World) (b n k : Nat) (f : Nat → Value) : Prop where
  lt : b < w.heap.size
  free : ∀ j, j < n → w.frozen? ⟨b, j, none⟩ = false
  held : ∀ j, j < n → ∃ v, w.cell? ⟨b, j, none⟩ = some v
  told : ∀ j, j < k → w.cell? ⟨b, j, none⟩ = some (f j)
theorem Arr.below {w w' : World} {b n k : Nat} {f : Nat → Value} (h : Arr w b n k f) (hb : Below w.heap.size w w') : Arr w' b n k f :=
  ⟨Nat.lt_of_lt_of_le h.lt hb.size, fun j hj => by rw [World.frozen?_of_block (w := w) (hb.block b h.lt)]; exact h.free j hj, fun j hj => by rw [hb.cell (p := ⟨b, j, none⟩) h.lt]; exact h.held j hj,
    fun j hj => by rw [hb.cell (p := ⟨b, j, none⟩) h.lt]; exact h.told j hj⟩
theorem Arr.new (w : World) (arr : Array Value) (e : TypeId) (n : Nat) (h : arr.size = n) (f : Nat → Value) : Arr (w.alloc (.cells arr e)) w.heap.size n 0 f :=
  ⟨by show w.heap.size < (w.heap.push _).size; simp, fun j hj => World.frozen?_alloc_at arr e _ j rfl, fun j hj => by rw [World.cell?_alloc_new]; exact ⟨arr[j], by simp [h, hj]⟩, fun j hj => by omega⟩
theorem Arr.step {w : World} {b n k : Nat} {f : Nat → Value} {v : Value} (h : Arr w b n k f) (hk : k < n) (hv : f k = v) : Arr (w.setCell ⟨b, k, none⟩ v) b n (k + 1) f := by
  subst hv
  have hne : ∀ j, j ≠ k → (⟨b, k, none⟩ : Addr) ≠ ⟨b, j, none⟩ := fun j hj e => by cases e; exact hj rfl
  obtain ⟨u, hu⟩ := h.held k hk
  refine ⟨by simpa using h.lt, fun j hj => by simpa using h.free j hj, fun j hj => ?_, fun j hj => ?_⟩
  · by_cases e : j = k
    · subst e; exact ⟨_, World.cell?_setCell_same w _ _ hu⟩
    · rw [World.cell?_setCell_other w _ _ _ (hne j e)]; exact h.held j hj
  · by_cases e : j = k
    · subst e
      exact World.cell?_setCell_same w _ _ hu
    · rw [World.cell?_setCell_other w _ _ _ (hne j e)]; exact h.told j (by omega)
/-- What the library's variables hold. -/
structure GloAt (w : World) : Prop where
  len : ∃ m, w.cell? ⟨0, 0, none⟩ = some (.int .i64 m)
  syn : ErrAt 1 w
  rng : ErrAt 2 w
theorem GloAt.below {w w' : World} (h : GloAt w) (hb : Below w.heap.size w w') : GloAt w' := by
  refine ⟨?_, h.syn.below hb, h.rng.below hb⟩
  obtain ⟨m, hm⟩ := h.len
  have hlt : 0 < w.heap.size := by
    unfold World.cell? at hm
    split at hm
    · rename_i hh
      exact (Array.getElem?_eq_some_iff.1 hh).1
    · cases hm
  exact ⟨m, by rw [hb.cell (p := ⟨0, 0, none⟩) hlt]; exact hm⟩
def SplitN (w : World) (P : List (List UInt8)) (e : Ending) (w' : World) : Prop :=
  ∃ cap, e = .returned (.slice (some ⟨w.heap.size, 0, none⟩) P.length cap) ∧ P.length ≤ cap ∧ cap ≤ 9223372036854775807 ∧ w.heap.size < w'.heap.size ∧
    (∀ (i : Nat) l, P[i]? = some l → w'.cell? ⟨w.heap.size, i, none⟩ = some (.string ⟨l.toArray⟩)) ∧ Below w.heap.size w w'
theorem splitN_any (s : ByteArray) (c : UInt8) (n : Nat) (w : World) (hs : s.size ≤ 1000000) (h1 : 1 ≤ n) (hn : n ≤ 1000) (hg : GloAt w) :
    Calls Tryz.prog 53 #[.string s, .string ⟨#[c]⟩, .int .i64 n] w (SplitN w (cutN c n s.data.toList)) := by
  obtain ⟨m, hm⟩ := hg.len
  refine (Tryz.strings_SplitN s ⟨#[c]⟩ n m w (by omega) hm (Nat.le_refl 1) h1 (by omega)).mono ?_
  rintro e w' ⟨rfl, rfl⟩
  have hd := splitB_data ⟨#[c]⟩ 0 (min n (s.size + 1) - 1) s
  have he : (splitB ⟨#[c]⟩ 0 (min n (s.size + 1) - 1) s).map (·.data.toList) = cutN c n s.data.toList := hd
  have hlen : (cutN c n s.data.toList).length = (splitB ⟨#[c]⟩ 0 (min n (s.size + 1) - 1) s).length := by rw [← he, List.length_map]
  have hcap := splitB_length_le ⟨#[c]⟩ 0 (min n (s.size + 1) - 1) s
  refine ⟨min n (s.size + 1), by rw [hlen], by omega, by omega, by show w.heap.size < (w.heap.push _).size; simp, fun i l hi => ?_, (Below.refl _ _).alloc (Nat.le_refl _) _⟩
  rw [World.cell?_alloc_new]
  rw [← he, List.getElem?_map] at hi
  obtain ⟨x, hx, rfl⟩ := Option.map_eq_some_iff.1 hi
  have hlt := (List.getElem?_eq_some_iff.1 hx).1
  unfold cellsOf
  rw [List.getElem?_toArray, List.getElem?_append_left (by simpa using hlt), List.getElem?_map, hx]
  rfl
theorem pub8_any (s : ByteArray) (w : World) (hs : s.size ≤ 1000000) (hg : GloAt w) :
    Calls Tryz.prog 55 #[.string s, .int .i64 10, .int .i64 8] w (PubR ((short8 s.data.toList).map fun u => (u : Int)) w) := by
  unfold short8
  cases h : parseUintB 8 s.data.toList
  case ok u =>
    refine (Tryz.strconv_ParseUint_10_at8_ok s (by omega) u h w).mono ?_
    rintro e w' ⟨rfl, h2⟩
    refine ⟨?_, rfl⟩
    rcases h2 with rfl | rfl
    · exact Below.refl _ _
    · exact Lib.bytesWorld_below _ _ _
  case range =>
    obtain ⟨ev, e1, e2⟩ := hg.rng
    refine (Tryz.strconv_ParseUint_10_at8_range s (by omega) h ev w e1 e2).mono ?_
    rintro e w' ⟨N, rfl, _, _, hb⟩
    exact ⟨hb, _, N, rfl⟩
  all_goals
    obtain ⟨ev, e1, e2⟩ := hg.syn
    refine (Any.strconv_ParseUint_10_at8_syntax Tryz.laysPu14 s (by omega) h ev w e1 e2).mono ?_
    rintro e w' ⟨N, rfl, _, _, hb⟩
    exact ⟨hb, _, N, rfl⟩
theorem pub8_some (s : ByteArray) (u : Nat) (w : World) (hs : s.size ≤ 1000000) (hg : GloAt w) (h : short8 s.data.toList = some u) :
    Calls Tryz.prog 55 #[.string s, .int .i64 10, .int .i64 8] w fun e w' => e = .returned (.tuple #[.int .u64 (u : Int), .nilIface]) ∧ Below w.heap.size w w' := by
  refine (pub8_any s w hs hg).mono ?_
  rintro e w' ⟨hb, h2⟩
  rw [h] at h2
  exact ⟨h2, hb⟩
theorem pub8_none (s : ByteArray) (w : World) (hs : s.size ≤ 1000000) (hg : GloAt w) (h : short8 s.data.toList = none) :
    Calls Tryz.prog 55 #[.string s, .int .i64 10, .int .i64 8] w fun e w' => (∃ (x : Int) (g : Nat), e = .returned (.tuple #[.int .u64 x, .iface 123 (.pointer (some ⟨g, 0, none⟩))])) ∧ Below w.heap.size w w' := by
  refine (pub8_any s w hs hg).mono ?_
  rintro e w' ⟨hb, h2⟩
  rw [h] at h2
  exact ⟨h2, hb⟩
theorem prefix48 (q : ByteArray) (b : Bool) (w : World) (h : [48].isPrefixOf q.data.toList = b) : Calls Tryz.prog 54 #[.string q, .string ⟨#[48]⟩] w fun e w' => e = .returned (.bool b) ∧ w = w' := by
  refine (Tryz.strings_HasPrefix q ⟨#[48]⟩ w).mono ?_
  rintro e w' ⟨rfl, rfl⟩
  exact ⟨by rw [← h]; rfl, rfl⟩
theorem fourP_all {P : List (List UInt8)} (h4 : P.length = 4) (h : (P.take 4).all okN = true) : fourP P = some (P.map byN) := by
  rw [List.take_of_length_le (by omega)] at h
  unfold fourP
  rw [if_pos ⟨h4, h⟩]
/-- What the cells of the array say. -/
def byV (P : List (List UInt8)) (j : Nat) : Value := .int .u8 ((byN (P.getD j [])).toNat : Int)
set_option maxHeartbeats 2000000 in
set_option maxRecDepth 100000 in
theorem pshort_any (s : ByteArray) (w : World) (hs : s.size ≤ 100000) (hg : GloAt w) :
    Calls Tryz.prog 33 #[.string s] w (FourR w (fourP (splitL 46 s.data.toList))) := by
  have hS := splitN_any s 46 5 w (by omega) (by omega) (by omega) hg
  obtain ⟨P, hP⟩ : ∃ P, cutN 46 5 s.data.toList = P := ⟨_, rfl⟩
  by_cases h4 : P.length = 4
  · have hPs : splitL 46 s.data.toList = P := by rw [← cutN_four _ (by rw [hP]; exact h4)]; exact hP
    have hpl : ∀ l ∈ P, l.length ≤ 100000 := fun l hl => by
      rw [← hPs] at hl
      have := splitG_mem 46 s.data.toList [] l hl
      have e : s.data.toList.length = s.size := rfl
      simp only [List.length_nil] at this
      omega
    rw [hPs]
    rw [hP] at hS
    have HS := Lib.hid hS
    have H4 := Lib.hid h4
    have HPL := Lib.hid hpl
    have HG := Lib.hid hg
    clear hS hpl hP hPs hg
    go_enter Tryz.func33, Tryz.ntmps33
    go_wp2_with (go_at_call 53; refine HS.out.mono ?_; rintro e w2 ⟨cap, rfl, hc1, hc2, hlt2, hrd, hb⟩; rw [H4.out] at hc1 ⊢; have HRD := Lib.hid hrd; clear hrd)
    have HB := Lib.hid hb
    have hws := hb.size
    go_loopw [17] (fun i wr => ∃ k : Nat, k ≤ 4 ∧ i = .int .i64 k ∧ Hid (Arr wr w2.heap.size 4 k (byV P)) ∧ Hid ((P.take k).all okN = true) ∧ Below w2.heap.size w2 wr) (fun i _ => 4 - (RowKit.intOf i).toNat)
    case atStart => exact ⟨0, Nat.zero_le _, rfl, Lib.hid (Arr.new _ _ _ _ rfl _), Lib.hid rfl, (Below.refl _ _).alloc (Nat.le_refl _) _⟩
    case round =>
      obtain ⟨k, hk, rfl, hA, hall, hbw⟩ := hrel
      have hws2 := hbw.size
      have hG2 : Hid (GloAt wr) := Lib.hid ((HG.out.below HB.out).below hbw)
      by_cases hlt : k < 4
      · obtain ⟨l, hl⟩ : ∃ l, P[k]? = some l := ⟨_, List.getElem?_eq_getElem (by rw [H4.out]; exact hlt)⟩
        have hcell : wr.cell? ⟨w.heap.size, k, none⟩ = some (.string ⟨l.toArray⟩) := (hbw.cell (p := ⟨w.heap.size, k, none⟩) hlt2).trans (HRD.out k l hl)
        obtain ⟨q, hq⟩ : ∃ q : ByteArray, (⟨l.toArray⟩ : ByteArray) = q := ⟨_, rfl⟩
        have hql : q.data.toList = l := by rw [← hq]
        have hqs : q.size ≤ 1000000 := by
          have := HPL.out l (List.mem_of_getElem? hl)
          have e : q.data.toList.length = q.size := rfl
          rw [hql] at e
          omega
        rw [hq] at hcell
        have HL := Lib.hid hl
        have HQL := Lib.hid hql
        clear hl hq hql
        by_cases hz : l.head? = some 48 ∧ 1 < l.length
        · have HP : Hid ([48].isPrefixOf q.data.toList = true) := Lib.hid (by
            rw [HQL.out]
            cases l with
            | nil => cases hz.1
            | cons c r => have := hz.1; simp at this; subst this; rfl)
          have hne : (q.toList == [48]) = false := by
            rw [toList_data, HQL.out, beq_eq_false_iff_ne]
            rintro rfl
            exact absurd hz.2 (by decide)
          have HN := Lib.hid (fourP_no HL.out (okN_zero hz.1 hz.2))
          clear hz
          go_wp2_with (go_at_call 54; refine (prefix48 q true _ HP.out).mono ?_; rintro e w' ⟨rfl, rfl⟩)
          go_ret2
          exact ⟨by rw [HN.out]; rfl, HB.out.trans (hbw.mono HB.out.size)⟩
        · have hnz : ¬ (q.data.toList.head? = some 48 ∧ 1 < q.data.toList.length) := by rw [HQL.out]; exact hz
          have HZ := Lib.hid hz
          clear hz
          have hpre : ∃ b c : Bool, Hid ([48].isPrefixOf q.data.toList = b) ∧ Hid ((q.toList == [48]) = c) ∧ (b = false ∨ (b = true ∧ c = true)) := by
            rw [toList_data]
            cases hq : q.data.toList with
            | nil => exact ⟨false, _, Lib.hid rfl, Lib.hid rfl, .inl rfl⟩
            | cons c r =>
              by_cases e : c = 48
              · subst e
                have hr : r = [] := by
                  cases r with
                  | nil => rfl
                  | cons d r => exact absurd ⟨by rw [hq]; rfl, by rw [hq]; simp⟩ hnz
                subst hr
                exact ⟨true, true, Lib.hid rfl, Lib.hid rfl, .inr ⟨rfl, rfl⟩⟩
              · have e2 : (48 == c) = false := by rw [beq_eq_false_iff_ne]; exact fun x => e x.symm
                exact ⟨false, _, Lib.hid (by simp [List.isPrefixOf, e2]), Lib.hid rfl, .inl rfl⟩
          clear hnz
          obtain ⟨b, c, HPB, HPC, hbc⟩ := hpre
          cases hu : short8 q.data.toList with
          | none =>
            have HU := Lib.hid hu
            have HN := Lib.hid (fourP_no HL.out (by rw [← HQL.out]; exact short8_none hu))
            clear hu
            rcases hbc with rfl | ⟨rfl, rfl⟩
            · go_wp2_with (first | (go_at_call 54; refine (prefix48 q _ _ HPB.out).mono ?_; rintro e w' ⟨rfl, rfl⟩) | (go_at_call 55; refine (pub8_none q _ hqs hG2.out HU.out).mono ?_; rintro e w4 ⟨⟨x, g, rfl⟩, hb4⟩))
              go_ret2
              exact ⟨by rw [HN.out]; rfl, HB.out.trans ((hbw.trans (hb4.mono hbw.size)).mono HB.out.size)⟩
            · have hne := HPC.out
              go_wp2_with (first | (go_at_call 54; refine (prefix48 q _ _ HPB.out).mono ?_; rintro e w' ⟨rfl, rfl⟩) | (go_at_call 55; refine (pub8_none q _ hqs hG2.out HU.out).mono ?_; rintro e w4 ⟨⟨x, g, rfl⟩, hb4⟩))
              go_ret2
              exact ⟨by rw [HN.out]; rfl, HB.out.trans ((hbw.trans (hb4.mono hbw.size)).mono HB.out.size)⟩
          | some u =>
            have HU := Lib.hid hu
            obtain ⟨ho, hby, hub⟩ := short8_ok hu (by rw [HQL.out]; exact HZ.out)
            rw [HQL.out] at ho hby
            have HO := Lib.hid ho
            have HBV : Hid (byV P k = .int .u8 (u : Int)) := Lib.hid (by
              unfold byV
              rw [List.getD_eq_getElem?_getD, HL.out, Option.getD_some, hby])
            clear hu ho hby
            rcases hbc with rfl | ⟨rfl, rfl⟩
            · go_wp2_with (first | (go_at_call 54; refine (prefix48 q _ _ HPB.out).mono ?_; rintro e w' ⟨rfl, rfl⟩) | (go_at_call 55; refine (pub8_some q u _ hqs hG2.out HU.out).mono ?_; rintro e w4 ⟨rfl, hb4⟩; have hA4 := hA.out.below hb4; obtain ⟨u', hcell4⟩ := hA4.held k hlt; have hfree := hA4.free k hlt; have HA4 := Lib.hid hA4; clear hA4))
              go_roundw
              case rel => exact ⟨k + 1, hlt, by go_num, Lib.hid (HA4.out.step hlt HBV.out), Lib.hid (all_push HL.out hall.out HO.out), (hbw.trans (hb4.mono hbw.size)).setCell (Nat.le_refl _) _⟩
              case measure => simp [RowKit.intOf]; omega
            · have hne := HPC.out
              go_wp2_with (first | (go_at_call 54; refine (prefix48 q _ _ HPB.out).mono ?_; rintro e w' ⟨rfl, rfl⟩) | (go_at_call 55; refine (pub8_some q u _ hqs hG2.out HU.out).mono ?_; rintro e w4 ⟨rfl, hb4⟩; have hA4 := hA.out.below hb4; obtain ⟨u', hcell4⟩ := hA4.held k hlt; have hfree := hA4.free k hlt; have HA4 := Lib.hid hA4; clear hA4))
              go_roundw
              case rel => exact ⟨k + 1, hlt, by go_num, Lib.hid (HA4.out.step hlt HBV.out), Lib.hid (all_push HL.out hall.out HO.out), (hbw.trans (hb4.mono hbw.size)).setCell (Nat.le_refl _) _⟩
              case measure => simp [RowKit.intOf]; omega
      · obtain rfl : k = 4 := by omega
        have HF := Lib.hid (fourP_all H4.out hall.out)
        have hstr : (convert 22 9 (.slice (some ⟨w2.heap.size, 0, none⟩) 4 4)).run Tryz.prog wr = .ok (.string ⟨(P.map byN).toArray⟩) wr := by
          have hl4 : (P.map byN).length = 4 := by rw [List.length_map]; exact H4.out
          have := run_convert_bytes_back (P := Tryz.prog) wr 22 9 5 ⟨w2.heap.size, 0, none⟩ 4 (P.map byN) Tryz.underlying22 Tryz.underlying5 Tryz.underlying9 (fun j hj => by
            have ha : (⟨w2.heap.size, 0, none⟩ : Addr).add j = ⟨w2.heap.size, j, none⟩ := by unfold Addr.add; split <;> simp_all
            rw [ha, hA.out.told j (by omega)]
            have hj' : j < P.length := by rw [List.length_map] at hj; exact hj
            unfold byV
            rw [List.getD_eq_getElem?_getD, List.getElem?_eq_getElem hj', Option.getD_some, List.getElem_map])
          rw [hl4] at this
          exact this
        go_wp2
        go_ret2
        exact ⟨by rw [HF.out]; rfl, HB.out.trans (hbw.mono HB.out.size)⟩
  · have HF : Hid (fourP (splitL 46 s.data.toList) = none) := Lib.hid (cutN_notfour _ (by rw [hP]; exact h4))
    have hlen := cutN_len 46 5 s.data.toList (by omega)
    rw [hP] at hS hlen
    have HS := Lib.hid hS
    have h4' : ((P.length : Int) != 4) = true := by simp; omega
    clear hS hP
    go_enter Tryz.func33, Tryz.ntmps33
    go_wp2_with (go_at_call 53; refine HS.out.mono ?_; rintro e w2 ⟨cap, rfl, hc1, hc2, hlt2, hrd, hb⟩; clear hrd)
    go_ret2
    exact ⟨by rw [HF.out]; rfl, hb⟩
end Go.Proofs.YtdfapebggghfdaaGreatDoor

namespace Go.Proofs.YtdfapebggghfdaaGreatDoor
open Go.RowKit Go.Lib Go.Tx Go.Rb Go.Ev
theorem pub16_some (s : ByteArray) (m : Nat) (w : World) (hs : s.size ≤ 1000000) (hg : GloAt w) (h : hex16 s.data.toList = true) (hm : hexA s.data.toList = m) :
    Calls Tryz.prog 55 #[.string s, .int .i64 16, .int .i64 16] w fun e w' => e = .returned (.tuple #[.int .u64 (m : Int), .nilIface]) ∧ Below w.heap.size w w' := by
  refine (pub16_any s w hs hg.syn hg.rng).mono ?_
  rintro e w' ⟨hb, h2⟩
  rw [if_pos h, hm] at h2
  exact ⟨h2, hb⟩
theorem pub16_none (s : ByteArray) (w : World) (hs : s.size ≤ 1000000) (hg : GloAt w) (h : hex16 s.data.toList = false) :
    Calls Tryz.prog 55 #[.string s, .int .i64 16, .int .i64 16] w fun e w' => (∃ (x : Int) (g : Nat), e = .returned (.tuple #[.int .u64 x, .iface 123 (.pointer (some ⟨g, 0, none⟩))])) ∧ Below w.heap.size w w' := by
  refine (pub16_any s w hs hg.syn hg.rng).mono ?_
  rintro e w' ⟨hb, h2⟩
  rw [if_neg (by rw [h]; decide)] at h2
  exact ⟨h2, hb⟩
theorem pgroups_nil (s : ByteArray) (w : World) (h : s.data.toList = []) :
    Calls Tryz.prog 51 #[.string s] w (FourR w (pgP s.data.toList)) := by
  have HG : Hid (pgP s.data.toList = some []) := Lib.hid (by unfold pgP; rw [if_pos h])
  have e1 : s = ⟨#[]⟩ := by apply ByteArray.ext; apply Array.ext'; exact h
  subst e1
  clear h
  go_enter Tryz.func51, Tryz.ntmps51
  go_wp2
  go_ret2
  exact ⟨by rw [HG.out]; rfl, Below.refl _ _⟩
theorem four_or (r : Option (List UInt8)) : (∃ f, r = some f) ∨ r = none := by cases r with
  | none => exact .inr rfl
  | some f => exact .inl ⟨f, rfl⟩
theorem hex16_bd {l : List UInt8} (h : hex16 l = true) : ∃ m : Nat, hexA l = m ∧ m ≤ 65535 := by
  unfold hex16 at h
  simp only [Bool.and_eq_true, decide_eq_true_eq] at h
  have h0 : 0 ≤ hexA l := hexA_from l 0 (fun c hc => by
    have := h.1.2
    unfold hexOk at this
    rw [List.all_eq_true] at this
    simpa using this c hc) (by omega)
  exact ⟨(hexA l).toNat, by omega, by omega⟩
theorem join_str (a f : List UInt8) : (⟨a.toArray⟩ : ByteArray) ++ ⟨f.toArray⟩ = ⟨(a ++ f).toArray⟩ := by
  apply ByteArray.ext
  apply Array.ext'
  simp
set_option maxHeartbeats 4000000 in
set_option maxRecDepth 100000 in
theorem pgroups_yes (s : ByteArray) (w : World) (hs : s.size ≤ 100000) (hg : GloAt w) (h0 : s.data.toList ≠ []) (P : List (List UInt8)) (N : Nat) (hP : cutN 58 9 s.data.toList = P) (hN : P.length = N + 1) (lst : List UInt8) (hlst : P[N]? = some lst) (f : List UInt8) (hf : fourP (splitL 46 lst) = some f) (hpl : ∀ l ∈ P, l.length ≤ 100000) :
    Calls Tryz.prog 51 #[.string s] w (FourR w (pgP s.data.toList)) := by
  obtain ⟨i5, hi, hz0, hz1, hz2⟩ := info_parts info5
  have hS := splitN_any s 58 9 w (by omega) (by omega) (by omega) hg
  have hlen := cutN_len 58 9 s.data.toList (by omega)
  rw [hP] at hS hlen
  rw [hN] at hlen
  have hl2 : P.getLastD [] = lst := by
    rw [List.getLastD_eq_getLast?, List.getLast?_eq_getElem?, hN, Nat.add_sub_cancel, hlst]; rfl
  have hpg : pgP s.data.toList = (hexAll (P.take N)).map (· ++ f) := by
    unfold pgP
    rw [if_neg h0, hP, hl2, hf, List.dropLast_eq_take, hN]; rfl
  have HE : Hid (∀ a, hexAll (P.take N) = some a → pgP s.data.toList = some (a ++ f)) := Lib.hid (fun a h => by rw [hpg, h]; rfl)
  have HK : Hid (∀ l ∈ P.take N, hexG l = none → pgP s.data.toList = none) := Lib.hid (fun l hl h => by rw [hpg, hexAll_no hl h]; rfl)
  have hf4 := fourP_len hf
  have HS := Lib.hid hS
  have HN := Lib.hid hN
  have HL := Lib.hid hlst
  have HPL := Lib.hid hpl
  have HG := Lib.hid hg
  have hll := hpl lst (List.mem_of_getElem? hlst)
  obtain ⟨ql, hq⟩ : ∃ q : ByteArray, (⟨lst.toArray⟩ : ByteArray) = q := ⟨_, rfl⟩
  have hqs : ql.size ≤ 100000 := by
    rw [← hq]
    show lst.toArray.size ≤ _
    simpa using hll
  have hqf : fourP (splitL 46 ql.data.toList) = some f := by rw [← hq]; exact hf
  have HQF := Lib.hid hqf
  have HQ := Lib.hid hq
  have e1 : ¬ s.toList = [] := by rw [toList_data]; exact h0
  have e2 : s.toList.isEmpty = false := by cases hh : s.toList with | nil => exact absurd hh e1 | cons x y => rfl
  clear hS hN hlst hpl hg hf hP hpg hl2 hq hqf h0 hll
  go_enter Tryz.func51, Tryz.ntmps51
  go_wp2_with (first | (go_at_call 53; refine HS.out.mono ?_; rintro e w2 ⟨cap, rfl, hc1, hc2, hlt2, hrd, hb⟩; rw [HN.out] at hc1 ⊢; have hlc := hrd N lst HL.out; rw [HQ.out] at hlc; have HRD := Lib.hid hrd; have HB := Lib.hid hb; have hbs := hb.size; clear hrd hb) | (go_at_call 33; refine (pshort_any ql _ hqs (HG.out.below HB.out)).mono ?_; rw [HQF.out]; rintro e w3 ⟨rfl, hb3⟩; simp only [Option.getD_some, Option.getD_none, Option.isSome_some, Option.isSome_none]; have HB3 := Lib.hid hb3; have hbs3 := hb3.size; clear hb3))
  go_loopw [8, 36] (fun av i wr => ∃ (k : Nat) (a : List UInt8), k ≤ N ∧ i = .int .i64 k ∧ Hid (RB w3.heap.size wr av a) ∧ Hid (hexAll (P.take k) = some a) ∧ Hid (a.length = 2 * k) ∧ Below w3.heap.size w3 wr) (fun _ i _ => N - (RowKit.intOf i).toNat)
  case atStart => exact ⟨0, [], Nat.zero_le _, rfl, Lib.hid (RB.nil _ _), Lib.hid rfl, Lib.hid rfl, Below.refl _ _⟩
  case round =>
    obtain ⟨k, a, hk, rfl, hO, hall, hal, hbw⟩ := hrel
    have hws := hbw.size
    have hal2 : a.length ≤ 1000 := by have := hal.out; omega
    obtain ⟨pa, ca, rfl, hca1, hca2⟩ := hO.out.shape
    have hG2 : Hid (GloAt wr) := Lib.hid (((HG.out.below HB.out).below HB3.out).below hbw)
    by_cases hlt : k < N
    · obtain ⟨l, hl⟩ : ∃ l, P[k]? = some l := ⟨_, List.getElem?_eq_getElem (by rw [HN.out]; omega)⟩
      have hcell : wr.cell? ⟨w.heap.size, k, none⟩ = some (.string ⟨l.toArray⟩) := (hbw.cell (p := ⟨w.heap.size, k, none⟩) (by show w.heap.size < _; omega)).trans ((HB3.out.cell (p := ⟨w.heap.size, k, none⟩) hlt2).trans (HRD.out k l hl))
      obtain ⟨q, hq⟩ : ∃ q : ByteArray, (⟨l.toArray⟩ : ByteArray) = q := ⟨_, rfl⟩
      have hql : q.data.toList = l := by rw [← hq]
      have hqs : q.size ≤ 1000000 := by
        have := HPL.out l (List.mem_of_getElem? hl)
        have e : q.data.toList.length = q.size := rfl
        rw [hql] at e
        omega
      rw [hq] at hcell
      have HL := Lib.hid hl
      have HQL := Lib.hid hql
      have HKl : Hid (hexG l = none → pgP s.data.toList = none) := Lib.hid (HK.out l (by
        have := List.getElem?_take_of_lt (l := P) (i := k) (j := N) hlt
        rw [hl] at this
        exact List.mem_of_getElem? this))
      have hqz : q.data.toList.length = q.size := rfl
      rw [hql] at hqz
      have HQZ := Lib.hid hqz
      clear hl hq hql hqz
      cases hx : hex16 q.data.toList with
      | false =>
        have HX := Lib.hid hx
        have HY := Lib.hid (HKl.out (hexG_no16 (by rw [← HQL.out]; exact hx)))
        clear hx
        go_wp2_with (go_at_call 55; refine (pub16_none q _ hqs hG2.out HX.out).mono ?_; rintro e w4 ⟨⟨x, g, rfl⟩, hb4⟩)
        go_ret2
        exact ⟨by rw [HY.out]; rfl, HB.out.trans ((HB3.out.trans ((hbw.trans (hb4.mono hbw.size)).mono HB3.out.size)).mono HB.out.size)⟩
      | true =>
        obtain ⟨m, hm, hm2⟩ := hex16_bd hx
        have HX := Lib.hid hx
        have HM := Lib.hid hm
        by_cases h4 : 4 < q.size
        · have HY := Lib.hid (HKl.out (hexG_long (by rw [HQZ.out]; exact h4)))
          clear hx hm
          go_wp2_with (go_at_call 55; refine (pub16_some q m _ hqs hG2.out HX.out HM.out).mono ?_; rintro e w4 ⟨rfl, hb4⟩)
          go_ret2
          exact ⟨by rw [HY.out]; rfl, HB.out.trans ((HB3.out.trans ((hbw.trans (hb4.mono hbw.size)).mono HB3.out.size)).mono HB.out.size)⟩
        · have h4' : q.size ≤ 4 := by omega
          have HY : Hid (hexG l = some [UInt8.ofNat (m / 256), UInt8.ofNat (m % 256)]) := Lib.hid (by
            have := hexG_16 hx (by rw [HQL.out, HQZ.out]; exact h4')
            rw [hm, HQL.out] at this
            exact this)
          clear hx hm h4
          go_wp2_with (first | (go_at_call 55; refine (pub16_some q m _ hqs hG2.out HX.out HM.out).mono ?_; rintro e w4 ⟨rfl, hb4⟩; have HO4 := Lib.hid (hO.out.below hb4); have hbs4 := hb4.size) | (at_builtin; refine wpList_append_rb rfl _ _ 22 22 rfl Tryz.underlying22 Tryz.underlying22 (by intro k h; cases h) hi hz0 hz1 hz2 (B := w3.heap.size) (l := a) (m := [UInt8.ofNat (m / 256), UInt8.ofNat (m % 256)]) rfl rfl (HO4.out.alloc _) (lit2 _ () (by simp; omega) (by simp)) (Nat.le_trans (Nat.le_trans hws hbs4) (Nat.le_of_lt (by simp))) (by simp; omega) ?_; intro s' w5 hO5 hb5))
          go_roundw
          case rel => exact ⟨k + 1, a ++ [UInt8.ofNat (m / 256), UInt8.ofNat (m % 256)], hlt, by go_num, Lib.hid hO5, Lib.hid (hexAll_step HL.out hall.out HY.out), Lib.hid (by have := hal.out; simp; omega), ((hbw.trans (hb4.mono hws)).alloc (Nat.le_trans hws hbs4) _).trans hb5⟩
          case measure => simp [RowKit.intOf]; omega
    · obtain rfl : k = N := by omega
      have HF := Lib.hid (HE.out a hall.out)
      have hstr := hO.out.str (P := Tryz.prog) (src := 22) (dst := 9) Tryz.underlying22 Tryz.underlying5 Tryz.underlying9
      have hX : (⟨a.toArray⟩ : ByteArray).size ≤ 1000 := by show a.toArray.size ≤ _; simp; omega
      have hX2 : (⟨f.toArray⟩ : ByteArray).size ≤ 1000 := by show f.toArray.size ≤ _; simp; omega
      go_wp2
      go_ret2
      exact ⟨by rw [HF.out]; simp only [Option.getD_some, Option.isSome_some, ← join_str]; rfl, HB.out.trans ((HB3.out.trans (hbw.mono HB3.out.size)).mono HB.out.size)⟩
set_option maxHeartbeats 4000000 in
set_option maxRecDepth 100000 in
theorem pgroups_no (s : ByteArray) (w : World) (hs : s.size ≤ 100000) (hg : GloAt w) (h0 : s.data.toList ≠ []) (P : List (List UInt8)) (N : Nat) (hP : cutN 58 9 s.data.toList = P) (hN : P.length = N + 1) (lst : List UInt8) (hlst : P[N]? = some lst) (hf : fourP (splitL 46 lst) = none) (hpl : ∀ l ∈ P, l.length ≤ 100000) :
    Calls Tryz.prog 51 #[.string s] w (FourR w (pgP s.data.toList)) := by
  obtain ⟨i5, hi, hz0, hz1, hz2⟩ := info_parts info5
  have hS := splitN_any s 58 9 w (by omega) (by omega) (by omega) hg
  have hlen := cutN_len 58 9 s.data.toList (by omega)
  rw [hP] at hS hlen
  rw [hN] at hlen
  have hl2 : P.getLastD [] = lst := by
    rw [List.getLastD_eq_getLast?, List.getLast?_eq_getElem?, hN, Nat.add_sub_cancel, hlst]; rfl
  have hpg : pgP s.data.toList = hexAll P := by
    unfold pgP
    rw [if_neg h0, hP, hl2, hf]
  have htk : P.take (N + 1) = P := List.take_of_length_le (by omega)
  have HE : Hid (∀ a, hexAll (P.take (N + 1)) = some a → pgP s.data.toList = some (a ++ [])) := Lib.hid (fun a h => by rw [htk] at h; rw [hpg, h, List.append_nil])
  have HK : Hid (∀ l ∈ P.take (N + 1), hexG l = none → pgP s.data.toList = none) := Lib.hid (fun l hl h => by rw [htk] at hl; rw [hpg, hexAll_no hl h])
  clear htk
  have HS := Lib.hid hS
  have HN := Lib.hid hN
  have HL := Lib.hid hlst
  have HPL := Lib.hid hpl
  have HG := Lib.hid hg
  have hll := hpl lst (List.mem_of_getElem? hlst)
  obtain ⟨ql, hq⟩ : ∃ q : ByteArray, (⟨lst.toArray⟩ : ByteArray) = q := ⟨_, rfl⟩
  have hqs : ql.size ≤ 100000 := by
    rw [← hq]
    show lst.toArray.size ≤ _
    simpa using hll
  have hqf : fourP (splitL 46 ql.data.toList) = none := by rw [← hq]; exact hf
  have HQF := Lib.hid hqf
  have HQ := Lib.hid hq
  have e1 : ¬ s.toList = [] := by rw [toList_data]; exact h0
  have e2 : s.toList.isEmpty = false := by cases hh : s.toList with | nil => exact absurd hh e1 | cons x y => rfl
  clear hS hN hlst hpl hg hf hP hpg hl2 hq hqf h0 hll
  go_enter Tryz.func51, Tryz.ntmps51
  go_wp2_with (first | (go_at_call 53; refine HS.out.mono ?_; rintro e w2 ⟨cap, rfl, hc1, hc2, hlt2, hrd, hb⟩; rw [HN.out] at hc1 ⊢; have hlc := hrd N lst HL.out; rw [HQ.out] at hlc; have HRD := Lib.hid hrd; have HB := Lib.hid hb; have hbs := hb.size; clear hrd hb) | (go_at_call 33; refine (pshort_any ql _ hqs (HG.out.below HB.out)).mono ?_; rw [HQF.out]; rintro e w3 ⟨rfl, hb3⟩; simp only [Option.getD_some, Option.getD_none, Option.isSome_some, Option.isSome_none]; have HB3 := Lib.hid hb3; have hbs3 := hb3.size; clear hb3))
  go_loopw [8, 36] (fun av i wr => ∃ (k : Nat) (a : List UInt8), k ≤ (N + 1) ∧ i = .int .i64 k ∧ Hid (RB w3.heap.size wr av a) ∧ Hid (hexAll (P.take k) = some a) ∧ Hid (a.length = 2 * k) ∧ Below w3.heap.size w3 wr) (fun _ i _ => (N + 1) - (RowKit.intOf i).toNat)
  case atStart => exact ⟨0, [], Nat.zero_le _, rfl, Lib.hid (RB.nil _ _), Lib.hid rfl, Lib.hid rfl, Below.refl _ _⟩
  case round =>
    obtain ⟨k, a, hk, rfl, hO, hall, hal, hbw⟩ := hrel
    have hws := hbw.size
    have hal2 : a.length ≤ 1000 := by have := hal.out; omega
    obtain ⟨pa, ca, rfl, hca1, hca2⟩ := hO.out.shape
    have hG2 : Hid (GloAt wr) := Lib.hid (((HG.out.below HB.out).below HB3.out).below hbw)
    by_cases hlt : k < (N + 1)
    · obtain ⟨l, hl⟩ : ∃ l, P[k]? = some l := ⟨_, List.getElem?_eq_getElem (by rw [HN.out]; omega)⟩
      have hcell : wr.cell? ⟨w.heap.size, k, none⟩ = some (.string ⟨l.toArray⟩) := (hbw.cell (p := ⟨w.heap.size, k, none⟩) (by show w.heap.size < _; omega)).trans ((HB3.out.cell (p := ⟨w.heap.size, k, none⟩) hlt2).trans (HRD.out k l hl))
      obtain ⟨q, hq⟩ : ∃ q : ByteArray, (⟨l.toArray⟩ : ByteArray) = q := ⟨_, rfl⟩
      have hql : q.data.toList = l := by rw [← hq]
      have hqs : q.size ≤ 1000000 := by
        have := HPL.out l (List.mem_of_getElem? hl)
        have e : q.data.toList.length = q.size := rfl
        rw [hql] at e
        omega
      rw [hq] at hcell
      have HL := Lib.hid hl
      have HQL := Lib.hid hql
      have HKl : Hid (hexG l = none → pgP s.data.toList = none) := Lib.hid (HK.out l (by
        have := List.getElem?_take_of_lt (l := P) (i := k) (j := (N + 1)) hlt
        rw [hl] at this
        exact List.mem_of_getElem? this))
      have hqz : q.data.toList.length = q.size := rfl
      rw [hql] at hqz
      have HQZ := Lib.hid hqz
      clear hl hq hql hqz
      cases hx : hex16 q.data.toList with
      | false =>
        have HX := Lib.hid hx
        have HY := Lib.hid (HKl.out (hexG_no16 (by rw [← HQL.out]; exact hx)))
        clear hx
        go_wp2_with (go_at_call 55; refine (pub16_none q _ hqs hG2.out HX.out).mono ?_; rintro e w4 ⟨⟨x, g, rfl⟩, hb4⟩)
        go_ret2
        exact ⟨by rw [HY.out]; rfl, HB.out.trans ((HB3.out.trans ((hbw.trans (hb4.mono hbw.size)).mono HB3.out.size)).mono HB.out.size)⟩
      | true =>
        obtain ⟨m, hm, hm2⟩ := hex16_bd hx
        have HX := Lib.hid hx
        have HM := Lib.hid hm
        by_cases h4 : 4 < q.size
        · have HY := Lib.hid (HKl.out (hexG_long (by rw [HQZ.out]; exact h4)))
          clear hx hm
          go_wp2_with (go_at_call 55; refine (pub16_some q m _ hqs hG2.out HX.out HM.out).mono ?_; rintro e w4 ⟨rfl, hb4⟩)
          go_ret2
          exact ⟨by rw [HY.out]; rfl, HB.out.trans ((HB3.out.trans ((hbw.trans (hb4.mono hbw.size)).mono HB3.out.size)).mono HB.out.size)⟩
        · have h4' : q.size ≤ 4 := by omega
          have HY : Hid (hexG l = some [UInt8.ofNat (m / 256), UInt8.ofNat (m % 256)]) := Lib.hid (by
            have := hexG_16 hx (by rw [HQL.out, HQZ.out]; exact h4')
            rw [hm, HQL.out] at this
            exact this)
          clear hx hm h4
          go_wp2_with (first | (go_at_call 55; refine (pub16_some q m _ hqs hG2.out HX.out HM.out).mono ?_; rintro e w4 ⟨rfl, hb4⟩; have HO4 := Lib.hid (hO.out.below hb4); have hbs4 := hb4.size) | (at_builtin; refine wpList_append_rb rfl _ _ 22 22 rfl Tryz.underlying22 Tryz.underlying22 (by intro k h; cases h) hi hz0 hz1 hz2 (B := w3.heap.size) (l := a) (m := [UInt8.ofNat (m / 256), UInt8.ofNat (m % 256)]) rfl rfl (HO4.out.alloc _) (lit2 _ () (by simp; omega) (by simp)) (Nat.le_trans (Nat.le_trans hws hbs4) (Nat.le_of_lt (by simp))) (by simp; omega) ?_; intro s' w5 hO5 hb5))
          go_roundw
          case rel => exact ⟨k + 1, a ++ [UInt8.ofNat (m / 256), UInt8.ofNat (m % 256)], hlt, by go_num, Lib.hid hO5, Lib.hid (hexAll_step HL.out hall.out HY.out), Lib.hid (by have := hal.out; simp; omega), ((hbw.trans (hb4.mono hws)).alloc (Nat.le_trans hws hbs4) _).trans hb5⟩
          case measure => simp [RowKit.intOf]; omega
    · obtain rfl : k = (N + 1) := by omega
      have HF := Lib.hid (HE.out a hall.out)
      have hstr := hO.out.str (P := Tryz.prog) (src := 22) (dst := 9) Tryz.underlying22 Tryz.underlying5 Tryz.underlying9
      have hX : (⟨a.toArray⟩ : ByteArray).size ≤ 1000 := by show a.toArray.size ≤ _; simp; omega
      go_wp2
      go_ret2
      exact ⟨by rw [HF.out]; simp only [Option.getD_some, Option.isSome_some, ← join_str]; rfl, HB.out.trans ((HB3.out.trans (hbw.mono HB3.out.size)).mono HB.out.size)⟩
theorem pgroups_any (s : ByteArray) (w : World) (hs : s.size ≤ 100000) (hg : GloAt w) :
    Calls Tryz.prog 51 #[.string s] w (FourR w (pgP s.data.toList)) := by
  by_cases h0 : s.data.toList = []
  · exact pgroups_nil s w h0
  have hlen := cutN_len 58 9 s.data.toList (by omega)
  obtain ⟨P, hP⟩ : ∃ P, cutN 58 9 s.data.toList = P := ⟨_, rfl⟩
  rw [hP] at hlen
  obtain ⟨N, hN⟩ : ∃ N, P.length = N + 1 := ⟨P.length - 1, by omega⟩
  obtain ⟨lst, hlst⟩ : ∃ l, P[N]? = some l := ⟨_, List.getElem?_eq_getElem (by omega)⟩
  have hpl : ∀ l ∈ P, l.length ≤ 100000 := fun l hl => by
    rw [← hP] at hl
    have := cutN_mem hl
    have e : s.data.toList.length = s.size := rfl
    omega
  rcases four_or (fourP (splitL 46 lst)) with ⟨f, hf⟩ | hf
  · exact pgroups_yes s w hs hg h0 P N hP hN lst hlst f hf hpl
  · exact pgroups_no s w hs hg h0 P N hP hN lst hlst hf hpl
end Go.Proofs.YtdfapebggghfdaaGreatDoor

namespace Go.Proofs.YtdfapebggghfdaaGreatDoor
open Go.RowKit Go.Lib Go.Tx Go.Rb Go.Ev
theorem below_drewN (w : World) : ∀ n, Below w.heap.size w (w.drewN n)
  | 0 => Below.refl _ _
  | n + 1 => (below_drewN w n).drew
theorem idx_mem (l : List UInt8) (c : UInt8) : decide (0 ≤ Lib.indexByte l c) = decide (c ∈ l) := by
  have h := Lib.indexByte_ge l c
  by_cases h1 : Lib.indexByte l c = -1
  · have := Lib.indexByte_none h1
    have hn : ¬ c ∈ l := fun hm => by
      obtain ⟨k, hk, e⟩ := List.getElem_of_mem hm
      exact this k (by rw [List.getElem?_eq_getElem hk, e])
    rw [h1]; simp [hn]
  · obtain ⟨o, ho⟩ : ∃ o : Nat, Lib.indexByte l c = o := ⟨(Lib.indexByte l c).toNat, by omega⟩
    have := (Lib.indexByte_some ho).1
    have hm := List.mem_of_getElem? this
    rw [ho]; simp [hm]
theorem contains_is (s : ByteArray) (c : UInt8) (b : Bool) (w : World) (h : decide (c ∈ s.data.toList) = b) : Calls Tryz.prog 31 #[.string s, .string ⟨#[c]⟩] w fun e w' => e = .returned (.bool b) ∧ w = w' := by
  refine (Tryz.strings_Contains_one s c w).mono ?_
  rintro e w' ⟨rfl, rfl⟩
  exact ⟨by rw [idx_mem, h], rfl⟩
theorem cut_is (s : ByteArray) (w : World) (hs : s.size ≤ 100000) (hg : GloAt w) (A B : List UInt8) (b : Bool) (h : Lib.cut s.data.toList [58, 58] = (A, B, b)) :
    Calls Tryz.prog 47 #[.string s, .string ⟨#[58, 58]⟩] w fun e w' => e = .returned (.tuple #[.string ⟨A.toArray⟩, .string ⟨B.toArray⟩, .bool b]) ∧ Below w.heap.size w w' := by
  obtain ⟨m, hm⟩ := hg.len
  refine (Tryz.strings_Cut s ⟨#[58, 58]⟩ m w (by omega) hm).mono ?_
  rintro e w' ⟨rfl, n, rfl⟩
  have h' : Lib.cut s.data.toList (ByteArray.data ⟨#[58, 58]⟩).toList = (A, B, b) := h
  rw [h']
  exact ⟨rfl, below_drewN w n⟩
theorem cut_len (l sep : List UInt8) : (Lib.cut l sep).1.length ≤ l.length ∧ (Lib.cut l sep).2.1.length ≤ l.length := by
  unfold Lib.cut
  split
  · simp; omega
  · simp
theorem pgP_len {s a : List UInt8} (h : pgP s = some a) : a.length ≤ 22 := by
  unfold pgP at h
  have hl := cutN_len 58 9 s (by omega)
  split at h
  · cases h; simp
  · split at h
    · rename_i f hf
      have := fourP_len hf
      cases hx : hexAll (cutN 58 9 s).dropLast with
      | none => rw [hx] at h; cases h
      | some x =>
        rw [hx] at h
        cases h
        have h2 := hexAll_len hx
        rw [List.length_dropLast] at h2
        simp
        omega
    · have := hexAll_len h
      omega
theorem pg_call (l : List UInt8) (w : World) (hl : l.length ≤ 100000) (hg : GloAt w) (r : Option (List UInt8)) (hr : pgP l = r) : Calls Tryz.prog 51 #[.string ⟨l.toArray⟩] w (FourR w r) := by
  have := pgroups_any ⟨l.toArray⟩ w (by show l.toArray.size ≤ _; simpa using hl) hg
  rw [← hr]
  exact this
theorem strings_zero (z : Nat) (w : World) (hz : z ≤ 16) : Calls Tryz.prog 52 #[.string ⟨#[0]⟩, .int .i64 z] w fun e w' => e = .returned (.string ⟨(List.replicate z (0 : UInt8)).toArray⟩) ∧ Below w.heap.size w w' := by
  refine (Tryz.strings_Repeat ⟨#[0]⟩ z w (by omega) (by show 1 * z ≤ _; omega)).mono ?_
  rintro e w' ⟨rfl, hb⟩
  refine ⟨?_, hb⟩
  have h1 : repeatL (ByteArray.data ⟨#[0]⟩).toList z = List.replicate z (0 : UInt8) := by
    have h2 := repeatL_replicate (0 : UInt8) 1 z
    rw [Nat.mul_one] at h2
    exact h2
  rw [h1]
/-- No ::. -/
theorem plong_plain (s : ByteArray) (w : World) (hs : s.size ≤ 100000) (hg : GloAt w) (A B : List UInt8) (hc : Lib.cut s.data.toList [58, 58] = (A, B, false)) :
    Calls Tryz.prog 32 #[.string s] w (FourR w (longP s.data.toList)) := by
  obtain ⟨r, hr⟩ : ∃ r, pgP s.data.toList = r := ⟨_, rfl⟩
  have HX : Hid (longP s.data.toList = full16 r) := Lib.hid (by unfold longP; rw [hc, hr]; rfl)
  have HC := Lib.hid (cut_is s w hs hg A B false hc)
  have HG := Lib.hid hg
  have HP : Hid (∀ W, GloAt W → Calls Tryz.prog 51 #[.string s] W (FourR W r)) := Lib.hid (fun W h => by have := pgroups_any s W hs h; rw [hr] at this; exact this)
  clear hc hr hg
  cases r with
  | none =>
    go_enter Tryz.func32, Tryz.ntmps32
    go_wp2_with (first | (go_at_call 47; refine HC.out.mono ?_; rintro e w2 ⟨rfl, hb2⟩; have HB2 := Lib.hid hb2; clear hb2) | (go_at_call 51; refine (HP.out _ (HG.out.below HB2.out)).mono ?_; rintro e w3 ⟨rfl, hb3⟩; simp only [Option.getD_none, Option.isSome_none]))
    go_ret2
    exact ⟨by rw [HX.out]; rfl, HB2.out.trans (hb3.mono HB2.out.size)⟩
  | some b =>
    by_cases h16 : b.length = 16
    · have e16 : ((b.length : Int) != 16) = false := by simp; omega
      have H16 := Lib.hid h16
      clear h16
      go_enter Tryz.func32, Tryz.ntmps32
      go_wp2_with (first | (go_at_call 47; refine HC.out.mono ?_; rintro e w2 ⟨rfl, hb2⟩; have HB2 := Lib.hid hb2; clear hb2) | (go_at_call 51; refine (HP.out _ (HG.out.below HB2.out)).mono ?_; rintro e w3 ⟨rfl, hb3⟩; simp only [Option.getD_some, Option.isSome_some]))
      go_ret2
      exact ⟨by rw [HX.out]; simp only [full16, if_pos H16.out]; rfl, HB2.out.trans (hb3.mono HB2.out.size)⟩
    · have e16 : ((b.length : Int) != 16) = true := by simp; omega
      have H16 := Lib.hid h16
      clear h16
      go_enter Tryz.func32, Tryz.ntmps32
      go_wp2_with (first | (go_at_call 47; refine HC.out.mono ?_; rintro e w2 ⟨rfl, hb2⟩; have HB2 := Lib.hid hb2; clear hb2) | (go_at_call 51; refine (HP.out _ (HG.out.below HB2.out)).mono ?_; rintro e w3 ⟨rfl, hb3⟩; simp only [Option.getD_some, Option.isSome_some]))
      go_ret2
      exact ⟨by rw [HX.out]; simp only [full16, if_neg H16.out]; rfl, HB2.out.trans (hb3.mono HB2.out.size)⟩
set_option maxHeartbeats 2000000 in
theorem plong_cut (s : ByteArray) (w : World) (hs : s.size ≤ 100000) (hg : GloAt w) (A B : List UInt8) (hc : Lib.cut s.data.toList [58, 58] = (A, B, true)) :
    Calls Tryz.prog 32 #[.string s] w (FourR w (longP s.data.toList)) := by
  have HC := Lib.hid (cut_is s w hs hg A B true hc)
  have hln := cut_len s.data.toList [58, 58]
  rw [hc] at hln
  have hsz : s.data.toList.length = s.size := rfl
  simp only [hsz] at hln
  have HA : Hid (A.length ≤ 100000) := Lib.hid (by omega)
  have HB : Hid (B.length ≤ 100000) := Lib.hid (by omega)
  have HG := Lib.hid hg
  obtain ⟨qa, hqa⟩ : ∃ q : ByteArray, (⟨A.toArray⟩ : ByteArray) = q := ⟨_, rfl⟩
  obtain ⟨qb, hqb⟩ : ∃ q : ByteArray, (⟨B.toArray⟩ : ByteArray) = q := ⟨_, rfl⟩
  rw [hqa, hqb] at HC
  by_cases hd : 46 ∈ A
  · have HX : Hid (longP s.data.toList = none) := Lib.hid (by unfold longP; rw [hc, if_pos rfl, if_pos hd])
    have HD : Hid (decide (46 ∈ (⟨A.toArray⟩ : ByteArray).data.toList) = true) := Lib.hid (by simpa using hd)
    rw [hqa] at HD
    clear hc hg hd hln hsz
    go_enter Tryz.func32, Tryz.ntmps32
    go_wp2_with (first | (go_at_call 47; refine HC.out.mono ?_; rintro e w2 ⟨rfl, hb2⟩; have HB2 := Lib.hid hb2; clear hb2) | (go_at_call 31; refine (contains_is _ _ _ _ HD.out).mono ?_; rintro e w3 ⟨rfl, rfl⟩))
    go_ret2
    exact ⟨by rw [HX.out]; rfl, HB2.out⟩
  · have HD : Hid (decide (46 ∈ (⟨A.toArray⟩ : ByteArray).data.toList) = false) := Lib.hid (by simpa using hd)
    obtain ⟨r1, h1⟩ : ∃ r, pgP A = r := ⟨_, rfl⟩
    obtain ⟨r2, h2⟩ : ∃ r, pgP B = r := ⟨_, rfl⟩
    have HX : Hid (longP s.data.toList = bothP r1 r2) := Lib.hid (by unfold longP; rw [hc, if_pos rfl, if_neg hd, h1, h2])
    obtain ⟨x1, hx1⟩ : ∃ q : ByteArray, (⟨(r1.getD []).toArray⟩ : ByteArray) = q := ⟨_, rfl⟩
    obtain ⟨x2, hx2⟩ : ∃ q : ByteArray, (⟨(r2.getD []).toArray⟩ : ByteArray) = q := ⟨_, rfl⟩
    obtain ⟨b1, hb1⟩ : ∃ b, r1.isSome = b := ⟨_, rfl⟩
    obtain ⟨b2, hb2⟩ : ∃ b, r2.isSome = b := ⟨_, rfl⟩
    have HP : Hid (∀ W q, GloAt W → ∀ x b, ((q = qa ∧ x = x1 ∧ b = b1) ∨ (q = qb ∧ x = x2 ∧ b = b2)) → Calls Tryz.prog 51 #[.string q] W fun e w' => e = .returned (.tuple #[.string x, .bool b]) ∧ Below W.heap.size W w') := Lib.hid (fun W q h x b hh => by
      rcases hh with ⟨rfl, rfl, rfl⟩ | ⟨rfl, rfl, rfl⟩
      · rw [← hx1, ← hb1, ← hqa]; exact pg_call A W HA.out h r1 h1
      · rw [← hx2, ← hb2, ← hqb]; exact pg_call B W HB.out h r2 h2)
    have hs1 : x1.size ≤ 22 := by
      rw [← hx1]
      cases r1 with
      | none => exact Nat.zero_le _
      | some a => have := pgP_len h1; show a.toArray.size ≤ _; simpa using this
    have hs2 : x2.size ≤ 22 := by
      rw [← hx2]
      cases r2 with
      | none => exact Nat.zero_le _
      | some a => have := pgP_len h2; show a.toArray.size ≤ _; simpa using this
    rw [hqa] at HD
    cases b1 with
    | false =>
      have HF : Hid (bothP r1 r2 = none) := Lib.hid (by cases r1 with
        | none => cases r2 <;> rfl
        | some a => cases hb1)
      clear hc hg hd hln hsz h1 h2 hqa hqb hx1 hx2 hb1 hb2
      go_enter Tryz.func32, Tryz.ntmps32
      go_wp2_with (first | (go_at_call 47; refine HC.out.mono ?_; rintro e w2 ⟨rfl, hb2⟩; have HB2 := Lib.hid hb2; clear hb2) | (go_at_call 31; refine (contains_is _ _ _ _ HD.out).mono ?_; rintro e w3 ⟨rfl, rfl⟩) | (go_at_call 51; refine (HP.out _ _ (HG.out.below HB2.out) _ _ (by first | exact .inl ⟨rfl, rfl, rfl⟩ | exact .inr ⟨rfl, rfl, rfl⟩)).mono ?_; rintro e w3 ⟨rfl, hb3⟩; have HB2 := Lib.hid (HB2.out.trans (hb3.mono HB2.out.size)); clear hb3))
      go_ret2
      exact ⟨by rw [HX.out, HF.out]; rfl, HB2.out⟩
    | true =>
      cases b2 with
      | false =>
        have HF : Hid (bothP r1 r2 = none) := Lib.hid (by cases r2 with
          | none => cases r1 <;> rfl
          | some a => cases hb2)
        clear hc hg hd hln hsz h1 h2 hqa hqb hx1 hx2 hb1 hb2
        go_enter Tryz.func32, Tryz.ntmps32
        go_wp2_with (first | (go_at_call 47; refine HC.out.mono ?_; rintro e w2 ⟨rfl, hb2⟩; have HB2 := Lib.hid hb2; clear hb2) | (go_at_call 31; refine (contains_is _ _ _ _ HD.out).mono ?_; rintro e w3 ⟨rfl, rfl⟩) | (go_at_call 51; refine (HP.out _ _ (HG.out.below HB2.out) _ _ (by first | exact .inl ⟨rfl, rfl, rfl⟩ | exact .inr ⟨rfl, rfl, rfl⟩)).mono ?_; rintro e w3 ⟨rfl, hb3⟩; have HB2 := Lib.hid (HB2.out.trans (hb3.mono HB2.out.size)); clear hb3))
        go_ret2
        exact ⟨by rw [HX.out, HF.out]; rfl, HB2.out⟩
      | true =>
        obtain ⟨a, rfl⟩ : ∃ a, r1 = some a := Option.isSome_iff_exists.1 hb1
        obtain ⟨b, rfl⟩ : ∃ a, r2 = some a := Option.isSome_iff_exists.1 hb2
        have hl1 : x1.size = a.length := by rw [← hx1]; show a.toArray.size = _; simp
        have hl2 : x2.size = b.length := by rw [← hx2]; show b.toArray.size = _; simp
        by_cases h14 : 14 < x1.size + x2.size
        · have HF : Hid (bothP (some a) (some b) = none) := Lib.hid (by unfold bothP; simp only; rw [if_pos (by omega)])
          clear hc hg hd hln hsz h1 h2 hqa hqb hx1 hx2 hb1 hb2 hl1 hl2
          go_enter Tryz.func32, Tryz.ntmps32
          go_wp2_with (first | (go_at_call 47; refine HC.out.mono ?_; rintro e w2 ⟨rfl, hb2⟩; have HB2 := Lib.hid hb2; clear hb2) | (go_at_call 31; refine (contains_is _ _ _ _ HD.out).mono ?_; rintro e w3 ⟨rfl, rfl⟩) | (go_at_call 51; refine (HP.out _ _ (HG.out.below HB2.out) _ _ (by first | exact .inl ⟨rfl, rfl, rfl⟩ | exact .inr ⟨rfl, rfl, rfl⟩)).mono ?_; rintro e w3 ⟨rfl, hb3⟩; have HB2 := Lib.hid (HB2.out.trans (hb3.mono HB2.out.size)); clear hb3))
          go_ret2
          exact ⟨by rw [HX.out, HF.out]; rfl, HB2.out⟩
        · obtain ⟨z, hz⟩ : ∃ z, 16 - x1.size - x2.size = z := ⟨_, rfl⟩
          have HF : Hid (bothP (some a) (some b) = some (a ++ List.replicate z 0 ++ b)) := Lib.hid (by unfold bothP; simp only; rw [if_neg (by omega), ← hl1, ← hl2, hz])
          have HX1 := Lib.hid hx1
          have HX2 := Lib.hid hx2
          have hzi : (16 : Int) - x1.size - x2.size = z := by omega
          have hz2 : 2 ≤ z := by omega
          have hz16 : z ≤ 16 := by omega
          obtain ⟨x3, hx3⟩ : ∃ q : ByteArray, (⟨(List.replicate z (0 : UInt8)).toArray⟩ : ByteArray) = q := ⟨_, rfl⟩
          have HX3 := Lib.hid hx3
          have hs3 : x3.size ≤ 22 := by rw [← hx3]; show (List.replicate z (0 : UInt8)).toArray.size ≤ _; simp; omega
          have HZ : Hid (∀ W, Calls Tryz.prog 52 #[.string ⟨#[0]⟩, .int .i64 z] W fun e w' => e = .returned (.string x3) ∧ Below W.heap.size W w') := Lib.hid (fun W => by rw [← hx3]; exact strings_zero z W hz16)
          clear hc hg hd hln hsz h1 h2 hqa hqb hx1 hx2 hb1 hb2 hl1 hl2 hz h14 hx3
          go_enter Tryz.func32, Tryz.ntmps32
          go_wp2_with (first | (go_at_call 47; refine HC.out.mono ?_; rintro e w2 ⟨rfl, hb2⟩; have HB2 := Lib.hid hb2; clear hb2) | (go_at_call 31; refine (contains_is _ _ _ _ HD.out).mono ?_; rintro e w3 ⟨rfl, rfl⟩) | (go_at_call 51; refine (HP.out _ _ (HG.out.below HB2.out) _ _ (by first | exact .inl ⟨rfl, rfl, rfl⟩ | exact .inr ⟨rfl, rfl, rfl⟩)).mono ?_; rintro e w3 ⟨rfl, hb3⟩; have HB2 := Lib.hid (HB2.out.trans (hb3.mono HB2.out.size)); clear hb3) | (go_at_call 52; refine (HZ.out _).mono ?_; rintro e w5 ⟨rfl, hb5⟩))
          go_ret2
          exact ⟨by rw [HX.out, HF.out, ← HX1.out, ← HX2.out, ← HX3.out]; simp only [Option.getD_some, Option.isSome_some, ← join_str]; rfl, HB2.out.trans (hb5.mono HB2.out.size)⟩
theorem paddr_any (s : ByteArray) (w : World) (hs : s.size ≤ 100000) (hg : GloAt w) :
    Calls Tryz.prog 20 #[.string s] w (FourR w (parseP s.data.toList)) := by
  rw [← addrP_parse]
  by_cases h : 58 ∈ s.data.toList
  · have HX : Hid (addrP s.data.toList = longP s.data.toList) := Lib.hid (by unfold addrP; rw [if_pos h])
    have HD : Hid (decide (58 ∈ s.data.toList) = true) := Lib.hid (by simpa using h)
    have HL : Hid (Calls Tryz.prog 32 #[.string s] w (FourR w (longP s.data.toList))) := Lib.hid (by
      obtain ⟨A, B, b, hc⟩ : ∃ A B b, Lib.cut s.data.toList [58, 58] = (A, B, b) := ⟨_, _, _, rfl⟩
      cases b with
      | false => exact plong_plain s w hs hg A B hc
      | true => exact plong_cut s w hs hg A B hc)
    rw [HX.out]
    generalize longP s.data.toList = R at *
    clear h hg
    go_enter Tryz.func20, Tryz.ntmps20
    go_wp2_with (first | (go_at_call 31; refine (contains_is _ _ _ _ HD.out).mono ?_; rintro e w3 ⟨rfl, rfl⟩) | (go_at_call 32; refine HL.out.mono ?_; rintro e w3 ⟨rfl, hb3⟩))
    go_ret2
    exact ⟨rfl, hb3⟩
  · have HX : Hid (addrP s.data.toList = fourP (splitL 46 s.data.toList)) := Lib.hid (by unfold addrP; rw [if_neg h])
    have HD : Hid (decide (58 ∈ s.data.toList) = false) := Lib.hid (by simpa using h)
    have HL := Lib.hid (pshort_any s w hs hg)
    rw [HX.out]
    generalize fourP (splitL 46 s.data.toList) = R at *
    clear h hg
    go_enter Tryz.func20, Tryz.ntmps20
    go_wp2_with (first | (go_at_call 31; refine (contains_is _ _ _ _ HD.out).mono ?_; rintro e w3 ⟨rfl, rfl⟩) | (go_at_call 33; refine HL.out.mono ?_; rintro e w3 ⟨rfl, hb3⟩))
    go_ret2
    exact ⟨rfl, hb3⟩
end Go.Proofs.YtdfapebggghfdaaGreatDoor

namespace Go.Tx
open Go.RowKit Go.Mp
theorem Out.toBelow {L B : Nat} {w w' : World} {p m1 m2 : Nat} (h : Out L w w' p m1 m2) (hL : B ≤ L) (h1 : B ≤ p) (h2 : B ≤ m1) (h3 : B ≤ m2) : Below B w w' :=
  ⟨h.os, h.tape, h.output, h.size, fun j hj => h.same j (by omega) (by omega) (by omega) (by omega)⟩
theorem cell_same {w w' : World} {b k : Nat} (h : w'.heap[b]? = w.heap[b]?) : w'.cell? ⟨b, k, none⟩ = w.cell? ⟨b, k, none⟩ := World.cell?_of_block (a := ⟨b, k, none⟩) h
/-- The words of a line, read at a later world. -/
theorem words_at {B : Nat} {w w' : World} {pw : Option Addr} {m : Nat} {ws : List (List UInt8)} (h : Strs B w (.slice pw m m) ws) (hm : m = ws.length) (hsame : ∀ j, B ≤ j → j < w.heap.size → w'.heap[j]? = w.heap[j]?) (hs : w.heap.size ≤ w'.heap.size) (h0 : ws ≠ []) :
    ∃ A, pw = some ⟨A, 0, none⟩ ∧ A < w'.heap.size ∧ ∀ (j : Nat) l, ws[j]? = some l → w'.cell? ⟨A, j, none⟩ = some (.string ⟨l.toArray⟩) := by
  rcases h with ⟨h, h2⟩ | ⟨A, h1, h2, h3⟩
  · exact absurd h2 h0
  · cases h1
    have hlt := (World.ownsRow.lt h3 A rfl).2
    refine ⟨A, rfl, by omega, fun j l hj => ?_⟩
    have hjl := (List.getElem?_eq_some_iff.1 hj).1
    rw [cell_same (hsame A h2 hlt), World.ownsRow.cellAt h3 j (by omega), List.getElem?_map, hj]
    rfl
theorem txAt_drop {w : World} {A : Nat} {ws : List (List UInt8)} (h : ∀ (j : Nat) l, ws[j]? = some l → w.cell? ⟨A, j, none⟩ = some (.string ⟨l.toArray⟩)) (hA : A < w.heap.size) : TxAt w (some ((⟨A, 0, none⟩ : Addr).add 1)) (ws.drop 1) := fun j l hj => by
  refine ⟨_, rfl, by rw [add_block]; exact hA, ?_⟩
  have ha : ((⟨A, 0, none⟩ : Addr).add 1).add j = ⟨A, 1 + j, none⟩ := by rw [Addr.add_add]; unfold Addr.add; split <;> simp_all
  rw [ha]
  rw [List.getElem?_drop] at hj
  exact h (1 + j) l hj
theorem rowOf_cons_none {x : List UInt8} {r : List (List UInt8)} (h : parseP x = none) : rowOf (x :: r) = none := by simp [rowOf, h]
theorem rowOf_cons_some {x a : List UInt8} {r : List (List UInt8)} (h : parseP x = some a) : rowOf (x :: r) = if r.filterMap nm = [] then none else some (a, r.filterMap nm) := by simp only [rowOf, h]
theorem addsOf_fun_snoc (R : List (List UInt8 × List (List UInt8))) (a : List UInt8) (f : List (List UInt8)) : addsOf (R ++ [(a, f)]) = fun k => putN a k (addsOf R k) f := funext fun k => addsOf_snoc R (a, f) k
theorem namesAt_fun_snoc (R : List (List UInt8 × List (List UInt8))) (a : List UInt8) (f : List (List UInt8)) : namesAt (R ++ [(a, f)]) = setC (namesAt R) a f := funext fun k => by
  rw [namesAt_snoc]; rfl
theorem rowsOf_few (T : List (Nat × List (List UInt8))) : (rowsOf T).length ≤ T.length := List.length_filterMap_le _ _
theorem TB.start {w : World} {p m1 m2 : Nat} (hp : p < w.heap.size) (h1 : m1 < w.heap.size) (h2 : m2 < w.heap.size) (n1 : p ≠ m1) (n2 : p ≠ m2) (n12 : m1 ≠ m2)
    (hb : w.heap[p]? = some (.cells #[.int .i64 0, .map (some m1), .map (some m2)] 43 (0, 0))) (hf : MapAt w m1 fun _ => none) (hg : MapAt w m2 fun _ => none) :
    TB w.heap.size w p m1 m2 0 (addsOf []) (namesAt []) (fun _ => none) (fun _ => none) where
  pl := hp
  l1 := h1
  l2 := h2
  n1 := n1
  n2 := n2
  n12 := n12
  size := Nat.le_refl _
  blk := hb
  f := hf
  g := hg
  hF := fun k => World.ownsRow_nil _ _ _ _
  hG := fun k => rfl
  dF := fun k k' b h => by cases h
  dG := fun k k' b h => by cases h
theorem TB.apart {L : Nat} {w : World} {p m1 m2 n : Nat} {A : List UInt8 → List (List UInt8)} {C : List UInt8 → Option (List (List UInt8))} {F G : ByteArray → Option Value} (h : TB L w p m1 m2 n A C F G) {w' : World} {v : Value} {f : List (List UInt8)} (hv : StrC w.heap.size w' v f) : Apart F v := fun b hb k e => by
  have h1 := (h.lt e).2
  have h2 := (World.ownsRow.lt hv b hb).1
  omega
theorem heap_push_lt (w : World) (o : Obj) (j : Nat) (h : j < w.heap.size) : (w.alloc o).heap[j]? = w.heap[j]? := by
  show (w.heap.push o)[j]? = _
  rw [Array.getElem?_push, if_neg (by omega)]
theorem start_at (w w2 : World) (hb : Below (((w.alloc (.map #[] 0)).alloc (.map #[] 0)).alloc (.cells #[.int .i64 0, .map (some w.heap.size), .map (some (w.heap.size + 1))] 43)).heap.size (((w.alloc (.map #[] 0)).alloc (.map #[] 0)).alloc (.cells #[.int .i64 0, .map (some w.heap.size), .map (some (w.heap.size + 1))] 43)) w2) :
    TB w2.heap.size w2 (w.heap.size + 1 + 1) w.heap.size (w.heap.size + 1) 0 (addsOf []) (namesAt []) (fun _ => none) (fun _ => none) ∧ w.heap.size + 3 ≤ w2.heap.size ∧ Below w.heap.size w w2 := by
  have s1 : (w.alloc (.map #[] 0)).heap.size = w.heap.size + 1 := by show (w.heap.push _).size = _; simp
  have s2 : ((w.alloc (.map #[] 0)).alloc (.map #[] 0)).heap.size = w.heap.size + 1 + 1 := by show ((w.heap.push _).push _).size = _; simp
  generalize hw1 : (((w.alloc (.map #[] 0)).alloc (.map #[] 0)).alloc (.cells #[.int .i64 0, .map (some w.heap.size), .map (some (w.heap.size + 1))] 43)) = w1 at *
  have s3 : w1.heap.size = w.heap.size + 3 := by rw [← hw1]; show (((w.heap.push _).push _).push _).size = _; simp
  have e1 : w1.heap[w.heap.size]? = some (.map #[] 0) := by
    rw [← hw1, heap_push_lt _ _ _ (by omega), heap_push_lt _ _ _ (by omega)]; exact heap_alloc_new w _
  have e2 : w1.heap[w.heap.size + 1]? = some (.map #[] 0) := by
    rw [← hw1, heap_push_lt _ _ _ (by omega)]
    have := heap_alloc_new (w.alloc (.map #[] 0)) (.map #[] 0)
    rw [s1] at this; exact this
  have e3 : w1.heap[w.heap.size + 1 + 1]? = some (.cells #[.int .i64 0, .map (some w.heap.size), .map (some (w.heap.size + 1))] 43 (0, 0)) := by
    rw [← hw1]
    have := heap_alloc_new ((w.alloc (.map #[] 0)).alloc (.map #[] 0)) (.cells #[.int .i64 0, .map (some w.heap.size), .map (some (w.heap.size + 1))] 43)
    rw [s2] at this; exact this
  have hz := hb.size
  refine ⟨TB.start (by omega) (by omega) (by omega) (by omega) (by omega) (by omega) (by rw [hb.block _ (by omega)]; exact e3) ⟨#[], 0, by rw [hb.block _ (by omega)]; exact e1, (fun e he => by cases he), fun _ => rfl⟩ ⟨#[], 0, by rw [hb.block _ (by omega)]; exact e2, (fun e he => by cases he), fun _ => rfl⟩, by omega, ?_⟩
  have hb0 : Below w.heap.size w w1 := by
    rw [← hw1]
    exact (((Below.refl _ w).alloc (Nat.le_refl _) _).alloc (by omega) _).alloc (by omega) _
  exact hb0.trans (hb.mono (by omega))
theorem lower {B B' : Nat} {w : World} {v : Value} {f : List (List UInt8)} (h : StrC B w v f) (hB : B' ≤ B) : StrC B' w v f := own_base h hB
end Go.Tx
namespace Go.Proofs.YtdfapebggghfdaaGreatDoor
open Go.RowKit Go.Lib Go.Tx Go.Mp
/-- A table that is read: where it lies, what it holds. -/
def Tab (B : Nat) (w : World) (p : Nat) (R : List (List UInt8 × List (List UInt8))) : Prop :=
  ∃ L m1 m2 F G, B ≤ p ∧ B ≤ L ∧ TB L w p m1 m2 R.length (addsOf R) (namesAt R) F G
theorem Tab.below {B p : Nat} {w w' : World} {R : List (List UInt8 × List (List UInt8))} (h : Tab B w p R) (hb : Below w.heap.size w w') : Tab B w' p R := by
  obtain ⟨L, m1, m2, F, G, h1, h2, h3⟩ := h
  exact ⟨L, m1, m2, F, G, h1, h2, h3.below hb⟩
set_option maxHeartbeats 2000000 in
set_option maxRecDepth 100000 in
theorem parse_core (a : Option Addr) (n c : Nat) (T : List (Nat × List (List UInt8))) (w : World) (hfine : ∀ t ∈ T, FineL t.2) (hfew2 : T.length ≤ 100001) (hlines : ∀ W, Below w.heap.size w W → Calls Tryz.prog 19 #[.slice a n c] W (LinesR W T)) (hg : GloAt w) (hm : MaxAt w) :
    Calls Tryz.prog 10 #[.slice a n c] w fun e w' => ∃ p, e = .returned (.pointer (some ⟨p, 0, none⟩)) ∧ Tab w.heap.size w' p (rowsOf T) ∧ Below w.heap.size w w' := by
  have HLn := Lib.hid hlines
  have HG := Lib.hid hg
  have HM := Lib.hid hm
  have HFine := Lib.hid hfine
  clear hg hm hlines hfine
  have hmm := @run_makeMap Tryz.prog
  go_enter Tryz.func10, Tryz.ntmps10
  go_wp2_with (go_at_call 19; refine (HLn.out _ ((((Below.refl _ w).alloc (Nat.le_refl _) _).alloc (by show w.heap.size ≤ (w.heap.push _).size; simp) _).alloc (by show w.heap.size ≤ ((w.heap.push _).push _).size; simp; omega) _)).mono ?_; rintro e w2 ⟨v, rfl, hT, hb2⟩; obtain ⟨pT, cT, rfl⟩ := hT.shape)
  obtain ⟨hst, hs3, hb02⟩ := start_at w w2 hb2
  have HT := Lib.hid hT
  have HSt := Lib.hid hst
  have HB1 := Lib.hid hb2
  have hB1s : (((w.alloc (.map #[] 0)).alloc (.map #[] 0)).alloc (.cells #[.int .i64 0, .map (some w.heap.size), .map (some (w.heap.size + 1))] 43)).heap.size = w.heap.size + 3 := by show (((w.heap.push _).push _).push _).size = _; simp
  rw [hB1s] at HT
  clear hT hst hb2 hB1s
  go_loopw [16] (fun i wr => ∃ (k : Nat) (FF GG : ByteArray → Option Value), k ≤ T.length ∧ i = .int .i64 k ∧ TB w2.heap.size wr (w.heap.size + 1 + 1) w.heap.size (w.heap.size + 1) (rowsOf (T.take k)).length (addsOf (rowsOf (T.take k))) (namesAt (rowsOf (T.take k))) FF GG ∧ Out w2.heap.size w2 wr (w.heap.size + 1 + 1) w.heap.size (w.heap.size + 1)) (fun i _ => T.length - (intOf i).toNat)
  case atStart => exact ⟨0, _, _, Nat.zero_le _, rfl, HSt.out, Out.refl _ _ _ _ _⟩
  case round =>
    obtain ⟨k, FF, GG, hk, rfl, hTB, hOut⟩ := hrel
    by_cases hlt : k < T.length
    · obtain ⟨⟨no, ws⟩, hx⟩ : ∃ x, T[k]? = some x := ⟨_, List.getElem?_eq_getElem hlt⟩
      have hf := HFine.out (no, ws) (List.mem_of_getElem? hx)
      obtain ⟨g, cap, e, hcap, hcm, hBg, hrd⟩ := HT.out.read (by omega)
      cases e
      obtain ⟨hc0, pw, hc1, hstr⟩ := hrd k no ws hx
      have hgl : g < w2.heap.size := by
        unfold World.cell? at hc0
        split at hc0
        · rename_i hh; exact (Array.getElem?_eq_some_iff.1 hh).1
        · cases hc0
      have hgs : wr.heap[g]? = w2.heap[g]? := hOut.same g hgl (by omega) (by omega) (by omega)
      have hd0 : wr.cell? ⟨g, k * 2, none⟩ = some (.int .i64 (no : Int)) := by rw [Nat.mul_comm, cell_same hgs]; exact hc0
      have hd1 : wr.cell? ⟨g, k * 2 + 1, none⟩ = some (.slice pw ws.length ws.length) := by rw [Nat.mul_comm, cell_same hgs]; exact hc1
      obtain ⟨A, rfl, hAl, hwd⟩ := words_at hstr rfl (w' := wr) (fun j h1 h2 => hOut.same j h2 (by omega) (by omega) (by omega)) hOut.size hf.ne
      have hbw : Below w.heap.size w wr := hb02.trans (hOut.toBelow (by omega) (by omega) (Nat.le_refl _) (by omega))
      have HTk := Lib.hid (takeH hx)
      have HTB := Lib.hid hTB
      have HWd := Lib.hid hwd
      have HOut := Lib.hid hOut
      have hne := hf.ne
      have hfew := hf.few
      have HWz := Lib.hid hf.word
      clear hc0 hc1 hrd hstr hwd hTB hx hf
      obtain ⟨x, r, rfl⟩ : ∃ x r, ws = x :: r := by cases ws with | nil => exact absurd rfl hne | cons x r => exact ⟨x, r, rfl⟩
      have hcx := HWd.out 0 x rfl
      have hxz : x.length ≤ 512 := HWz.out x (by simp)
      have hbW : ∀ o, Below w.heap.size w (wr.alloc o) := fun o => hbw.alloc hbw.size o
      have HPA : Hid (∀ o, Calls Tryz.prog 20 #[.string ⟨x.toArray⟩] (wr.alloc o) (FourR (wr.alloc o) (parseP x))) := Lib.hid (fun o => paddr_any ⟨x.toArray⟩ (wr.alloc o) (by show x.toArray.size ≤ 100000; simp; omega) (HG.out.below (hbW o)))
      unfold FourR at HPA
      have HBA : ∀ o, Below wr.heap.size wr (wr.alloc o) := fun o => (Below.refl _ wr).alloc (Nat.le_refl _) o
      have HBa := Lib.hid HBA
      have HBw := Lib.hid hbw
      have HStep : Hid (rowsOf (T.take (k + 1)) = rowsOf (T.take k) ++ (rowOf (x :: r)).toList) := Lib.hid (by rw [HTk.out, rowsOf_snoc])
      clear HBA hbW
      cases hpa : parseP x with
      | none =>
        rw [hpa] at HPA
        have HNo : Hid (rowsOf (T.take (k + 1)) = rowsOf (T.take k)) := Lib.hid (by rw [HStep.out, rowOf_cons_none hpa]; simp)
        clear hpa HStep
        go_wp2_with (go_at_call 20; refine (HPA.out _).mono ?_; rintro e w5 ⟨rfl, hb5⟩)
        go_roundw
        case rel =>
          have hb := (HBa.out _).trans (hb5.mono (HBa.out _).size)
          exact ⟨k + 1, FF, GG, hlt, by go_num, by rw [HNo.out]; exact HTB.out.below hb, HOut.out.below HTB.out.size hb⟩
        case measure => simp [intOf]; omega
      | some pa =>
        rw [hpa] at HPA
        have hrl : r.length ≤ 512 := by simp at hfew; omega
        obtain ⟨a', ha', HTx⟩ : ∃ a' : Option Addr, (∀ W : World, (Instr.slice 32 (.slice (some ⟨A, 0, none⟩) (r.length + 1) (r.length + 1)) (some (.int .i64 1)) none none).run Tryz.prog W = .ok (.slice a' r.length r.length) W) ∧ Hid (TxAt wr a' r) := by
          have hel : Tryz.prog.elem 32 = 9 := by kernel_rfl
          refine ⟨if r.length = 0 then some ⟨A, 0, none⟩ else some ((⟨A, 0, none⟩ : Addr).add 1), fun W => ?_, Lib.hid ?_⟩
          · have := run_slice_l (P := Tryz.prog) (w := W) 32 (some ⟨A, 0, none⟩) (r.length + 1) (r.length + 1) (by rw [hel]; exact Tryz.underlying32) .i64 1 (by omega) (by omega)
            rw [this, hel, Tryz.sizeOf9]
            simp only [Result.andThen_ok, sliced]
            by_cases h0 : r.length = 0
            · rw [if_pos (by rw [h0]; rfl), if_pos h0, h0]; rfl
            · rw [if_neg (by show ¬ r.length + 1 = 1; omega), if_neg h0]
              rfl
          · intro j l hj
            have h0 : ¬ r.length = 0 := by have := (List.getElem?_eq_some_iff.1 hj).1; omega
            rw [if_neg h0]
            exact txAt_drop HWd.out hAl j l hj
        have HCl : Hid (∀ W, Below wr.heap.size wr W → Calls Tryz.prog 21 #[.slice a' r.length r.length] W fun e w' => ∃ v, e = .returned v ∧ StrC W.heap.size w' v (r.filterMap nm) ∧ Below W.heap.size W w') := Lib.hid (fun W hW => cleaned_any a' r.length r.length r W (HTx.out.below hW) rfl (Nat.le_refl _) (by omega) (by omega) (fun y hy => by have := HWz.out y (by simp [hy]); omega) (HM.out.below (HBw.out.trans (hW.mono HBw.out.size))))
        have hfl : (r.filterMap nm).length ≤ r.length := List.length_filterMap_le _ _
        by_cases hem : r.filterMap nm = []
        · have HNo : Hid (rowsOf (T.take (k + 1)) = rowsOf (T.take k)) := Lib.hid (by rw [HStep.out, rowOf_cons_some hpa, if_pos hem]; simp)
          clear hpa HStep hfl
          rw [hem] at HCl
          go_wp2_with (first | (go_at_call 20; refine (HPA.out _).mono ?_; rintro e w5 ⟨rfl, hb5⟩; have hb := (HBa.out _).trans (hb5.mono (HBa.out _).size); have hcl : w5.cell? ⟨wr.heap.size, 1, none⟩ = some (.slice (some ⟨A, 0, none⟩) (r.length + 1) (r.length + 1)) := (by rw [hb5.cell (p := ⟨wr.heap.size, 1, none⟩) (by show wr.heap.size < (Array.push _ _).size; simp)]; exact World.cell?_alloc_new ..)) | (go_at_call 21; refine (HCl.out _ hb).mono ?_; rintro e w6 ⟨v, rfl, hv6, hb6⟩; obtain ⟨p6, c6, rfl⟩ := hv6.shape))
          go_roundw
          case rel =>
            have hb2 := hb.trans (hb6.mono hb.size)
            exact ⟨k + 1, FF, GG, hlt, by go_num, by rw [HNo.out]; exact HTB.out.below hb2, HOut.out.below HTB.out.size hb2⟩
          case measure => simp [intOf]; omega
        · have HYes : Hid (rowsOf (T.take (k + 1)) = rowsOf (T.take k) ++ [(pa, r.filterMap nm)]) := Lib.hid (by rw [HStep.out, rowOf_cons_some hpa, if_neg hem]; simp)
          have hpos : 0 < (r.filterMap nm).length := List.length_pos_iff.2 hem
          have hpos' : ((r.filterMap nm).length : Int) > 0 := by omega
          have hpos2 : (0 : Int) < ((r.filterMap nm).length : Int) := by omega
          have hrn : (rowsOf (T.take k)).length ≤ 1000000 := by
            have h1 := rowsOf_few (T.take k)
            have h2 := List.length_take_le k T
            omega
          clear hpa HStep hem
          generalize r.filterMap nm = f at *
          go_wp2_with (first | (go_at_call 20; refine (HPA.out _).mono ?_; rintro e w5 ⟨rfl, hb5⟩; have hb := (HBa.out _).trans (hb5.mono (HBa.out _).size); have hcl : w5.cell? ⟨wr.heap.size, 1, none⟩ = some (.slice (some ⟨A, 0, none⟩) (r.length + 1) (r.length + 1)) := (by rw [hb5.cell (p := ⟨wr.heap.size, 1, none⟩) (by show wr.heap.size < (Array.push _ _).size; simp)]; exact World.cell?_alloc_new ..)) | (go_at_call 21; refine (HCl.out _ hb).mono ?_; rintro e w6 ⟨v, rfl, hv6, hb6⟩; obtain ⟨p6, c6, rfl⟩ := hv6.shape; have hb2 := hb.trans (hb6.mono hb.size)) | (go_at_call 22; refine (add_any _ _ _ _ _ _ _ FF GG _ ⟨pa.toArray⟩ _ f (HTB.out.below hb2) (lower hv6 (Nat.le_trans HTB.out.size hb.size)) ((HTB.out.below hb).apart hv6) hrn (fun q => addsOf_len _ q) (by omega)).mono ?_; rintro e w7 ⟨rfl, ⟨F7, G7, ht7⟩, ho7⟩))
          go_roundw
          case rel =>
            refine ⟨k + 1, F7, G7, hlt, by go_num, ?_, (HOut.out.below HTB.out.size hb2).trans ho7⟩
            rw [HYes.out, addsOf_fun_snoc, namesAt_fun_snoc, List.length_append]
            exact ht7
          case measure => simp [intOf]; omega
    · obtain rfl : k = T.length := by omega
      rw [List.take_length] at hTB
      have HTB := Lib.hid hTB
      clear hTB
      go_wp2
      go_ret
      exact ⟨_, rfl, ⟨_, _, _, _, _, by omega, by omega, HTB.out⟩, hb02.trans (hOut.toBelow (by omega) (by omega) (Nat.le_refl _) (by omega))⟩
theorem parse_any (a : Option Addr) (n c : Nat) (l : List UInt8) (w : World) (h : BA w a n c l) (hold : ∀ x, a = some x → x.block < w.heap.size) (hn : n ≤ 100000) (hg : GloAt w) (hm : MaxAt w) :
    Calls Tryz.prog 10 #[.slice a n c] w fun e w' => ∃ p, e = .returned (.pointer (some ⟨p, 0, none⟩)) ∧ Tab w.heap.size w' p (rowsOf (toldG 1 [] l)) ∧ Below w.heap.size w w' := by
  have hlen := h.len
  obtain ⟨hfine, hfew⟩ := toldG_fine l 1 []
  exact parse_core a n c (toldG 1 [] l) w hfine (by omega) (fun W (hb : Below w.heap.size w W) => lines_any a n c l W (h.below hb hold) (fun x hx => Nat.lt_of_lt_of_le (hold x hx) hb.size) (by omega)) hg hm
end Go.Proofs.YtdfapebggghfdaaGreatDoor

namespace Go.Tx
open Go.RowKit Go.Mp
/-- The addresses of a name. -/
def byNm (R : List (List UInt8 × List (List UInt8))) (l : List UInt8) : List (List UInt8) := if nameB (bare l) = true then addsOf R ((bare l).map low) else []
def byA (R : List (List UInt8 × List (List UInt8))) (a : List UInt8) : List (List UInt8) := (namesAt R a).getD []
end Go.Tx
namespace Go.Proofs.YtdfapebggghfdaaGreatDoor
open Go.RowKit Go.Lib Go.Tx Go.Mp
theorem clone_any {B : Nat} {v : Value} {T : List (List UInt8)} (w : World) (h : StrC B w v T) (hl : T.length ≤ 1000000) :
    Calls Tryz.prog 27 #[v] w fun e w' => ∃ v', e = .returned v' ∧ StrC w.heap.size w' v' T ∧ Below w.heap.size w w' := by
  obtain ⟨p, c, rfl, hc, hm, hr⟩ := h.read
  cases p with
  | none =>
    have h0 : T = [] := by
      cases T with
      | nil => rfl
      | cons x T => obtain ⟨g, e, _⟩ := hr 0 x rfl; cases e
    subst h0
    refine (Tryz.slices_Clone_string_nil 0 c w).mono ?_
    rintro e w' ⟨rfl, rfl⟩
    exact ⟨_, rfl, World.ownsRow_nil _ _ _ _, Below.refl _ _⟩
  | some ad =>
    by_cases h0 : T = []
    · subst h0
      refine (Tryz.slices_Clone_string_zero ad c w).mono ?_
      rintro e w' ⟨v', rfl, h1, _, h2⟩
      exact ⟨v', rfl, h1, h2⟩
    · have hpos : 0 < T.length := List.length_pos_iff.2 h0
      obtain ⟨g, e, hg, _⟩ := hr 0 T[0] (List.getElem?_eq_getElem hpos)
      cases e
      have hz : ((T.map fun l => (⟨l.toArray⟩ : ByteArray)).take T.length).map Value.string = T.map strV := by
        rw [List.take_of_length_le (by simp), List.map_map]; rfl
      refine (Tryz.slices_Clone_string g 0 T.length c (T.map fun l => ⟨l.toArray⟩) w (by simp) (by omega) fun j hj => ?_).mono ?_
      · rw [List.length_map] at hj
        obtain ⟨g', e, _, h3⟩ := hr j T[j] (List.getElem?_eq_getElem hj)
        cases e
        rw [Nat.zero_add, h3, List.getD_eq_getElem?_getD, List.getElem?_map, List.getElem?_eq_getElem hj]
        rfl
      · rintro e w' ⟨v', rfl, h1, _, h2⟩
        rw [hz] at h1
        exact ⟨v', rfl, h1, h2⟩
def TextsR (w : World) (T : List (List UInt8)) (e : Ending) (w' : World) : Prop := ∃ v, e = .returned v ∧ StrC w.heap.size w' v T ∧ Below w.heap.size w w'
set_option maxHeartbeats 1000000 in
set_option maxRecDepth 100000 in
theorem byName_any {B p : Nat} {R : List (List UInt8 × List (List UInt8))} (s : ByteArray) (w : World) (h : Tab B w p R) (hs : s.size ≤ maxLen) (hm : MaxAt w) :
    Calls Tryz.prog 14 #[.pointer (some ⟨p, 0, none⟩), .string s] w (TextsR w (byNm R s.data.toList)) := by
  have HC := Lib.hid (clean_any s w hs hm)
  have HT := Lib.hid h
  clear h
  rcases cleanV_cases s.data.toList with ⟨hnb, hcv⟩ | ⟨hnb, hcv⟩
  · have HX : Hid (byNm R s.data.toList = addsOf R ((bare s.data.toList).map low)) := Lib.hid (by unfold byNm; rw [if_pos hnb])
    rw [hcv] at HC
    generalize (bare s.data.toList).map low = q at *
    clear hcv hnb hs hm
    go_enter Tryz.func14, Tryz.ntmps14
    go_upto_region 2 with (go_at_call 26; refine HC.out.mono ?_; rintro e w2 ⟨rfl, hb⟩)
    obtain ⟨L, m1, m2, F, G, h1, h2, h3⟩ := HT.out.below hb
    obtain ⟨d0, d1, d2, _⟩ := h3.cells
    have hAk := h3.hF q
    obtain ⟨pa, ca, hva⟩ := hAk.shape
    rw [hva] at hAk
    have hlk : (Instr.lookup 41 (.map (some m1)) (.string ⟨q.toArray⟩) false).run Tryz.prog w2 = .ok (.slice pa (addsOf R q).length ca) w2 := by
      rw [MapAt.lookup h3.f Tryz.underlying41 Tryz.underlying9 (zeroS w2) ⟨q.toArray⟩]
      exact congrArg (fun z => Result.ok z w2) hva
    have hl32 := addsOf_len R q
    have HAk := Lib.hid hAk
    clear h3 hAk hva
    go_wp2_with (go_at_call 27; refine (clone_any _ HAk.out (by omega)).mono ?_; rintro e w3 ⟨v, rfl, hv, hb3⟩)
    go_ret
    exact ⟨_, rfl, by rw [HX.out]; exact lower hv hb.size, hb.trans (hb3.mono hb.size)⟩
  · have HX : Hid (byNm R s.data.toList = []) := Lib.hid (by unfold byNm; rw [if_neg (by rw [hnb]; decide)])
    rw [hcv] at HC
    clear hcv hnb hs hm
    go_enter Tryz.func14, Tryz.ntmps14
    go_wp2_with (go_at_call 26; refine HC.out.mono ?_; rintro e w2 ⟨rfl, hb⟩)
    go_ret
    exact ⟨_, rfl, by rw [HX.out]; exact World.ownsRow_nil _ _ _ _, hb⟩
set_option maxHeartbeats 1000000 in
set_option maxRecDepth 100000 in
theorem byAddr_any {B p : Nat} {R : List (List UInt8 × List (List UInt8))} (s : ByteArray) (w : World) (h : Tab B w p R) (hf : (byA R s.data.toList).length ≤ 1000000) :
    Calls Tryz.prog 16 #[.pointer (some ⟨p, 0, none⟩), .string s] w (TextsR w (byA R s.data.toList)) := by
  obtain ⟨L, m1, m2, F, G, h1, h2, h3⟩ := h
  obtain ⟨d0, d1, d2, _⟩ := h3.cells
  have hG := h3.hG s.data.toList
  rw [bk s] at hG
  have hv : ∃ v, (G s).getD nilV = v ∧ StrC L w v (byA R s.data.toList) := by
    unfold byA
    cases hc : namesAt R s.data.toList with
    | none =>
      rw [hc] at hG
      simp only at hG
      rw [hG]
      exact ⟨_, rfl, World.ownsRow_nil _ _ _ _⟩
    | some ws =>
      rw [hc] at hG
      obtain ⟨v, e, h⟩ := hG
      rw [e]
      exact ⟨v, rfl, h⟩
  obtain ⟨v, hva, hv⟩ := hv
  have hlk : (Instr.lookup 41 (.map (some m2)) (.string s) false).run Tryz.prog w = .ok v w := by
    rw [MapAt.lookup h3.g Tryz.underlying41 Tryz.underlying9 (zeroS w) s]
    exact congrArg (fun z => Result.ok z w) hva
  have HV := Lib.hid hv
  clear h3 hG hva hv
  go_enter Tryz.func16, Tryz.ntmps16
  go_wp2_with (go_at_call 27; refine (clone_any _ HV.out hf).mono ?_; rintro e w3 ⟨v, rfl, hv, hb3⟩)
  go_ret
  exact ⟨_, rfl, hv, hb3⟩
theorem len_any {B p : Nat} {R : List (List UInt8 × List (List UInt8))} (w : World) (h : Tab B w p R) :
    Calls Tryz.prog 12 #[.pointer (some ⟨p, 0, none⟩)] w fun e w' => e = .returned (.int .i64 (R.length : Int)) ∧ w = w' := by
  obtain ⟨L, m1, m2, F, G, h1, h2, h3⟩ := h
  obtain ⟨d0, d1, d2, _⟩ := h3.cells
  clear h3
  go_enter Tryz.func12, Tryz.ntmps12
  go_wp2
  go_ret
  exact ⟨rfl, rfl⟩
theorem byName_nil (s : ByteArray) (w : World) (hs : s.size ≤ maxLen) (hm : MaxAt w) :
    Calls Tryz.prog 14 #[.pointer none, .string s] w fun e w' => e = .returned (.slice none 0 0) ∧ Below w.heap.size w w' := by
  have HC := Lib.hid (clean_any s w hs hm)
  obtain ⟨b1, b2, q, hq⟩ : ∃ (b1 b2 : Bool) (q : ByteArray), cleanV s.data.toList = .tuple #[.string q, .bool b1, .bool b2] := by
    rcases cleanV_cases s.data.toList with ⟨_, h⟩ | ⟨_, h⟩ <;> exact ⟨_, _, _, h⟩
  rw [hq] at HC
  go_enter Tryz.func14, Tryz.ntmps14
  go_wp2_with (go_at_call 26; refine HC.out.mono ?_; rintro e w2 ⟨rfl, hb⟩)
  go_ret
  exact ⟨rfl, hb⟩
theorem byAddr_nil (s : ByteArray) (w : World) :
    Calls Tryz.prog 16 #[.pointer none, .string s] w fun e w' => e = .returned (.slice none 0 0) ∧ w = w' := by
  go_enter Tryz.func16, Tryz.ntmps16
  go_wp2
  go_ret
  exact ⟨rfl, rfl⟩
theorem len_nil (w : World) :
    Calls Tryz.prog 12 #[.pointer none] w fun e w' => e = .returned (.int .i64 0) ∧ w = w' := by
  go_enter Tryz.func12, Tryz.ntmps12
  go_wp2
  go_ret
  exact ⟨rfl, rfl⟩
end Go.Proofs.YtdfapebggghfdaaGreatDoor

namespace Go.Proofs.YtdfapebggghfdaaGreatDoor
open Go.RowKit Go.Lib Go.Tx Go.Mp
theorem mark_any {w : World} {b : Nat} {arr : Array Value} (h : w.heap[b]? = some (.cells arr 5 (0, 0))) (n c : Nat) :
    ∃ w' fr', (convert 22 22 (.slice (some ⟨b, 0, none⟩) n c)).run Tryz.prog w = .ok (.slice (some ⟨b, 0, none⟩) n c) w' ∧ w'.heap[b]? = some (.cells arr 5 fr') ∧ (∀ k, k ≠ b → w'.heap[k]? = w.heap[k]?) ∧ w'.heap.size = w.heap.size ∧ w'.os = w.os ∧ w'.tape = w.tape ∧ w'.output = w.output := by
  obtain ⟨w', fr', e1, e2, e3, e4, e5, e6, e7, e8⟩ := Go.Ev.freeze_at h ⟨fun i hi h => by simp only at h; omega, by simp⟩
  have hsh : w.shape? b = some (5, arr.size) := by unfold World.shape?; rw [h]
  refine ⟨w', fr', ?_, e3, e4, e5, e6, e7, e8⟩
  simp [convert, Go.Ev.run_und Tryz.underlying22, Go.Ev.run_und Tryz.underlying5, markStringish, hsh, e1]
theorem ba_lit {w : World} {b : Nat} {arr : Array Value} {fr : Nat × Nat} {l : List UInt8} (h : w.heap[b]? = some (.cells arr 5 fr)) (ha : arr = (l.map fun c => Value.int .u8 (c.toNat : Int)).toArray) (hl : l.length ≤ 9223372036854775807) : BA w (some ⟨b, 0, none⟩) l.length l.length l :=
  ⟨rfl, Nat.le_refl _, hl, (fun h => by cases h), fun x hx j c hj => by
    cases hx
    have e : (⟨b, 0, none⟩ : Addr).add j = ⟨b, j, none⟩ := by unfold Addr.add; split <;> simp_all
    rw [e]
    subst ha
    simp [World.cell?, h, hj]⟩
/-- Bytes written as a literal, marked: what a caller reads. -/
theorem lit_any (w : World) (arr : Array Value) (l : List UInt8) (ha : arr = (l.map fun c => Value.int .u8 (c.toNat : Int)).toArray) (hl : l.length ≤ 9223372036854775807) :
    ∃ w', (convert 22 22 (.slice (some ⟨w.heap.size, 0, none⟩) l.length l.length)).run Tryz.prog (w.alloc (.cells arr 5)) = .ok (.slice (some ⟨w.heap.size, 0, none⟩) l.length l.length) w' ∧ BA w' (some ⟨w.heap.size, 0, none⟩) l.length l.length l ∧ w.heap.size < w'.heap.size ∧ Below w.heap.size w w' := by
  obtain ⟨w', fr', h1, h2, h3, h4, h5, h6, h7⟩ := mark_any (heap_alloc_new w (.cells arr 5)) l.length l.length
  have hs : (w.alloc (.cells arr 5)).heap.size = w.heap.size + 1 := by show (w.heap.push _).size = _; simp
  refine ⟨w', h1, ba_lit h2 ha hl, by omega, h5, h6, h7, by omega, fun k hk => ?_⟩
  rw [h3 k (by omega)]
  exact heap_push_lt _ _ _ hk
def bytes0 : List UInt8 := [49, 48, 46, 48, 46, 48, 46, 49, 32, 97, 32, 66, 32, 35, 32, 99, 10, 58, 58, 49, 32, 97, 10]
theorem plain0 : (rowsOf (toldG 1 [] bytes0)).length = 2 ∧ (byNm (rowsOf (toldG 1 [] bytes0)) [65, 46]).length = 2 ∧ byA (rowsOf (toldG 1 [] bytes0)) [10, 0, 0, 1] = [[97], [98]] := by decide +kernel
set_option maxRecDepth 100000 in
theorem begun_any (w : World) (hg : GloAt w) (hm : MaxAt w) :
    Calls Tryz.prog 7 #[] w fun e w' => e = .returned (.bool true) ∧ Below w.heap.size w w' := by
  have HG := Lib.hid hg
  have HM := Lib.hid hm
  obtain ⟨h1, h2, h3⟩ := plain0
  obtain ⟨w1, hc, hba, hlt, hb1⟩ := lit_any w _ bytes0 rfl (by decide)
  have HP : Hid (Calls Tryz.prog 10 #[.slice (some ⟨w.heap.size, 0, none⟩) 23 23] w1 fun e w' => ∃ p, e = .returned (.pointer (some ⟨p, 0, none⟩)) ∧ Tab w1.heap.size w' p (rowsOf (toldG 1 [] bytes0)) ∧ Below w1.heap.size w1 w') := Lib.hid (parse_any _ _ _ _ w1 hba (fun x hx => by cases hx; exact hlt) (by decide) (hg.below hb1) (hm.below hb1))
  have hc2 : (convert 22 22 (.slice (some ⟨w.heap.size, 0, none⟩) 23 23)).run Tryz.prog (w.alloc (.cells #[.int .u8 49, .int .u8 48, .int .u8 46, .int .u8 48, .int .u8 46, .int .u8 48, .int .u8 46, .int .u8 49, .int .u8 32, .int .u8 97, .int .u8 32, .int .u8 66, .int .u8 32, .int .u8 35, .int .u8 32, .int .u8 99, .int .u8 10, .int .u8 58, .int .u8 58, .int .u8 49, .int .u8 32, .int .u8 97, .int .u8 10] 5)) = .ok (.slice (some ⟨w.heap.size, 0, none⟩) 23 23) w1 := hc
  generalize rowsOf (toldG 1 [] bytes0) = R at *
  have HN : Hid (∀ W p, Tab w1.heap.size W p R → MaxAt W → Calls Tryz.prog 14 #[.pointer (some ⟨p, 0, none⟩), .string ⟨#[65, 46]⟩] W fun e w' => (∃ q c, e = .returned (.slice q 2 c)) ∧ Below W.heap.size W w') := Lib.hid (fun W p hT hM => (byName_any ⟨#[65, 46]⟩ W hT (by decide) hM).mono (by
    rintro e w' ⟨v, rfl, hv, hb⟩
    obtain ⟨q, c, rfl⟩ := hv.shape
    have e2 : (byNm R (ByteArray.data ⟨#[65, 46]⟩).toList).length = 2 := h2
    rw [e2]
    exact ⟨⟨q, c, rfl⟩, hb⟩))
  have HA : Hid (∀ W p, Tab w1.heap.size W p R → Calls Tryz.prog 16 #[.pointer (some ⟨p, 0, none⟩), .string ⟨#[10, 0, 0, 1]⟩] W fun e w' => (∃ g c, e = .returned (.slice (some ⟨g, 0, none⟩) 2 c) ∧ 2 ≤ c ∧ w'.cell? ⟨g, 1, none⟩ = some (.string ⟨#[98]⟩)) ∧ Below W.heap.size W w') := Lib.hid (fun W p hT => by
    have e3 : byA R (ByteArray.data ⟨#[10, 0, 0, 1]⟩).toList = [[97], [98]] := h3
    have := byAddr_any ⟨#[10, 0, 0, 1]⟩ W hT (by rw [e3]; decide)
    rw [e3] at this
    refine this.mono ?_
    rintro e w' ⟨v, rfl, hv, hb⟩
    obtain ⟨q, c, rfl, hc, _, hr⟩ := hv.read
    obtain ⟨g, rfl, _, hcell⟩ := hr 1 [98] rfl
    exact ⟨⟨g, c, rfl, hc, hcell⟩, hb⟩)
  clear hg hm hc hba hlt h2 h3
  go_enter Tryz.func7, Tryz.ntmps7
  go_upto_region 4 with (go_at_call 10; refine HP.out.mono ?_; rintro e w2 ⟨p, rfl, hT, hb2⟩; have HT := Lib.hid hT; have hb := hb1.trans (hb2.mono hb1.size); clear hT)
  go_wp2_with (first | (go_at_call 14; refine (HN.out _ _ HT.out (HM.out.below hb)).mono ?_; rintro e w3 ⟨⟨q3, c3, rfl⟩, hb3⟩; have HT3 := Lib.hid (HT.out.below hb3)) | (go_at_call 16; refine (HA.out _ _ HT3.out).mono ?_; rintro e w4 ⟨⟨g4, c4, rfl, hc4, hcell4⟩, hb4⟩; have HT4 := Lib.hid (HT3.out.below hb4)) | (go_at_call 12; refine (len_any _ HT4.out).mono ?_; rw [h1]; rintro e w5 ⟨rfl, hw⟩; obtain rfl := hw))
  go_ret
  exact ⟨rfl, (hb.trans (hb3.mono hb.size)).trans (hb4.mono (Nat.le_trans hb.size hb3.size))⟩
end Go.Proofs.YtdfapebggghfdaaGreatDoor

namespace Go.Proofs.YtdfapebggghfdaaGreatDoor
open Go.RowKit Go.Lib Go.Tx Go.Ev Go.Fr Go.ChangeShapes
theorem maxAt (W : World) (hsh : W.ShapedOpen Tryz.prog) : ∃ m, W.cell? ⟨0, 0, none⟩ = some (.int .i64 m) :=
  cell_of_shapedOpen_int (P := Tryz.prog) (g := 0) (t := 3) (zero := #[.int .i64 0]) hsh (of_decide_eq_true (by kernel_rfl)) (by kernel_rfl) rfl (by kernel_rfl) (by kernel_rfl) Tryz.underlying3
theorem err_of {W : World} {g tp b o : Nat} {G : Nat → Option (List AV)} (hG : GloOK (Bas.of W) G) (h : G g = some [.iface tp (.glob b o)]) : ErrAt g W := by
  obtain ⟨_, arr, elem, fr, h1, vs, hv, hc⟩ := hG g _ h
  obtain ⟨v, hv1, hv2⟩ := hv.get 0 _ rfl
  have h3 := hc 0 v hv1
  refine ⟨v, ?_, ?_⟩
  · unfold World.cell?
    have h1' : W.heap[g]? = some (.cells arr elem fr) := h1
    rw [h1']
    simpa using h3
  · simp only [VR] at hv2
    obtain ⟨v', e, _⟩ := hv2
    exact .inr ⟨_, _, e⟩
theorem glo_only (W : World) (hL : laidMetH Tryz.prog laidL W) (hsh : W.ShapedOpen Tryz.prog) : GloAt W ∧ MaxAt W := by
  obtain ⟨b1, o1, b2, o2, hE⟩ := eok W hL hsh
  exact ⟨⟨maxAt W hsh, err_of hE.glo (b := b2) (o := o2) rfl, err_of hE.glo (b := b1) (o := o1) rfl⟩, maxAt W hsh⟩
end Go.Proofs.YtdfapebggghfdaaGreatDoor

namespace Go.Proofs.YtdfapebggghfdaaGreatDoor
open Go.RowKit Go.Lib Go.Tx Go.Proofs
def OneR (w : World) (ws : List (List UInt8)) (e : Ending) (w' : World) : Prop := ∃ v, e = .returned v ∧ StrC w.heap.size w' v ws ∧ Below w.heap.size w w'
theorem one_long (a : Option Addr) (n c : Nat) (l : List UInt8) (w : World) (h : BA w a n c l) (hn : 512 < n) :
    Calls Tryz.prog 35 #[.slice a n c] w (OneR w (wordsOf l)) := by
  have hb : Hid (wordsOf l = []) := Lib.hid (by have := h.len; simp [wordsOf, badSeg, this, hn])
  have hcap := h.cap
  have hmax := h.max
  go_enter Tryz.func35, Tryz.ntmps35
  go_wp2
  go_ret
  exact ⟨_, rfl, by rw [hb.out]; exact World.ownsRow_nil _ _ _ _, Below.refl _ _⟩
/-- A foreign byte in it. -/
theorem words_for {l : List UInt8} {k : Nat} {b : UInt8} (h : l[k]? = some b) (hb : forB b = true) : wordsOf l = [] := by
  have : l.any forB = true := any_yes l k b h hb
  simp [wordsOf, badSeg, this]
theorem nil_own (B : Nat) (w : World) (ws : List (List UInt8)) (h : ws = []) : StrC B w (.slice none 0 0) ws := by
  subst h; exact World.ownsRow_nil _ _ _ _
theorem forB_hi {c : UInt8} (h : 127 ≤ (c.toNat : Int)) : forB c = true := by
  have : 127 ≤ c.toNat := by omega
  simp [forB, this]
theorem forB_lo {c : UInt8} (h : (c.toNat : Int) < 32) (hb : blankN c.toNat = false) : forB c = true := by
  have : c.toNat < 32 := by omega
  simp [forB, this, hb]
theorem forB_blank {c : UInt8} (h : (c.toNat : Int) < 127) (hb : blankN c.toNat = true) : forB c = false := by
  have : ¬ 127 ≤ c.toNat := by omega
  simp [forB, this, hb]
theorem forB_mid {c : UInt8} (h : (c.toNat : Int) < 127) (h2 : 32 ≤ (c.toNat : Int)) : forB c = false := by
  have h1 : ¬ 127 ≤ c.toNat := by omega
  have h3 : ¬ c.toNat < 32 := by omega
  simp [forB, h1, h3]
/-- The sign, or what stands behind it: nothing turns. -/
theorem _root_.Go.Tx.OneI.stay {l : List UInt8} {w wr : World} {k : Nat} {rest word lv : Value} {s : ByteArray} {b : UInt8} (h : OneI l w k rest word lv wr s) (hb : l[k]? = some b) (hf : forB b = false) (hr : (35 : UInt8) ∈ l.take k ∨ b = 35) : OneI l w (k + 1) (.bool true) word lv wr s :=
  ⟨by rw [decide_eq_true ((mem_snoc hb).2 hr)], h.word, by rw [ust_rest hb hr]; exact h.text, by rw [ust_rest hb hr]; exact h.row, any_snoc hb h.fine hf, h.bel⟩
theorem _root_.Go.Tx.OneI.start (l : List UInt8) (w : World) : OneI l w 0 (.bool false) (.string ⟨#[]⟩) (.slice none 0 0) w ⟨#[]⟩ :=
  ⟨by simp, rfl, rfl, World.ownsRow_nil _ _ _ _, rfl, Below.refl _ _⟩
/-- A blank, no word open. -/
theorem _root_.Go.Tx.OneI.blank0 {l : List UInt8} {w wr : World} {k : Nat} {rest word lv : Value} {s : ByteArray} {b : UInt8} (h : OneI l w k rest word lv wr s) (hb : l[k]? = some b) (hf : forB b = false) (hr : ¬ (35 : UInt8) ∈ l.take k) (h35 : ¬ b = 35) (hbl : blankN b.toNat = true) (hs : s.data.toList = []) : OneI l w (k + 1) (.bool false) (.string ⟨#[]⟩) lv wr ⟨#[]⟩ := by
  have hu : (ust l k).1 = [] := by rw [← h.text]; exact hs
  have e := (ust_step hb hr h35).trans (stepW_nil hbl hu)
  exact ⟨by rw [decide_eq_false (fun hm => by rcases (mem_snoc hb).1 hm with h | h <;> contradiction)], rfl, by rw [e], by rw [e]; exact h.row, any_snoc hb h.fine hf, h.bel⟩
/-- A blank behind a word. -/
theorem _root_.Go.Tx.OneI.blank1 {l : List UInt8} {w wr w' : World} {k : Nat} {rest word lv lv' : Value} {s : ByteArray} {b : UInt8} (h : OneI l w k rest word lv wr s) (hb : l[k]? = some b) (hf : forB b = false) (hr : ¬ (35 : UInt8) ∈ l.take k) (h35 : ¬ b = 35) (hbl : blankN b.toNat = true) (hs : ¬ s.data.toList = [])
    (ho : w'.ownsRow w.heap.size 9 1 lv' ((ust l k).2.length + 1) ((ust l k).2.map strV ++ [.string s])) (hbel : Below w.heap.size w w') : OneI l w (k + 1) (.bool false) (.string ⟨#[]⟩) lv' w' ⟨#[]⟩ := by
  have hu : ¬ (ust l k).1 = [] := by rw [← h.text]; exact hs
  have e := (ust_step hb hr h35).trans (stepW_end hbl hu)
  have hv : Value.string s = strV (ust l k).1 := by rw [← h.text]; unfold strV; simp
  refine ⟨by rw [decide_eq_false (fun hm => by rcases (mem_snoc hb).1 hm with h | h <;> contradiction)], rfl, by rw [e], ?_, any_snoc hb h.fine hf, hbel⟩
  rw [e]
  unfold StrC
  rw [List.length_append, List.map_append]
  rw [hv] at ho
  exact ho
/-- A letter. -/
theorem _root_.Go.Tx.OneI.letter {l : List UInt8} {w wr w' : World} {k : Nat} {rest word lv : Value} {s : ByteArray} {b : UInt8} (h : OneI l w k rest word lv wr s) (hb : l[k]? = some b) (hf : forB b = false) (hr : ¬ (35 : UInt8) ∈ l.take k) (h35 : ¬ b = 35) (hbl : ¬ blankN b.toNat = true)
    (hbel : Below wr.heap.size wr w') : OneI l w (k + 1) (.bool false) (.string (s ++ ⟨#[b]⟩)) lv w' (s ++ ⟨#[b]⟩) := by
  have e := (ust_step hb hr h35).trans (stepW_in hbl)
  refine ⟨by rw [decide_eq_false (fun hm => by rcases (mem_snoc hb).1 hm with h | h <;> contradiction)], rfl, ?_, ?_, any_snoc hb h.fine hf, h.bel.trans (hbel.mono h.bel.size)⟩
  · rw [e]; simp [h.text]
  · rw [e]; exact own_below h.row hbel
end Go.Proofs.YtdfapebggghfdaaGreatDoor

namespace Go.Proofs.YtdfapebggghfdaaGreatDoor
open Go.RowKit Go.Lib Go.Tx Go.Proofs
theorem words_end {l : List UInt8} (h1 : (l.take l.length).any forB = false) (h2 : l.length ≤ 512) : wordsOf l = closeW (ust l l.length) := by
  rw [List.take_length] at h1
  unfold wordsOf badSeg ust
  rw [h1, decide_eq_false (by omega), List.take_length]
  rfl
set_option maxHeartbeats 4000000 in
set_option maxRecDepth 100000 in
theorem one_ok (a : Option Addr) (n c : Nat) (l : List UInt8) (w : World) (h : BA w a n c l) (hold : ∀ x, a = some x → x.block < w.heap.size) (hn : n ≤ 512) :
    Calls Tryz.prog 35 #[.slice a n c] w (OneR w (wordsOf l)) := by
  obtain ⟨i9, hi, hz0, hz1, hz2⟩ := info_parts info9o
  have hcap := h.cap
  have hmax := h.max
  have HL := Lib.hid h.len
  have HBA := Lib.hid h
  have HOLD := Lib.hid hold
  clear h hold
  go_enter Tryz.func35, Tryz.ntmps35
  go_wp2
  go_loopw [3, 4, 5, 6] (fun lv word rest i wr => ∃ k s, k ≤ n ∧ i = .int .i64 (k : Nat) ∧ OneI l w k rest word lv wr s) (fun _ _ _ i _ => n - (intOf i).toNat)
  case atStart => exact ⟨0, _, Nat.zero_le _, rfl, Go.Tx.OneI.start l w⟩
  case round =>
    obtain ⟨k, s, hk, rfl, hI⟩ := hrel
    have hul := ust_len l k
    have hsz : s.size ≤ 512 := by
      have h1 : s.data.toList.length = s.size := rfl
      rw [hI.text] at h1
      omega
    have hul2 : (ust l k).2.length ≤ 512 := by omega
    have hws := hI.bel.size
    clear hul
    have hrest := hI.rest
    have hword := hI.word
    subst hrest hword
    have HI := Lib.hid hI
    clear hI
    by_cases hlt : k < n
    · obtain ⟨b, hb⟩ : ∃ b, l[k]? = some b := ⟨_, List.getElem?_eq_getElem (by rw [HL.out]; exact hlt)⟩
      obtain ⟨x, rfl⟩ : ∃ x, a = some x := by
        cases a with
        | none => have := HBA.out.none rfl; omega
        | some x => exact ⟨x, rfl⟩
      have hcell := (HBA.out.below HI.out.bel HOLD.out).cell x rfl k b hb
      have HK := Lib.hid hb
      clear hb
      by_cases h127 : 127 ≤ (b.toNat : Int)
      · go_wp2
        go_ret
        exact ⟨_, rfl, nil_own _ _ _ (words_for HK.out (forB_hi h127)), HI.out.bel⟩
      · have h127 : (b.toNat : Int) < 127 := by omega
        by_cases h32 : (b.toNat : Int) < 32
        · cases hbl : blankN b.toNat with
          | false =>
            have HB := Lib.hid hbl
            clear hbl
            go_wp2_with (go_at_call 57; refine (blank_any b _).mono ?_; rw [HB.out]; rintro e w' ⟨rfl, rfl⟩)
            go_ret
            exact ⟨_, rfl, nil_own _ _ _ (words_for HK.out (forB_lo h32 HB.out)), HI.out.bel⟩
          | true =>
            have HB := Lib.hid hbl
            have HF := Lib.hid (forB_blank h127 hbl)
            clear hbl
            cases hd : decide ((35 : UInt8) ∈ l.take k) with
            | true =>
              have HM := Lib.hid (of_decide_eq_true hd)
              clear hd
              go_wp2_with (go_at_call 57; refine (blank_any b _).mono ?_; rw [HB.out]; rintro e w' ⟨rfl, rfl⟩)
              go_roundw
              case rel => exact ⟨k + 1, _, hlt, by go_num, HI.out.stay HK.out HF.out (.inl HM.out)⟩
              case measure => simp [intOf]; omega
            | false =>
              have HM := Lib.hid (of_decide_eq_false hd)
              clear hd
              have e35 : ((b.toNat : Int) == 35) = false := by rw [beq_eq_false_iff_ne]; omega
              have H35 : Hid (¬ b = 35) := Lib.hid (by rintro rfl; revert h32; decide)
              by_cases hs : s.data.toList = []
              · have e1 : s.toList = [] := by rw [toList_data]; exact hs
                have HS := Lib.hid hs
                clear hs
                go_wp2_with (go_at_call 57; refine (blank_any b _).mono ?_; rw [HB.out]; rintro e w' ⟨rfl, rfl⟩)
                go_roundw
                case rel => exact ⟨k + 1, _, hlt, by go_num, HI.out.blank0 HK.out HF.out HM.out H35.out HB.out HS.out⟩
                case measure => simp [intOf]; omega
              · have e1 : ¬ s.toList = [] := by rw [toList_data]; exact hs
                have e2 : s.toList.isEmpty = false := by cases hh : s.toList with | nil => exact absurd hh e1 | cons x y => rfl
                have HS := Lib.hid hs
                clear hs
                go_wp2_with (first | (go_at_call 57; refine (blank_any b _).mono ?_; rw [HB.out]; rintro e w' ⟨rfl, rfl⟩) | (at_builtin; refine wpList_append_own _ rfl _ _ 32 rfl w.heap.size 9 i9 (.string ⟨#[]⟩) 1 16 Tryz.underlying32 hi hz0 hz1 hz2 rfl (by decide) _ _ _ rfl (HI.out.row.alloc _) ⟨wr.heap.size, 0, none⟩ 1 1 [.string s] rfl rfl (one_cell _ _ _) (by simp [Value.oneCell']) (by unfold maxLen; omega) (by omega) (by show w.heap.size ≤ (wr.heap.push _).size; simp; omega) ?_; intro v' w5 hown5 hg5 _))
                go_roundw
                case rel => exact ⟨k + 1, _, hlt, by go_num, HI.out.blank1 HK.out HF.out HM.out H35.out HB.out HS.out hown5 ((HI.out.bel.alloc HI.out.bel.size _).grown hg5 (by show w.heap.size ≤ (wr.heap.push _).size; have := HI.out.bel.size; simp; omega) (fun g hg => (HI.out.row.lt g hg).1))⟩
                case measure => simp [intOf]; omega
        · have h32 : 32 ≤ (b.toNat : Int) := by omega
          have HF := Lib.hid (forB_mid h127 h32)
          cases hd : decide ((35 : UInt8) ∈ l.take k) with
          | true =>
            have HM := Lib.hid (of_decide_eq_true hd)
            clear hd
            go_wp2
            go_roundw
            case rel => exact ⟨k + 1, _, hlt, by go_num, HI.out.stay HK.out HF.out (.inl HM.out)⟩
            case measure => simp [intOf]; omega
          | false =>
            have HM := Lib.hid (of_decide_eq_false hd)
            clear hd
            by_cases h35 : b = 35
            · have e35 : ((b.toNat : Int) == 35) = true := by subst h35; rfl
              have H35 := Lib.hid h35
              clear h35
              go_wp2
              go_roundw
              case rel => exact ⟨k + 1, _, hlt, by go_num, HI.out.stay HK.out HF.out (.inr H35.out)⟩
              case measure => simp [intOf]; omega
            · have e35 : ((b.toNat : Int) == 35) = false := by rw [beq_eq_false_iff_ne]; intro h; exact h35 (UInt8.toNat_inj.1 (by show b.toNat = 35; omega))
              have H35 := Lib.hid h35
              clear h35
              cases hbl : blankN b.toNat with
              | true =>
                have HB := Lib.hid hbl
                clear hbl
                by_cases hs : s.data.toList = []
                · have e1 : s.toList = [] := by rw [toList_data]; exact hs
                  have HS := Lib.hid hs
                  clear hs
                  go_wp2_with (go_at_call 57; refine (blank_any b _).mono ?_; rw [HB.out]; rintro e w' ⟨rfl, rfl⟩)
                  go_roundw
                  case rel => exact ⟨k + 1, _, hlt, by go_num, HI.out.blank0 HK.out HF.out HM.out H35.out HB.out HS.out⟩
                  case measure => simp [intOf]; omega
                · have e1 : ¬ s.toList = [] := by rw [toList_data]; exact hs
                  have e2 : s.toList.isEmpty = false := by cases hh : s.toList with | nil => exact absurd hh e1 | cons x y => rfl
                  have HS := Lib.hid hs
                  clear hs
                  go_wp2_with (first | (go_at_call 57; refine (blank_any b _).mono ?_; rw [HB.out]; rintro e w' ⟨rfl, rfl⟩) | (at_builtin; refine wpList_append_own _ rfl _ _ 32 rfl w.heap.size 9 i9 (.string ⟨#[]⟩) 1 16 Tryz.underlying32 hi hz0 hz1 hz2 rfl (by decide) _ _ _ rfl (HI.out.row.alloc _) ⟨wr.heap.size, 0, none⟩ 1 1 [.string s] rfl rfl (one_cell _ _ _) (by simp [Value.oneCell']) (by unfold maxLen; omega) (by omega) (by show w.heap.size ≤ (wr.heap.push _).size; simp; omega) ?_; intro v' w5 hown5 hg5 _))
                  go_roundw
                  case rel => exact ⟨k + 1, _, hlt, by go_num, HI.out.blank1 HK.out HF.out HM.out H35.out HB.out HS.out hown5 ((HI.out.bel.alloc HI.out.bel.size _).grown hg5 (by show w.heap.size ≤ (wr.heap.push _).size; have := HI.out.bel.size; simp; omega) (fun g hg => (HI.out.row.lt g hg).1))⟩
                  case measure => simp [intOf]; omega
              | false =>
                have HB := Lib.hid hbl
                clear hbl
                have hbs := byte_str wr b
                go_wp2_with (go_at_call 57; refine (blank_any b _).mono ?_; rw [HB.out]; rintro e w' ⟨rfl, rfl⟩)
                go_roundw
                case rel => exact ⟨k + 1, _, hlt, by go_num, HI.out.letter HK.out HF.out HM.out H35.out (by rw [HB.out]; decide) ((Below.refl _ _).alloc (Nat.le_refl _) _)⟩
                case measure => simp [intOf]; omega
    · obtain rfl : k = n := by omega
      have hend : Hid (wordsOf l = closeW (ust l k)) := Lib.hid (by
        have h1 := HI.out.fine
        have h2 := HL.out
        subst h2
        exact words_end h1 hn)
      by_cases hs : s.data.toList = []
      · have e1 : s.toList = [] := by rw [toList_data]; exact hs
        have HS := Lib.hid hs
        clear hs
        go_wp2
        go_ret
        exact ⟨_, rfl, by rw [hend.out]; unfold closeW; rw [if_pos (by rw [← HI.out.text]; exact HS.out)]; exact HI.out.row, HI.out.bel⟩
      · have e1 : ¬ s.toList = [] := by rw [toList_data]; exact hs
        have e2 : s.toList.isEmpty = false := by cases hh : s.toList with | nil => exact absurd hh e1 | cons x y => rfl
        have HS := Lib.hid hs
        clear hs
        go_wp2_with (at_builtin; refine wpList_append_own _ rfl _ _ 32 rfl w.heap.size 9 i9 (.string ⟨#[]⟩) 1 16 Tryz.underlying32 hi hz0 hz1 hz2 rfl (by decide) _ _ _ rfl (HI.out.row.alloc _) ⟨wr.heap.size, 0, none⟩ 1 1 [.string s] rfl rfl (one_cell _ _ _) (by simp [Value.oneCell']) (by unfold maxLen; omega) (by omega) (by show w.heap.size ≤ (wr.heap.push _).size; simp; omega) ?_; intro v' w5 hown5 hg5 _)
        go_ret
        refine ⟨_, rfl, ?_, (HI.out.bel.alloc HI.out.bel.size _).grown hg5 (by show w.heap.size ≤ (wr.heap.push _).size; have := HI.out.bel.size; simp; omega) (fun g hg => (HI.out.row.lt g hg).1)⟩
        rw [hend.out]
        unfold closeW
        rw [if_neg (by rw [← HI.out.text]; exact HS.out)]
        unfold StrC
        rw [List.length_append, List.map_append]
        have hv : Value.string s = strV (ust l k).1 := by rw [← HI.out.text]; unfold strV; simp
        rw [hv] at hown5
        exact hown5
theorem one_any (a : Option Addr) (n c : Nat) (l : List UInt8) (w : World) (h : BA w a n c l) (hold : ∀ x, a = some x → x.block < w.heap.size) :
    Calls Tryz.prog 35 #[.slice a n c] w (OneR w (wordsOf l)) := by
  by_cases hn : 512 < n
  · exact one_long a n c l w h hn
  · exact one_ok a n c l w h hold (by omega)
end Go.Proofs.YtdfapebggghfdaaGreatDoor

namespace Go.Tx
open Go.RowKit
theorem StrC.of {B : Nat} {w : World} {v : Value} {ws : List (List UInt8)} (h : Strs B w v ws) : StrC B w v ws := by
  rcases h with ⟨rfl, rfl⟩ | ⟨A, rfl, _, h⟩
  · exact World.ownsRow_nil _ _ _ _
  · exact h
theorem StrC.grown {E B : Nat} {v : Value} {ws : List (List UInt8)} {w w' : World} {row : Option Nat} (hE : E ≠ 9) (h : StrC B w v ws) (hg : w.grownBy w' row) (hr : ∀ g, row = some g → ∃ cur fr, w.heap[g]? = some (.cells cur E fr)) : StrC B w' v ws := by
  refine World.ownsRow.kept h hg ?_
  rcases h.2 with ⟨a, _⟩ | ⟨A, cap, cur, a, _, hh, _⟩
  · left; rw [a]; rfl
  · right
    rw [a]
    cases row with
    | none => simp [Value.ownBlock]
    | some g =>
      simp only [Value.ownBlock, ne_eq, Option.some.injEq]
      rintro rfl
      obtain ⟨cur', fr, hc⟩ := hr A rfl
      rw [hc] at hh
      cases hh
      exact hE rfl
def LinesC (E B : Nat) (w : World) (v : Value) (T : List (Nat × List (List UInt8))) : Prop :=
  ∃ xs, w.ownsRow B E 2 v T.length xs ∧ ∀ (i no : Nat) (ws : List (List UInt8)), T[i]? = some (no, ws) → xs[2 * i]? = some (.int .i64 (no : Int)) ∧ ∃ wv, xs[2 * i + 1]? = some wv ∧ StrC B w wv ws
theorem LinesC.of {B : Nat} {w : World} {v : Value} {T : List (Nat × List (List UInt8))} (h : LinesAt B w v T) : LinesC 47 B w v T := by
  obtain ⟨xs, h1, h2⟩ := h
  refine ⟨xs, h1, fun i no ws hi => ?_⟩
  obtain ⟨a, wv, b, c⟩ := h2 i no ws hi
  exact ⟨a, wv, b, StrC.of c⟩
theorem LinesC.nil (E B : Nat) (w : World) : LinesC E B w (.slice none 0 0) [] := ⟨[], World.ownsRow_nil w B E 2, by simp⟩
theorem LinesC.below {E B : Nat} {v : Value} {T : List (Nat × List (List UInt8))} {w w' : World} (h : LinesC E B w v T) (hb : Below w.heap.size w w') : LinesC E B w' v T := by
  obtain ⟨xs, h1, h2⟩ := h
  refine ⟨xs, own_below h1 hb, fun i no ws hi => ?_⟩
  obtain ⟨a, wv, b, c⟩ := h2 i no ws hi
  exact ⟨a, wv, b, own_below c hb⟩
theorem LinesC.shape {E B : Nat} {v : Value} {T : List (Nat × List (List UInt8))} {w : World} (h : LinesC E B w v T) : ∃ p c, v = .slice p T.length c := by
  obtain ⟨xs, h1, _⟩ := h
  rcases h1.2 with ⟨a, b⟩ | ⟨g, cap, cur, a, _⟩
  · exact ⟨none, 0, by rw [a, b]⟩
  · exact ⟨_, _, a⟩
theorem LinesC.push {E B : Nat} (hE : E ≠ 9) {v v' wv : Value} {T : List (Nat × List (List UInt8))} {w w' : World} {xs : List Value} {no : Nat} {ws : List (List UInt8)}
    (h1 : w.ownsRow B E 2 v T.length xs) (h2 : ∀ (i no : Nat) (ws : List (List UInt8)), T[i]? = some (no, ws) → xs[2 * i]? = some (.int .i64 (no : Int)) ∧ ∃ wv, xs[2 * i + 1]? = some wv ∧ StrC B w wv ws)
    (hs : StrC B w wv ws) (ho : w'.ownsRow B E 2 v' (T.length + 1) (xs ++ [.int .i64 (no : Int), wv])) (hg : w.grownBy w' v.ownBlock) : LinesC E B w' v' (T ++ [(no, ws)]) := by
  have hr : ∀ g, v.ownBlock = some g → ∃ cur fr, w.heap[g]? = some (.cells cur E fr) := by
    intro g hg
    rcases h1.2 with ⟨a, _⟩ | ⟨g', cap, cur, a, _, c, _⟩
    · rw [a] at hg; cases hg
    · rw [a] at hg
      cases hg
      exact ⟨cur, _, c⟩
  have hlen : xs.length = T.length * 2 := h1.1
  refine ⟨_, by simpa using ho, fun i no' ws' hi => ?_⟩
  by_cases hlt : i < T.length
  · rw [List.getElem?_append_left hlt] at hi
    obtain ⟨a, wv', b, c⟩ := h2 i no' ws' hi
    exact ⟨by rw [List.getElem?_append_left (by omega)]; exact a, wv', by rw [List.getElem?_append_left (by omega)]; exact b, c.grown hE hg hr⟩
  · have hle : i < (T ++ [(no, ws)]).length := (List.getElem?_eq_some_iff.1 hi).1
    have : i = T.length := by simp at hle; omega
    subst this
    rw [List.getElem?_append_right (Nat.le_refl _), Nat.sub_self] at hi
    cases hi
    refine ⟨?_, wv, ?_, hs.grown hE hg hr⟩
    · rw [List.getElem?_append_right (by omega), show 2 * T.length - xs.length = 0 from by omega]; rfl
    · rw [List.getElem?_append_right (by omega), show 2 * T.length + 1 - xs.length = 1 from by omega]; rfl
theorem LinesC.read {E B : Nat} {w : World} {v : Value} {T : List (Nat × List (List UInt8))} (h : LinesC E B w v T) :
    ∃ p cap, v = .slice p T.length cap ∧ T.length ≤ cap ∧ cap ≤ 9223372036854775807 ∧ ∀ (i no : Nat) (ws : List (List UInt8)), T[i]? = some (no, ws) → ∃ g, p = some ⟨g, 0, none⟩ ∧ w.cell? ⟨g, 2 * i, none⟩ = some (.int .i64 (no : Int)) ∧ ∃ q c, w.cell? ⟨g, 2 * i + 1, none⟩ = some (.slice q ws.length c) ∧ StrC B w (.slice q ws.length c) ws := by
  obtain ⟨xs, h1, h2⟩ := h
  rcases h1.2 with ⟨a, b⟩ | ⟨g, cap, cur, a, a2, a3, a4, a5, _⟩
  · refine ⟨none, 0, by rw [a, b], by omega, by omega, fun i no ws hi => ?_⟩
    have := (List.getElem?_eq_some_iff.1 hi).1
    omega
  · subst a
    refine ⟨_, cap, rfl, a4, a5, fun i no ws hi => ?_⟩
    obtain ⟨x, wv, y, z⟩ := h2 i no ws hi
    have hlt : i < T.length := (List.getElem?_eq_some_iff.1 hi).1
    obtain ⟨q, c, rfl⟩ := z.shape
    exact ⟨g, rfl, by rw [h1.cellAt _ (by omega)]; exact x, q, c, by rw [h1.cellAt _ (by omega)]; exact y, z⟩
end Go.Tx

namespace Go.Tx
open Go.RowKit
/-- What holds at the head of a round. -/
structure RI (w : World) (l : List UInt8) (n k N F : Nat) (out no fr : Value) (wr : World) (T : List (Nat × List (List UInt8))) : Prop where
  no : no = .int .i64 (N : Int)
  fr : fr = .int .i64 (F : Int)
  told : LinesC 54 w.heap.size wr out T
  go : k ≤ n → F ≤ k ∧ toldG 1 [] l = T ++ toldG (N + 1) ((l.take k).drop F) (l.drop k)
  done : n < k → toldG 1 [] l = T
  few : T.length ≤ N
  few2 : N ≤ k
  bel : Below w.heap.size w wr
theorem toldG_step {l : List UInt8} {k N F : Nat} {b : UInt8} (h : l[k]? = some b) (hF : F ≤ k) (hb : ¬ b = 10) : toldG N ((l.take k).drop F) (l.drop k) = toldG N ((l.take (k + 1)).drop F) (l.drop (k + 1)) := by
  have hk := (List.getElem?_eq_some_iff.1 h).1
  have e : l.drop k = b :: l.drop (k + 1) := by
    rw [List.drop_eq_getElem_cons hk]
    rw [List.getElem?_eq_getElem hk] at h
    cases h
    rfl
  rw [e, toldG, if_neg hb, take_succ' l k b h, List.drop_append_of_le_length (by rw [List.length_take]; omega)]
theorem toldG_cut {l : List UInt8} {k N F : Nat} {b : UInt8} (h : l[k]? = some b) (hb : b = 10) : toldG N ((l.take k).drop F) (l.drop k) = tell N ((l.take k).drop F) ++ toldG (N + 1) ((l.take (k + 1)).drop (k + 1)) (l.drop (k + 1)) := by
  have hk := (List.getElem?_eq_some_iff.1 h).1
  have e : l.drop k = b :: l.drop (k + 1) := by
    rw [List.drop_eq_getElem_cons hk]
    rw [List.getElem?_eq_getElem hk] at h
    cases h
    rfl
  have e2 : (l.take (k + 1)).drop (k + 1) = [] := List.drop_of_length_le (by rw [List.length_take]; omega)
  rw [e, toldG, if_pos hb, e2]
theorem toldG_last {l : List UInt8} {n N F : Nat} (h : l.length = n) : toldG N ((l.take n).drop F) (l.drop n) = tell N ((l.take n).drop F) := by
  have e : l.drop n = [] := List.drop_of_length_le (by omega)
  rw [e]
  rfl
theorem RI.start (w : World) (l : List UInt8) (n : Nat) : RI w l n 0 0 0 (.slice none 0 0) (.int .i64 0) (.int .i64 0) w [] :=
  ⟨rfl, rfl, LinesC.nil _ _ _, fun _ => ⟨Nat.le_refl _, by simp⟩, fun h => by omega, Nat.zero_le _, Nat.le_refl _, Below.refl _ _⟩
theorem RI.skip {w wr : World} {l : List UInt8} {n k N F : Nat} {out no fr : Value} {T : List (Nat × List (List UInt8))} {b : UInt8} (h : RI w l n k N F out no fr wr T) (hl : l.length = n) (hb : l[k]? = some b) (h10 : ¬ b = 10) : RI w l n (k + 1) N F out no fr wr T := by
  have hk := (List.getElem?_eq_some_iff.1 hb).1
  obtain ⟨h1, h2⟩ := h.go (by omega)
  exact ⟨h.no, h.fr, h.told, fun _ => ⟨by omega, by rw [h2, toldG_step hb h1 h10]⟩, fun h => by omega, h.few, by have := h.few2; omega, h.bel⟩
/-- A line ends; nothing is told of it. -/
theorem RI.none {w wr w' : World} {l : List UInt8} {n k N F : Nat} {out no fr : Value} {T : List (Nat × List (List UInt8))} (h : RI w l n k N F out no fr wr T) (hl : l.length = n) (hk : k ≤ n) (hb : k < n → l[k]? = some 10)
    (hw : wordsOf ((l.take k).drop F) = []) (hbel : Below wr.heap.size wr w') : RI w l n (k + 1) (N + 1) (k + 1) out (.int .i64 ((N + 1 : Nat) : Int)) (.int .i64 ((k + 1 : Nat) : Int)) w' T := by
  obtain ⟨h1, h2⟩ := h.go hk
  have ht : tell (N + 1) ((l.take k).drop F) = [] := by simp [tell, hw]
  refine ⟨rfl, rfl, h.told.below hbel, fun h3 => ⟨Nat.le_refl _, ?_⟩, fun h3 => ?_, by have := h.few; omega, by have := h.few2; omega, h.bel.trans (hbel.mono h.bel.size)⟩
  · rw [h2, toldG_cut (hb (by omega)) rfl, ht, List.nil_append]
  · have : k = n := by omega
    subst this
    rw [h2, toldG_last hl, ht, List.append_nil]
/-- A line ends; its words are told. -/
theorem RI.some {w wr w4 w' : World} {l : List UInt8} {n k N F : Nat} {out out' no fr wv : Value} {xs : List Value} {T : List (Nat × List (List UInt8))} (h : RI w l n k N F out no fr wr T) (hl : l.length = n) (hk : k ≤ n) (hb : k < n → l[k]? = some 10)
    (hw : ¬ wordsOf ((l.take k).drop F) = []) (hbel : Below w.heap.size w w') (ht' : LinesC 54 w.heap.size w' out' (T ++ [(N + 1, wordsOf ((l.take k).drop F))])) : RI w l n (k + 1) (N + 1) (k + 1) out' (.int .i64 ((N + 1 : Nat) : Int)) (.int .i64 ((k + 1 : Nat) : Int)) w' (T ++ [(N + 1, wordsOf ((l.take k).drop F))]) := by
  obtain ⟨h1, h2⟩ := h.go hk
  have ht : tell (N + 1) ((l.take k).drop F) = [(N + 1, wordsOf ((l.take k).drop F))] := by simp [tell, hw]
  refine ⟨rfl, rfl, ht', fun h3 => ⟨Nat.le_refl _, ?_⟩, fun h3 => ?_, by have := h.few; simp; omega, by have := h.few2; omega, hbel⟩
  · rw [h2, toldG_cut (hb (by omega)) rfl, ht, List.append_assoc]
  · have : k = n := by omega
    subst this
    rw [h2, toldG_last hl, ht]
end Go.Tx
namespace Go.Proofs.YtdfapebggghfdaaGreatDoor
open Go.RowKit Go.Lib Go.Tx Go.Proofs
theorem one_none (a : Option Addr) (n c : Nat) (l : List UInt8) (w : World) (h : BA w a n c l) (hold : ∀ x, a = some x → x.block < w.heap.size) (hw : wordsOf l = []) :
    Calls Tryz.prog 35 #[.slice a n c] w fun e w' => ∃ p c, e = .returned (.slice p 0 c) ∧ Below w.heap.size w w' := by
  refine (one_any a n c l w h hold).mono ?_
  rintro e w' ⟨v, rfl, hs, hb⟩
  obtain ⟨p, c, rfl⟩ := hs.shape
  rw [hw]
  exact ⟨p, c, rfl, hb⟩
theorem one_some (a : Option Addr) (n c : Nat) (l : List UInt8) (w : World) (h : BA w a n c l) (hold : ∀ x, a = some x → x.block < w.heap.size) (hw : ¬ wordsOf l = []) :
    Calls Tryz.prog 35 #[.slice a n c] w fun e w' => ∃ p k c, e = .returned (.slice p k c) ∧ 0 < k ∧ Hid (StrC w.heap.size w' (.slice p k c) (wordsOf l)) ∧ Below w.heap.size w w' := by
  refine (one_any a n c l w h hold).mono ?_
  rintro e w' ⟨v, rfl, hs, hb⟩
  obtain ⟨p, c, rfl⟩ := hs.shape
  exact ⟨p, _, c, rfl, List.length_pos_iff.2 hw, Lib.hid hs, hb⟩
theorem info69 : (Tryz.prog.info? 54).map (fun i => (i.zero, i.size, i.bytes)) = some (some (.agg #[.int .i64 0, .slice none 0 0]), 2, 32) := by kernel_rfl
def RLinesR (w : World) (T : List (Nat × List (List UInt8))) (e : Ending) (w' : World) : Prop := ∃ v, e = .returned v ∧ LinesC 54 w.heap.size w' v T ∧ Below w.heap.size w w'
set_option maxHeartbeats 2000000 in
set_option maxRecDepth 100000 in
theorem rlines_any (a : Option Addr) (n c : Nat) (l : List UInt8) (w : World) (h : BA w a n c l) (hold : ∀ x, a = some x → x.block < w.heap.size) (hn : n ≤ 1000000) :
    Calls Tryz.prog 23 #[.slice a n c] w (RLinesR w (toldG 1 [] l)) := by
  obtain ⟨i9, hi, hz0, hz1, hz2⟩ := info_parts info69
  have hcap := h.cap
  have hmax := h.max
  have HL := Lib.hid h.len
  have HBA := Lib.hid h
  have HOLD := Lib.hid hold
  clear h hold
  go_enter Tryz.func23, Tryz.ntmps23
  go_wp2
  go_loopw [3, 4, 5, 6] (fun out no fr i wr => ∃ k N F T, k ≤ n + 1 ∧ i = .int .i64 (k : Nat) ∧ RI w l n k N F out no fr wr T) (fun _ _ _ i _ => n + 1 - (intOf i).toNat)
  case atStart => exact ⟨0, 0, 0, [], Nat.zero_le _, rfl, RI.start w l n⟩
  case round =>
    obtain ⟨k, N, F, T, hk, rfl, hI⟩ := hrel
    have hno := hI.no
    have hfr := hI.fr
    subst hno hfr
    have hws := hI.bel.size
    have hfew := hI.few
    have hfew2 := hI.few2
    have HI := Lib.hid hI
    clear hI
    by_cases hlt : k ≤ n
    · have hF := (HI.out.go hlt).1
      by_cases h10 : k < n ∧ l[k]? ≠ some 10
      · obtain ⟨hkn, h10⟩ := h10
        obtain ⟨b, hb⟩ : ∃ b, l[k]? = some b := ⟨_, List.getElem?_eq_getElem (by rw [HL.out]; exact hkn)⟩
        obtain ⟨x, rfl⟩ : ∃ x, a = some x := by
          cases a with
          | none => have := HBA.out.none rfl; omega
          | some x => exact ⟨x, rfl⟩
        have hcell := (HBA.out.below HI.out.bel HOLD.out).cell x rfl k b hb
        have hb10 : ¬ b = 10 := by rintro rfl; exact h10 hb
        have e10 : ((b.toNat : Int) == 10) = false := by rw [beq_eq_false_iff_ne]; intro h; exact hb10 (UInt8.toNat_inj.1 (by show b.toNat = 10; omega))
        have HB := Lib.hid hb
        have H10 := Lib.hid hb10
        clear hb hb10 h10
        go_wp2
        go_roundw
        case rel => exact ⟨k + 1, N, F, T, by omega, by go_num, HI.out.skip HL.out HB.out H10.out⟩
        case measure => simp [intOf]; omega
      · have h10' : k < n → l[k]? = some 10 := fun hkn => Classical.byContradiction fun h => h10 ⟨hkn, h⟩
        have H10 := Lib.hid h10'
        clear h10 h10'
        by_cases hcF : c = F
        · obtain rfl : n = c := by omega
          obtain rfl : k = n := by omega
          obtain rfl : F = k := by omega
          have HS : Hid (BA wr a 0 0 ((l.take F).drop F)) := Lib.hid (by
            have h1 := ((HBA.out.take (Nat.le_refl F)).from (Nat.le_refl F)).below HI.out.bel (fun x hx => by rw [if_pos rfl] at hx; exact HOLD.out x hx)
            rw [if_pos rfl, Nat.sub_self] at h1
            exact h1)
          have HSO : Hid (∀ x, a = some x → x.block < wr.heap.size) := Lib.hid fun x hx => Nat.lt_of_lt_of_le (HOLD.out x hx) hws
          have HW : Hid (wordsOf ((l.take F).drop F) = []) := Lib.hid (by
            have e : (l.take F).drop F = [] := List.drop_of_length_le (by rw [List.length_take]; omega)
            rw [e]; exact wordsOf_nil)
          go_wp2_with (go_at_call 35; refine (one_none a 0 0 ((l.take F).drop F) _ HS.out HSO.out HW.out).mono ?_; rintro e w3 ⟨p, cc, rfl, hb3⟩)
          go_roundw
          case rel => exact ⟨F + 1, N + 1, F + 1, T, by omega, by go_num, HI.out.none HL.out hlt H10.out HW.out hb3⟩
          case measure => simp [intOf]
        · obtain ⟨x, rfl⟩ : ∃ x, a = some x := by
            cases a with
            | none => have := HBA.out.none rfl; omega
            | some x => exact ⟨x, rfl⟩
          have hblk : (x.add F).block = x.block := by unfold Addr.add; split <;> rfl
          have HSO : Hid (∀ y, some (x.add F) = some y → y.block < wr.heap.size) := Lib.hid fun y hy => by
            cases hy
            rw [hblk]
            exact Nat.lt_of_lt_of_le (HOLD.out x rfl) hws
          have HS : Hid (BA wr (some (x.add F)) (k - F) (c - F) ((l.take k).drop F)) := Lib.hid (by
            have h1 := ((HBA.out.take hlt).from hF).below HI.out.bel (fun y hy => by
              rw [if_neg hcF] at hy
              cases hy
              show (x.add F).block < _
              rw [hblk]
              exact HOLD.out x rfl)
            rw [if_neg hcF] at h1
            exact h1)
          clear hblk
          by_cases hkn : k < n
          · have hcell := (HBA.out.below HI.out.bel HOLD.out).cell x rfl k 10 (H10.out hkn)
            by_cases hws0 : wordsOf ((l.take k).drop F) = []
            · have HW := Lib.hid hws0
              clear hws0
              go_wp2_with (go_at_call 35; refine (one_none _ _ _ ((l.take k).drop F) _ HS.out HSO.out HW.out).mono ?_; rintro e w3 ⟨p, cc, rfl, hb3⟩)
              go_roundw
              case rel => exact ⟨k + 1, N + 1, k + 1, T, by omega, by go_num, HI.out.none HL.out hlt H10.out HW.out hb3⟩
              case measure => simp [intOf]; omega
            · have HW := Lib.hid hws0
              clear hws0
              obtain ⟨xs, hown, hent⟩ := HI.out.told
              have HO := Lib.hid hown
              have HE := Lib.hid hent
              clear hown hent
              go_wp2_with (first | (go_at_call 35; refine (one_some _ _ _ ((l.take k).drop F) _ HS.out HSO.out HW.out).mono ?_; rintro e w3 ⟨p, kk, cc, rfl, hkk, hs3, hb3⟩) | (at_builtin; refine wpList_append_own _ rfl _ _ 52 rfl w.heap.size 54 i9 (.agg #[.int .i64 0, .slice none 0 0]) 2 32 Tryz.underlying52 hi hz0 hz1 hz2 rfl (by decide) _ _ _ rfl ((own_below HO.out hb3).alloc _) ⟨w3.heap.size, 0, none⟩ 1 1 [.int .i64 ((N : Int) + 1), .slice p kk cc] rfl rfl (new_cells _ _ _ _) (by simp [Value.oneCell']) (by unfold maxLen; omega) (by omega) (by have := hb3.size; show w.heap.size ≤ (w3.heap.push _).size; simp; omega) ?_; intro v' w5 hown5 hg5 _))
              go_roundw
              case rel => exact ⟨k + 1, N + 1, k + 1, _, by omega, by go_num, HI.out.some (w4 := w3) (wv := .nilFunc) (xs := []) HL.out hlt H10.out HW.out (((HI.out.bel.trans (hb3.mono hws)).alloc (by have := hb3.size; omega) _).grown hg5 (by have := hb3.size; show w.heap.size ≤ (w3.heap.push _).size; simp; omega) (fun g hg => (HO.out.lt g hg).1)) (LinesC.push (by decide) ((own_below HO.out hb3).alloc _) (fun i no ws h => by obtain ⟨x1, wv, x2, x3⟩ := HE.out i no ws h; exact ⟨x1, wv, x2, World.ownsRow.alloc (own_below x3 hb3) _⟩) (World.ownsRow.alloc (own_base hs3.out hws) _) hown5 hg5)⟩
              case measure => simp [intOf]; omega
          · by_cases hws0 : wordsOf ((l.take k).drop F) = []
            · have HW := Lib.hid hws0
              clear hws0
              go_wp2_with (go_at_call 35; refine (one_none _ _ _ ((l.take k).drop F) _ HS.out HSO.out HW.out).mono ?_; rintro e w3 ⟨p, cc, rfl, hb3⟩)
              go_roundw
              case rel => exact ⟨k + 1, N + 1, k + 1, T, by omega, by go_num, HI.out.none HL.out hlt H10.out HW.out hb3⟩
              case measure => simp [intOf]; omega
            · have HW := Lib.hid hws0
              clear hws0
              obtain ⟨xs, hown, hent⟩ := HI.out.told
              have HO := Lib.hid hown
              have HE := Lib.hid hent
              clear hown hent
              go_wp2_with (first | (go_at_call 35; refine (one_some _ _ _ ((l.take k).drop F) _ HS.out HSO.out HW.out).mono ?_; rintro e w3 ⟨p, kk, cc, rfl, hkk, hs3, hb3⟩) | (at_builtin; refine wpList_append_own _ rfl _ _ 52 rfl w.heap.size 54 i9 (.agg #[.int .i64 0, .slice none 0 0]) 2 32 Tryz.underlying52 hi hz0 hz1 hz2 rfl (by decide) _ _ _ rfl ((own_below HO.out hb3).alloc _) ⟨w3.heap.size, 0, none⟩ 1 1 [.int .i64 ((N : Int) + 1), .slice p kk cc] rfl rfl (new_cells _ _ _ _) (by simp [Value.oneCell']) (by unfold maxLen; omega) (by omega) (by have := hb3.size; show w.heap.size ≤ (w3.heap.push _).size; simp; omega) ?_; intro v' w5 hown5 hg5 _))
              go_roundw
              case rel => exact ⟨k + 1, N + 1, k + 1, _, by omega, by go_num, HI.out.some (w4 := w3) (wv := .nilFunc) (xs := []) HL.out hlt H10.out HW.out (((HI.out.bel.trans (hb3.mono hws)).alloc (by have := hb3.size; omega) _).grown hg5 (by have := hb3.size; show w.heap.size ≤ (w3.heap.push _).size; simp; omega) (fun g hg => (HO.out.lt g hg).1)) (LinesC.push (by decide) ((own_below HO.out hb3).alloc _) (fun i no ws h => by obtain ⟨x1, wv, x2, x3⟩ := HE.out i no ws h; exact ⟨x1, wv, x2, World.ownsRow.alloc (own_below x3 hb3) _⟩) (World.ownsRow.alloc (own_base hs3.out hws) _) hown5 hg5)⟩
              case measure => simp [intOf]; omega
    · obtain rfl : k = n + 1 := by omega
      have hend := HI.out.done (by omega)
      have HE := Lib.hid hend
      clear hend
      go_wp2
      go_ret
      exact ⟨_, rfl, by rw [HE.out]; exact HI.out.told, HI.out.bel⟩
end Go.Proofs.YtdfapebggghfdaaGreatDoor

namespace Go.Tx
open Go.RowKit
end Go.Tx
namespace Go.Proofs.YtdfapebggghfdaaGreatDoor
open Go.RowKit Go.Lib Go.Tx Go.Proofs
set_option maxHeartbeats 1000000 in
set_option maxRecDepth 100000 in
theorem eqtexts_any (v1 v2 : Value) (ws : List (List UInt8)) (B1 B2 : Nat) (w : World) (h1 : StrC B1 w v1 ws) (h2 : StrC B2 w v2 ws) :
    Calls Tryz.prog 13 #[v1, v2] w fun e w' => e = .returned (.bool true) ∧ ∃ q, w' = w.drewN q := by
  obtain ⟨p1, c1, rfl, hc1, hm1, hr1⟩ := h1.read
  obtain ⟨p2, c2, rfl, hc2, hm2, hr2⟩ := h2.read
  have H1 := Lib.hid hr1
  have H2 := Lib.hid hr2
  obtain ⟨n, hn⟩ : ∃ n, ws.length = n := ⟨_, rfl⟩
  rw [hn] at hc1 hc2 ⊢
  have HN := Lib.hid hn
  clear hr1 hr2 h1 h2 hn
  go_enter Tryz.func13, Tryz.ntmps13
  go_wp2
  go_loopw [5] (fun i wr => ∃ k q, k ≤ n ∧ i = .int .i64 (k : Nat) ∧ wr = w.drewN q) (fun i _ => n - (intOf i).toNat)
  case atStart => exact ⟨0, 0, Nat.zero_le _, rfl, rfl⟩
  case round =>
    obtain ⟨k, q, hk, rfl, rfl⟩ := hrel
    by_cases hlt : k < n
    · obtain ⟨l, hl⟩ : ∃ l, ws[k]? = some l := ⟨_, List.getElem?_eq_getElem (by rw [HN.out]; exact hlt)⟩
      obtain ⟨g1, rfl, -, hcell1⟩ := H1.out k l hl
      obtain ⟨g2, rfl, -, hcell2⟩ := H2.out k l hl
      clear hl
      go_wp2
      go_quiet (fail)
      go_wp2
      go_roundw
      case rel => exact ⟨k + 1, _, hlt, by go_num, rfl⟩
      case measure => simp [intOf]; omega
    · go_wp2
      go_ret
      exact ⟨rfl, q, rfl⟩
theorem short_le (a : Option Addr) (n c m : Nat) (w : World) (hc : n ≤ c) (hm : c ≤ 9223372036854775807) (h : n ≤ m) :
    Calls Tryz.prog 8 #[.slice a n c, .int .i64 m] w fun e w' => e = .returned (.slice a n c) ∧ w = w' := by
  go_enter Tryz.func8, Tryz.ntmps8
  go_wp2
  go_ret
  exact ⟨rfl, rfl⟩
theorem short_gt (a : Option Addr) (n c m : Nat) (w : World) (hc : n ≤ c) (hm : c ≤ 9223372036854775807) (h : m < n) :
    Calls Tryz.prog 8 #[.slice a n c, .int .i64 m] w fun e w' => e = .returned (.slice a m c) ∧ w = w' := by
  go_enter Tryz.func8, Tryz.ntmps8
  go_wp2
  go_ret
  exact ⟨rfl, rfl⟩
end Go.Proofs.YtdfapebggghfdaaGreatDoor

namespace Go.Proofs.YtdfapebggghfdaaGreatDoor
open Go.RowKit Go.Lib Go.Tx Go.Rb Go.Ev
def fullP (r : Option (List UInt8)) : Option (List UInt8) := match r with
  | some b => if b.length = 16 then some b else none
  | none => none
def plainP (l : List UInt8) : Option (List UInt8) := fullP (groupsP true l)
/-- The head of Parse's scan: no '::' at k, the next round. -/
theorem cc_bytes {s : ByteArray} {k : Nat} (hlt : k + 1 < s.size) (h : ccAt s.data.toList k = false) : ((s[k].toNat : Int) != 58) = true ∨ (((s[k].toNat : Int) != 58) = false ∧ ((s[k + 1].toNat : Int) != 58) = true) := by
  have hc1 : s.data.toList[k]? = some s[k] := List.getElem?_eq_getElem (by show k < s.size; omega)
  have hc2 : s.data.toList[k + 1]? = some s[k + 1] := List.getElem?_eq_getElem hlt
  unfold ccAt at h
  rw [hc1, hc2] at h
  simp only [Option.some.injEq, Bool.and_eq_false_iff, decide_eq_false_iff_not] at h
  by_cases h1 : s[k] = 58
  · right
    refine ⟨by rw [h1]; rfl, ?_⟩
    rw [bne_iff_ne]
    intro h2
    rcases h with h | h
    · exact h h1
    · exact h (UInt8.toNat_inj.1 (by show _ = 58; omega))
  · left
    rw [bne_iff_ne]
    intro h2
    exact h1 (UInt8.toNat_inj.1 (by show _ = 58; omega))
set_option maxHeartbeats 2000000 in
set_option maxRecDepth 100000 in
theorem parse_plain (s : ByteArray) (w : World) (hn : s.size ≤ 100000) (hf : fourP (splitL 46 s.data.toList) = none) (hcc : ∀ j, j + 1 < s.size → ccAt s.data.toList j = false) :
    Calls Tryz.prog 24 #[.string s] w (FourR w (plainP s.data.toList)) := by
  have HF := Lib.hid hf
  have HC := Lib.hid hcc
  clear hf hcc
  have hg : ∀ W, Calls Tryz.prog 37 #[.string s, .bool true] W (GroupsR W (groupsP true s.data.toList)) := fun W => groups_any true s W hn
  have HGA := Lib.hid hg
  clear hg
  obtain ⟨r, hr⟩ : ∃ r, groupsP true s.data.toList = r := ⟨_, rfl⟩
  have HR := Lib.hid hr
  have HX : Hid (plainP s.data.toList = fullP r) := Lib.hid (by unfold plainP; rw [hr])
  clear hr
  go_enter Tryz.func24, Tryz.ntmps24
  go_wp2_with (go_at_call 36; refine (four_any s _ (by omega)).mono ?_; rw [HF.out]; rintro e w3 ⟨rfl, hb3⟩; simp only [Option.getD_none, Option.isSome_none])
  have HB := Lib.hid hb3
  clear hb3
  go_loopw [6] (fun i wr => ∃ k : Nat, k ≤ s.size ∧ i = .int .i64 k ∧ wr = w3) (fun i _ => s.size - (intOf i).toNat)
  case atStart => exact ⟨0, Nat.zero_le _, rfl, rfl⟩
  case round =>
    obtain ⟨k, hk, rfl, rfl⟩ := hrel
    by_cases hlt : k + 1 < s.size
    · rcases cc_bytes hlt (HC.out k hlt) with e1 | ⟨e1, e2⟩
      · go_wp2
        go_roundw
        case rel => exact ⟨k + 1, by omega, by go_num, trivial⟩
        case measure => simp [intOf]; omega
      · go_wp2
        go_roundw
        case rel => exact ⟨k + 1, by omega, by go_num, trivial⟩
        case measure => simp [intOf]; omega
    · cases r with
      | none =>
        go_wp2_with (go_at_call 37; refine (HGA.out _).mono ?_; intro e w4 h4; obtain ⟨rfl, hb4⟩ := groupsR_none HR.out h4; clear h4)
        go_ret2
        exact ⟨by rw [HX.out]; rfl, HB.out.trans (hb4.mono HB.out.size)⟩
      | some b =>
        by_cases h16 : b.length = 16
        · have e16 : ((b.length : Int) != 16) = false := by simp; omega
          have H16 := Lib.hid h16
          clear h16
          go_wp2_with (go_at_call 37; refine (HGA.out _).mono ?_; intro e w4 h4; obtain ⟨v4, rfl, hr4, hb4⟩ := groupsR_some HR.out h4; clear h4; have hstr := hr4.str (src := 22) (dst := 9) Tryz.underlying22 Tryz.underlying5 Tryz.underlying9; obtain ⟨p4, c4, rfl, hc4, hc5⟩ := hr4.shape)
          go_ret2
          exact ⟨by rw [HX.out]; simp only [fullP, if_pos H16.out]; rfl, HB.out.trans (hb4.mono HB.out.size)⟩
        · have e16 : ((b.length : Int) != 16) = true := by simp; omega
          have H16 := Lib.hid h16
          clear h16
          go_wp2_with (go_at_call 37; refine (HGA.out _).mono ?_; intro e w4 h4; obtain ⟨v4, rfl, hr4, hb4⟩ := groupsR_some HR.out h4; clear h4; obtain ⟨p4, c4, rfl, hc4, hc5⟩ := hr4.shape)
          go_ret2
          exact ⟨by rw [HX.out]; simp only [fullP, if_neg H16.out]; rfl, HB.out.trans (hb4.mono HB.out.size)⟩
end Go.Proofs.YtdfapebggghfdaaGreatDoor

namespace Go.Proofs.YtdfapebggghfdaaGreatDoor
open Go.RowKit Go.Lib Go.Tx Go.Rb Go.Ev
theorem cc_yes {s : ByteArray} {k : Nat} (hlt : k + 1 < s.size) (h : ccAt s.data.toList k = true) : ((s[k].toNat : Int) != 58) = false ∧ ((s[k + 1].toNat : Int) != 58) = false := by
  have hc1 : s.data.toList[k]? = some s[k] := List.getElem?_eq_getElem (by show k < s.size; omega)
  have hc2 : s.data.toList[k + 1]? = some s[k + 1] := List.getElem?_eq_getElem hlt
  unfold ccAt at h
  rw [hc1, hc2] at h
  simp only [Option.some.injEq, Bool.and_eq_true, decide_eq_true_eq] at h
  rw [h.1, h.2]
  exact ⟨rfl, rfl⟩
/-- Where bytes lie. -/
theorem RB.cells {B : Nat} {w : World} {p : Option Addr} {n c : Nat} {l : List UInt8} (h : RB B w (.slice p n c) l) (h0 : 0 < l.length) : ∃ ad, p = some ad ∧ ad.block < w.heap.size ∧ ∀ j v, (vbytes l)[j]? = some v → w.cell? (ad.add j) = some v := by
  rcases h with ⟨h1, rfl⟩ | ⟨b, cap, h1, _, h3, hr⟩
  · simp at h0
  · cases h1
    refine ⟨⟨b, 0, none⟩, rfl, ?_, fun j v hj => ?_⟩
    · obtain ⟨arr, lo, hi, e, _⟩ := hr
      exact (Array.getElem?_eq_some_iff.1 e).1
    · have ha : (⟨b, 0, none⟩ : Addr).add j = ⟨b, j, none⟩ := by unfold Addr.add; split <;> simp_all
      rw [ha]
      unfold vbytes at hj
      rw [List.getElem?_map] at hj
      obtain ⟨x, hx, rfl⟩ := Option.map_eq_some_iff.1 hj
      exact hr.cell hx
theorem groupsP_len {t : Bool} {l a : List UInt8} (h : groupsP t l = some a) : a.length ≤ 4 * (l.length + 1) := by
  unfold groupsP at h
  split at h
  · cases h; simp
  · have h1 := accG_len h
    have h2 := (splitG_len 58 l []).2
    unfold splitL at h1
    omega
set_option maxHeartbeats 1000000 in
set_option maxRecDepth 100000 in
theorem dbl_nn (s : ByteArray) (w : World) (q : Nat) (hn : s.size ≤ 100000) (hf : fourP (splitL 46 s.data.toList) = none) (hq : q + 1 < s.size) (hno : ∀ j, j < q → ccAt s.data.toList j = false) (hyes : ccAt s.data.toList q = true) (hA : groupsP false (s.data.toList.take q) = none) (hB : groupsP true (s.data.toList.drop (q + 2)) = none) :
    Calls Tryz.prog 24 #[.string s] w (FourR w none) := by
  have HF := Lib.hid hf
  have HC := Lib.hid hno
  obtain ⟨y1, y2⟩ := cc_yes hq hyes
  have hga : ∀ W, Calls Tryz.prog 37 #[.string (s.extract 0 q), .bool false] W (GroupsR W (groupsP false (s.data.toList.take q))) := fun W => by
    have := groups_any false (s.extract 0 q) W (by rw [ByteArray.size_extract]; omega)
    rwa [ext_take] at this
  have hgb : ∀ W, Calls Tryz.prog 37 #[.string (s.extract (q + 2) s.size), .bool true] W (GroupsR W (groupsP true (s.data.toList.drop (q + 2)))) := fun W => by
    have := groups_any true (s.extract (q + 2) s.size) W (by rw [ByteArray.size_extract]; omega)
    rwa [ext_from] at this
  have HRA := Lib.hid hA
  have HRB := Lib.hid hB
  have HGA := Lib.hid hga
  have HGB := Lib.hid hgb
  clear hga hgb hf hno hyes
  go_enter Tryz.func24, Tryz.ntmps24
  go_wp2_with (go_at_call 36; refine (four_any s _ (by omega)).mono ?_; rw [HF.out]; rintro e w3 ⟨rfl, hb3⟩; simp only [Option.getD_none, Option.isSome_none])
  have HB := Lib.hid hb3
  clear hb3
  go_loopw [6] (fun i wr => ∃ k : Nat, k ≤ q ∧ i = .int .i64 k ∧ wr = w3) (fun i _ => s.size - (intOf i).toNat)
  case atStart => exact ⟨0, Nat.zero_le _, rfl, rfl⟩
  case round =>
    obtain ⟨k, hk, rfl, rfl⟩ := hrel
    have hlt : k + 1 < s.size := by omega
    by_cases hkq : k < q
    · rcases cc_bytes hlt (HC.out k hkq) with e1 | ⟨e1, e2⟩
      · clear y1 y2
        go_wp2
        go_roundw
        case rel => exact ⟨k + 1, by omega, by go_num, trivial⟩
        case measure => simp [intOf]; omega
      · clear y1 y2
        go_wp2
        go_roundw
        case rel => exact ⟨k + 1, by omega, by go_num, trivial⟩
        case measure => simp [intOf]; omega
    · obtain rfl : k = q := by omega
      go_wp2_with (go_at_call 37; first | (with_reducible refine (HGA.out _).mono ?_; intro e w4 h4; obtain ⟨rfl, hb4⟩ := groupsR_none HRA.out h4; clear h4) | (with_reducible refine (HGB.out _).mono ?_; intro e w5 h5; obtain ⟨rfl, hb5⟩ := groupsR_none HRB.out h5; clear h5))
      go_ret2
      exact ⟨rfl, (HB.out.trans (hb4.mono HB.out.size)).trans (hb5.mono (Nat.le_trans HB.out.size hb4.size))⟩
set_option maxHeartbeats 1000000 in
set_option maxRecDepth 100000 in
theorem dbl_ns (s : ByteArray) (w : World) (q : Nat) (hn : s.size ≤ 100000) (hf : fourP (splitL 46 s.data.toList) = none) (hq : q + 1 < s.size) (hno : ∀ j, j < q → ccAt s.data.toList j = false) (hyes : ccAt s.data.toList q = true) (b : List UInt8) (hA : groupsP false (s.data.toList.take q) = none) (hB : groupsP true (s.data.toList.drop (q + 2)) = some b) :
    Calls Tryz.prog 24 #[.string s] w (FourR w none) := by
  have HF := Lib.hid hf
  have HC := Lib.hid hno
  obtain ⟨y1, y2⟩ := cc_yes hq hyes
  have hga : ∀ W, Calls Tryz.prog 37 #[.string (s.extract 0 q), .bool false] W (GroupsR W (groupsP false (s.data.toList.take q))) := fun W => by
    have := groups_any false (s.extract 0 q) W (by rw [ByteArray.size_extract]; omega)
    rwa [ext_take] at this
  have hgb : ∀ W, Calls Tryz.prog 37 #[.string (s.extract (q + 2) s.size), .bool true] W (GroupsR W (groupsP true (s.data.toList.drop (q + 2)))) := fun W => by
    have := groups_any true (s.extract (q + 2) s.size) W (by rw [ByteArray.size_extract]; omega)
    rwa [ext_from] at this
  have HRA := Lib.hid hA
  have HRB := Lib.hid hB
  have HGA := Lib.hid hga
  have HGB := Lib.hid hgb
  clear hga hgb hf hno hyes
  go_enter Tryz.func24, Tryz.ntmps24
  go_wp2_with (go_at_call 36; refine (four_any s _ (by omega)).mono ?_; rw [HF.out]; rintro e w3 ⟨rfl, hb3⟩; simp only [Option.getD_none, Option.isSome_none])
  have HB := Lib.hid hb3
  clear hb3
  go_loopw [6] (fun i wr => ∃ k : Nat, k ≤ q ∧ i = .int .i64 k ∧ wr = w3) (fun i _ => s.size - (intOf i).toNat)
  case atStart => exact ⟨0, Nat.zero_le _, rfl, rfl⟩
  case round =>
    obtain ⟨k, hk, rfl, rfl⟩ := hrel
    have hlt : k + 1 < s.size := by omega
    by_cases hkq : k < q
    · rcases cc_bytes hlt (HC.out k hkq) with e1 | ⟨e1, e2⟩
      · clear y1 y2
        go_wp2
        go_roundw
        case rel => exact ⟨k + 1, by omega, by go_num, trivial⟩
        case measure => simp [intOf]; omega
      · clear y1 y2
        go_wp2
        go_roundw
        case rel => exact ⟨k + 1, by omega, by go_num, trivial⟩
        case measure => simp [intOf]; omega
    · obtain rfl : k = q := by omega
      go_wp2_with (go_at_call 37; first | (with_reducible refine (HGA.out _).mono ?_; intro e w4 h4; obtain ⟨rfl, hb4⟩ := groupsR_none HRA.out h4; clear h4) | (with_reducible refine (HGB.out _).mono ?_; intro e w5 h5; obtain ⟨v5, rfl, hr5, hb5⟩ := groupsR_some HRB.out h5; clear h5; obtain ⟨p5, c5, rfl, hc5, hm5⟩ := hr5.shape; have HR5 := Lib.hid hr5; clear hr5))
      go_ret2
      exact ⟨rfl, (HB.out.trans (hb4.mono HB.out.size)).trans (hb5.mono (Nat.le_trans HB.out.size hb4.size))⟩
set_option maxHeartbeats 1000000 in
set_option maxRecDepth 100000 in
theorem dbl_sn (s : ByteArray) (w : World) (q : Nat) (hn : s.size ≤ 100000) (hf : fourP (splitL 46 s.data.toList) = none) (hq : q + 1 < s.size) (hno : ∀ j, j < q → ccAt s.data.toList j = false) (hyes : ccAt s.data.toList q = true) (a : List UInt8) (hA : groupsP false (s.data.toList.take q) = some a) (hB : groupsP true (s.data.toList.drop (q + 2)) = none) :
    Calls Tryz.prog 24 #[.string s] w (FourR w none) := by
  have HF := Lib.hid hf
  have HC := Lib.hid hno
  obtain ⟨y1, y2⟩ := cc_yes hq hyes
  have hga : ∀ W, Calls Tryz.prog 37 #[.string (s.extract 0 q), .bool false] W (GroupsR W (groupsP false (s.data.toList.take q))) := fun W => by
    have := groups_any false (s.extract 0 q) W (by rw [ByteArray.size_extract]; omega)
    rwa [ext_take] at this
  have hgb : ∀ W, Calls Tryz.prog 37 #[.string (s.extract (q + 2) s.size), .bool true] W (GroupsR W (groupsP true (s.data.toList.drop (q + 2)))) := fun W => by
    have := groups_any true (s.extract (q + 2) s.size) W (by rw [ByteArray.size_extract]; omega)
    rwa [ext_from] at this
  have HRA := Lib.hid hA
  have HRB := Lib.hid hB
  have HGA := Lib.hid hga
  have HGB := Lib.hid hgb
  clear hga hgb hf hno hyes
  go_enter Tryz.func24, Tryz.ntmps24
  go_wp2_with (go_at_call 36; refine (four_any s _ (by omega)).mono ?_; rw [HF.out]; rintro e w3 ⟨rfl, hb3⟩; simp only [Option.getD_none, Option.isSome_none])
  have HB := Lib.hid hb3
  clear hb3
  go_loopw [6] (fun i wr => ∃ k : Nat, k ≤ q ∧ i = .int .i64 k ∧ wr = w3) (fun i _ => s.size - (intOf i).toNat)
  case atStart => exact ⟨0, Nat.zero_le _, rfl, rfl⟩
  case round =>
    obtain ⟨k, hk, rfl, rfl⟩ := hrel
    have hlt : k + 1 < s.size := by omega
    by_cases hkq : k < q
    · rcases cc_bytes hlt (HC.out k hkq) with e1 | ⟨e1, e2⟩
      · clear y1 y2
        go_wp2
        go_roundw
        case rel => exact ⟨k + 1, by omega, by go_num, trivial⟩
        case measure => simp [intOf]; omega
      · clear y1 y2
        go_wp2
        go_roundw
        case rel => exact ⟨k + 1, by omega, by go_num, trivial⟩
        case measure => simp [intOf]; omega
    · obtain rfl : k = q := by omega
      go_wp2_with (go_at_call 37; first | (with_reducible refine (HGA.out _).mono ?_; intro e w4 h4; obtain ⟨v4, rfl, hr4, hb4⟩ := groupsR_some HRA.out h4; clear h4; obtain ⟨p4, c4, rfl, hc4, hm4⟩ := hr4.shape; have HR4 := Lib.hid hr4; clear hr4) | (with_reducible refine (HGB.out _).mono ?_; intro e w5 h5; obtain ⟨rfl, hb5⟩ := groupsR_none HRB.out h5; clear h5))
      go_ret2
      exact ⟨rfl, (HB.out.trans (hb4.mono HB.out.size)).trans (hb5.mono (Nat.le_trans HB.out.size hb4.size))⟩
set_option maxHeartbeats 1000000 in
set_option maxRecDepth 100000 in
theorem dbl_long (s : ByteArray) (w : World) (q : Nat) (hn : s.size ≤ 100000) (hf : fourP (splitL 46 s.data.toList) = none) (hq : q + 1 < s.size) (hno : ∀ j, j < q → ccAt s.data.toList j = false) (hyes : ccAt s.data.toList q = true) (a b : List UInt8) (hA : groupsP false (s.data.toList.take q) = some a) (hB : groupsP true (s.data.toList.drop (q + 2)) = some b) (h14 : 14 < a.length + b.length) :
    Calls Tryz.prog 24 #[.string s] w (FourR w none) := by
  have HF := Lib.hid hf
  have HC := Lib.hid hno
  obtain ⟨y1, y2⟩ := cc_yes hq hyes
  have hga : ∀ W, Calls Tryz.prog 37 #[.string (s.extract 0 q), .bool false] W (GroupsR W (groupsP false (s.data.toList.take q))) := fun W => by
    have := groups_any false (s.extract 0 q) W (by rw [ByteArray.size_extract]; omega)
    rwa [ext_take] at this
  have hgb : ∀ W, Calls Tryz.prog 37 #[.string (s.extract (q + 2) s.size), .bool true] W (GroupsR W (groupsP true (s.data.toList.drop (q + 2)))) := fun W => by
    have := groups_any true (s.extract (q + 2) s.size) W (by rw [ByteArray.size_extract]; omega)
    rwa [ext_from] at this
  have HRA := Lib.hid hA
  have HRB := Lib.hid hB
  have hla : a.length ≤ 1000000 := by have := groupsP_len hA; have h2 : s.data.toList.length = s.size := rfl; rw [List.length_take] at this; omega
  have hlb : b.length ≤ 1000000 := by have := groupsP_len hB; have h2 : s.data.toList.length = s.size := rfl; rw [List.length_drop] at this; omega
  have hi14 : (14 : Int) < (a.length : Int) + (b.length : Int) := by omega
  have HGA := Lib.hid hga
  have HGB := Lib.hid hgb
  clear hga hgb hf hno hyes
  go_enter Tryz.func24, Tryz.ntmps24
  go_wp2_with (go_at_call 36; refine (four_any s _ (by omega)).mono ?_; rw [HF.out]; rintro e w3 ⟨rfl, hb3⟩; simp only [Option.getD_none, Option.isSome_none])
  have HB := Lib.hid hb3
  clear hb3
  go_loopw [6] (fun i wr => ∃ k : Nat, k ≤ q ∧ i = .int .i64 k ∧ wr = w3) (fun i _ => s.size - (intOf i).toNat)
  case atStart => exact ⟨0, Nat.zero_le _, rfl, rfl⟩
  case round =>
    obtain ⟨k, hk, rfl, rfl⟩ := hrel
    have hlt : k + 1 < s.size := by omega
    by_cases hkq : k < q
    · rcases cc_bytes hlt (HC.out k hkq) with e1 | ⟨e1, e2⟩
      · clear y1 y2
        go_wp2
        go_roundw
        case rel => exact ⟨k + 1, by omega, by go_num, trivial⟩
        case measure => simp [intOf]; omega
      · clear y1 y2
        go_wp2
        go_roundw
        case rel => exact ⟨k + 1, by omega, by go_num, trivial⟩
        case measure => simp [intOf]; omega
    · obtain rfl : k = q := by omega
      go_wp2_with (go_at_call 37; first | (with_reducible refine (HGA.out _).mono ?_; intro e w4 h4; obtain ⟨v4, rfl, hr4, hb4⟩ := groupsR_some HRA.out h4; clear h4; obtain ⟨p4, c4, rfl, hc4, hm4⟩ := hr4.shape; have HR4 := Lib.hid hr4; clear hr4) | (with_reducible refine (HGB.out _).mono ?_; intro e w5 h5; obtain ⟨v5, rfl, hr5, hb5⟩ := groupsR_some HRB.out h5; clear h5; obtain ⟨p5, c5, rfl, hc5, hm5⟩ := hr5.shape; have HR5 := Lib.hid hr5; clear hr5))
      go_ret2
      exact ⟨rfl, (HB.out.trans (hb4.mono HB.out.size)).trans (hb5.mono (Nat.le_trans HB.out.size hb4.size))⟩
end Go.Proofs.YtdfapebggghfdaaGreatDoor

namespace Go.Proofs.YtdfapebggghfdaaGreatDoor
open Go.RowKit Go.Lib Go.Tx Go.Rb Go.Ev
def zer : List Value := List.replicate 16 (.int .u8 0)
theorem make16 (w : World) : (Instr.makeSlice 22 (.int .i64 16) (.int .i64 16)).run Tryz.prog w = .ok (.slice (some ⟨w.heap.size, 0, none⟩) 16 16) (w.alloc (.cells zer.toArray 5)) := by
  obtain ⟨i0, hi, hz0, hz1, hz2⟩ := info_parts info5
  have hr := run_make (P := Tryz.prog) w 22 5 i0 _ Tryz.underlying22 hi hz0 .i64 .i64 16 16 (by omega) (Int.le_refl _) (by rw [hz2]; omega) (by omega)
  rw [hz1] at hr
  have e : madeCells (Value.int .u8 0).cells (Int.toNat 16 * 1) = zer.toArray := by
    apply Array.ext
    · rw [size_madeCells]; rfl
    · intro i h1 h2
      rw [size_madeCells] at h1
      have e0 : zer.toArray[i] = Value.int .u8 0 := by simp only [zer, List.getElem_toArray, List.getElem_replicate]
      rw [e0]
      simp [madeCells, Value.cells, Nat.mod_one]
  rw [e] at hr
  exact hr
theorem size8 : (Tryz.prog.info? 5).map (·.size) = some 1 := by kernel_rfl
theorem vb_one (l : List UInt8) : ∀ v ∈ vbytes l, v.oneCell' = true := fun v hv => by
  unfold vbytes at hv
  obtain ⟨c, _, rfl⟩ := List.mem_map.1 hv
  rfl
theorem vb_len (l : List UInt8) : (vbytes l).length = l.length := by simp [vbytes]
theorem zer_len : zer.length = 16 := rfl
theorem vb_append (x y : List UInt8) : vbytes (x ++ y) = vbytes x ++ vbytes y := by simp [vbytes]
theorem vb_zero (n : Nat) : vbytes (List.replicate n 0) = List.replicate n (.int .u8 0) := by
  unfold vbytes
  rw [List.map_replicate]
  rfl
theorem splice16 (a b : List UInt8) (h : a.length + b.length ≤ 16) : splice (splice zer 0 (vbytes a)) (16 - b.length) (vbytes b) = vbytes (a ++ List.replicate (16 - a.length - b.length) 0 ++ b) := by
  have e1 : splice zer 0 (vbytes a) = vbytes (a ++ List.replicate (16 - a.length) 0) := by
    unfold splice zer
    rw [List.take_zero, List.nil_append, Nat.zero_add, vb_len, List.drop_replicate, vb_append, vb_zero]
  have e2 : a ++ List.replicate (16 - a.length) 0 = (a ++ List.replicate (16 - a.length - b.length) 0) ++ List.replicate b.length 0 := by
    rw [List.append_assoc, List.replicate_append_replicate]
    congr 2
    omega
  have e3 : (vbytes (a ++ List.replicate (16 - a.length - b.length) (0 : UInt8))).length = 16 - b.length := by rw [vb_len]; simp; omega
  rw [e1, e2]
  unfold splice
  rw [vb_append (a ++ _) (List.replicate b.length 0), List.take_left' e3, vb_append (a ++ _) b]
  congr 1
  rw [List.drop_of_length_le (by rw [List.length_append, e3, vb_len, vb_len]; simp), List.append_nil]
theorem conv16 (w : World) (g : Nat) (L : List UInt8) (hL : L.length = 16) (h : w.heap[g]? = some (.cells (vbytes L).toArray 5 (0, 0))) : (convert 22 9 (.slice (some ⟨g, 0, none⟩) 16 16)).run Tryz.prog w = .ok (.string ⟨L.toArray⟩) w := by
  have hc := run_convert_bytes_back (P := Tryz.prog) w 22 9 5 ⟨g, 0, none⟩ 16 L Tryz.underlying22 Tryz.underlying5 Tryz.underlying9 (fun j hj => by
    have ha : (⟨g, 0, none⟩ : Addr).add j = ⟨g, j, none⟩ := by unfold Addr.add; split <;> simp_all
    rw [ha]
    unfold World.cell?
    rw [h]
    simp [vbytes, hj])
  rw [hL] at hc
  exact hc
set_option maxHeartbeats 1000000 in
set_option maxRecDepth 100000 in
theorem dbl_full (s : ByteArray) (w : World) (q : Nat) (hn : s.size ≤ 100000) (hf : fourP (splitL 46 s.data.toList) = none) (hq : q + 1 < s.size) (hno : ∀ j, j < q → ccAt s.data.toList j = false) (hyes : ccAt s.data.toList q = true) (a b : List UInt8) (hA : groupsP false (s.data.toList.take q) = some a) (hB : groupsP true (s.data.toList.drop (q + 2)) = some b) (h14 : a.length + b.length ≤ 14) (hb0 : 0 < b.length) :
    Calls Tryz.prog 24 #[.string s] w (FourR w (some (a ++ List.replicate (16 - a.length - b.length) 0 ++ b))) := by
  have HF := Lib.hid hf
  have HC := Lib.hid hno
  obtain ⟨y1, y2⟩ := cc_yes hq hyes
  have hga : ∀ W, Calls Tryz.prog 37 #[.string (s.extract 0 q), .bool false] W (GroupsR W (groupsP false (s.data.toList.take q))) := fun W => by
    have := groups_any false (s.extract 0 q) W (by rw [ByteArray.size_extract]; omega)
    rwa [ext_take] at this
  have hgb : ∀ W, Calls Tryz.prog 37 #[.string (s.extract (q + 2) s.size), .bool true] W (GroupsR W (groupsP true (s.data.toList.drop (q + 2)))) := fun W => by
    have := groups_any true (s.extract (q + 2) s.size) W (by rw [ByteArray.size_extract]; omega)
    rwa [ext_from] at this
  have HRA := Lib.hid hA
  have HRB := Lib.hid hB
  have hla : a.length ≤ 14 := by omega
  have hlb : b.length ≤ 14 := by omega
  have hi14 : (a.length : Int) + (b.length : Int) ≤ 14 := by omega
  obtain ⟨z, hz⟩ : ∃ z, 16 - b.length = z := ⟨_, rfl⟩
  have hz2 : (16 : Int) - (b.length : Int) = (z : Int) := by omega
  have hz3 : z < 16 := by omega
  have hz4 : (z : Int) < 16 := by omega
  have hz5 : ¬ z = 16 := by omega
  have HZ := Lib.hid hz
  have hmk := make16
  obtain ⟨R, hR⟩ : ∃ R : ByteArray, ⟨(a ++ List.replicate (16 - a.length - b.length) 0 ++ b).toArray⟩ = R := ⟨_, rfl⟩
  have HCV : Hid (∀ (w : World) (g : Nat), w.heap[g]? = some (.cells (splice (splice zer 0 (vbytes a)) z (vbytes b)).toArray 5 (0, 0)) → (convert 22 9 (.slice (some ⟨g, 0, none⟩) 16 16)).run Tryz.prog w = .ok (.string R) w) := Lib.hid (fun w g h => by
    rw [← HZ.out, splice16 a b (by omega)] at h
    have := conv16 w g _ (by simp; omega) h
    rw [hR] at this
    exact this)
  have hRes : FourR w (some (a ++ List.replicate (16 - a.length - b.length) 0 ++ b)) = fun e w' => e = .returned (.tuple #[.string R, .bool true]) ∧ Below w.heap.size w w' := by
    funext e w'
    unfold FourR
    rw [← hR]
    rfl
  rw [hRes]
  clear hRes hR
  clear hz
  have HGA := Lib.hid hga
  have HGB := Lib.hid hgb
  clear hga hgb hf hno hyes
  go_enter Tryz.func24, Tryz.ntmps24
  go_wp2_with (go_at_call 36; refine (four_any s _ (by omega)).mono ?_; rw [HF.out]; rintro e w3 ⟨rfl, hb3⟩; simp only [Option.getD_none, Option.isSome_none])
  have HB := Lib.hid hb3
  clear hb3
  go_loopw [6] (fun i wr => ∃ k : Nat, k ≤ q ∧ i = .int .i64 k ∧ wr = w3) (fun i _ => s.size - (intOf i).toNat)
  case atStart => exact ⟨0, Nat.zero_le _, rfl, rfl⟩
  case round =>
    obtain ⟨k, hk, rfl, rfl⟩ := hrel
    have hlt : k + 1 < s.size := by omega
    by_cases hkq : k < q
    · rcases cc_bytes hlt (HC.out k hkq) with e1 | ⟨e1, e2⟩
      · clear y1 y2
        go_wp2
        go_roundw
        case rel => exact ⟨k + 1, by omega, by go_num, trivial⟩
        case measure => simp [intOf]; omega
      · clear y1 y2
        go_wp2
        go_roundw
        case rel => exact ⟨k + 1, by omega, by go_num, trivial⟩
        case measure => simp [intOf]; omega
    · obtain rfl : k = q := by omega
      go_wp2_with (first | (go_at_call 37; first | (with_reducible refine (HGA.out _).mono ?_; intro e w4 h4; obtain ⟨v4, rfl, hr4, hb4⟩ := groupsR_some HRA.out h4; clear h4; obtain ⟨p4, c4, rfl, hc4, hm4⟩ := hr4.shape; have HR4 := Lib.hid hr4; clear hr4) | (with_reducible refine (HGB.out _).mono ?_; intro e w5 h5; obtain ⟨v5, rfl, hr5, hb5⟩ := groupsR_some HRB.out h5; clear h5; obtain ⟨p5, c5, rfl, hc5, hm5⟩ := hr5.shape; have HR5 := Lib.hid hr5; clear hr5)) | (with_reducible show wpList _ _ _ (⟨some 70, _, _, _, _, _⟩ :: _) _ _; refine wpList_copy_splice rfl _ _ 22 22 rfl 5 Tryz.underlying22 size8 _ _ 16 16 a.length c4 rfl rfl w5.heap.size 0 zer 5 (heap_alloc_new _ _) (vbytes a) (by rw [vb_len]; show a.length = min a.length 16; omega) (fun h0 => ⟨rfl, by obtain ⟨ad, h1, _, h2⟩ := RB.cells ((HR4.out.below hb5).alloc _) (by rw [vb_len] at h0; exact h0); exact ⟨ad, h1, h2⟩⟩) (by rw [vb_len, zer_len]; omega) (vb_one a) w5.heap.size w5 ((Below.refl _ _).alloc (Nat.le_refl _) _) (Nat.le_refl _) ?_; intro w6 hg6 hb6) | (with_reducible show wpList _ _ _ (⟨some 77, _, _, _, _, _⟩ :: _) _ _; refine wpList_copy_splice rfl _ _ 22 22 rfl 5 Tryz.underlying22 size8 _ _ (16 - z) (16 - z) b.length c5 rfl rfl w5.heap.size z (splice zer 0 (vbytes a)) 5 hg6.out (vbytes b) (by rw [vb_len]; show b.length = min b.length (16 - z); have := HZ.out; omega) (fun h0 => ⟨rfl, by obtain ⟨ad, h1, _, h2⟩ := RB.cells (HR5.out.below hb6) (by rw [vb_len] at h0; exact h0); exact ⟨ad, h1, h2⟩⟩) (by rw [vb_len, length_splice _ _ _ (by rw [vb_len, zer_len]; omega), zer_len]; have := HZ.out; omega) (vb_one b) w5.heap.size w5 hb6 (Nat.le_refl _) ?_; intro w7 hg7 hb7; have hcv := HCV.out w7 w5.heap.size hg7.out))
      go_ret2
      have hb45 := (HB.out.trans (hb4.mono HB.out.size)).trans (hb5.mono (Nat.le_trans HB.out.size hb4.size))
      exact ⟨rfl, hb45.trans (hb7.mono hb45.size)⟩
set_option maxHeartbeats 1000000 in
set_option maxRecDepth 100000 in
theorem dbl_full0 (s : ByteArray) (w : World) (q : Nat) (hn : s.size ≤ 100000) (hf : fourP (splitL 46 s.data.toList) = none) (hq : q + 1 < s.size) (hno : ∀ j, j < q → ccAt s.data.toList j = false) (hyes : ccAt s.data.toList q = true) (a : List UInt8) (hA : groupsP false (s.data.toList.take q) = some a) (hB : groupsP true (s.data.toList.drop (q + 2)) = some []) (h14 : a.length ≤ 14) :
    Calls Tryz.prog 24 #[.string s] w (FourR w (some (a ++ List.replicate (16 - a.length - 0) 0 ++ []))) := by
  have HF := Lib.hid hf
  have HC := Lib.hid hno
  obtain ⟨y1, y2⟩ := cc_yes hq hyes
  have hga : ∀ W, Calls Tryz.prog 37 #[.string (s.extract 0 q), .bool false] W (GroupsR W (groupsP false (s.data.toList.take q))) := fun W => by
    have := groups_any false (s.extract 0 q) W (by rw [ByteArray.size_extract]; omega)
    rwa [ext_take] at this
  have hgb : ∀ W, Calls Tryz.prog 37 #[.string (s.extract (q + 2) s.size), .bool true] W (GroupsR W (groupsP true (s.data.toList.drop (q + 2)))) := fun W => by
    have := groups_any true (s.extract (q + 2) s.size) W (by rw [ByteArray.size_extract]; omega)
    rwa [ext_from] at this
  have HRA := Lib.hid hA
  have HRB := Lib.hid hB
  have hla : a.length ≤ 14 := h14
  have hi14 : (a.length : Int) ≤ 14 := by omega
  have hmk := make16
  obtain ⟨R, hR⟩ : ∃ R : ByteArray, ⟨(a ++ List.replicate (16 - a.length - 0) 0 ++ []).toArray⟩ = R := ⟨_, rfl⟩
  have HCV : Hid (∀ (w : World) (g : Nat), w.heap[g]? = some (.cells (splice (splice zer 0 (vbytes a)) 0 []).toArray 5 (0, 0)) → (convert 22 9 (.slice (some ⟨g, 0, none⟩) 16 16)).run Tryz.prog w = .ok (.string R) w) := Lib.hid (fun w g h => by
    have e : splice (splice zer 0 (vbytes a)) 0 [] = vbytes (a ++ List.replicate (16 - a.length - 0) 0 ++ []) := by
      have h1 := splice16 a [] (by simp; omega)
      have h2 : splice (splice zer 0 (vbytes a)) (16 - ([] : List UInt8).length) (vbytes []) = splice zer 0 (vbytes a) := by
        have hl : (splice zer 0 (vbytes a)).length = 16 := by rw [length_splice _ _ _ (by rw [vb_len, zer_len]; omega), zer_len]
        unfold splice at hl ⊢
        simp only [vbytes, List.map_nil, List.length_nil, List.nil_append, Nat.sub_zero, Nat.add_zero] at hl ⊢
        exact List.take_append_drop _ _
      rw [h2] at h1
      rw [← List.length_nil (α := UInt8), ← h1]
      simp [splice]
    rw [e] at h
    have := conv16 w g _ (by simp; omega) h
    rw [hR] at this
    exact this)
  have hRes : FourR w (some (a ++ List.replicate (16 - a.length - 0) 0 ++ [])) = fun e w' => e = .returned (.tuple #[.string R, .bool true]) ∧ Below w.heap.size w w' := by
    funext e w'
    unfold FourR
    rw [← hR]
    rfl
  rw [hRes]
  clear hRes hR
  have HGA := Lib.hid hga
  have HGB := Lib.hid hgb
  clear hga hgb hf hno hyes
  go_enter Tryz.func24, Tryz.ntmps24
  go_wp2_with (go_at_call 36; refine (four_any s _ (by omega)).mono ?_; rw [HF.out]; rintro e w3 ⟨rfl, hb3⟩; simp only [Option.getD_none, Option.isSome_none])
  have HB := Lib.hid hb3
  clear hb3
  go_loopw [6] (fun i wr => ∃ k : Nat, k ≤ q ∧ i = .int .i64 k ∧ wr = w3) (fun i _ => s.size - (intOf i).toNat)
  case atStart => exact ⟨0, Nat.zero_le _, rfl, rfl⟩
  case round =>
    obtain ⟨k, hk, rfl, rfl⟩ := hrel
    have hlt : k + 1 < s.size := by omega
    by_cases hkq : k < q
    · rcases cc_bytes hlt (HC.out k hkq) with e1 | ⟨e1, e2⟩
      · clear y1 y2
        go_wp2
        go_roundw
        case rel => exact ⟨k + 1, by omega, by go_num, trivial⟩
        case measure => simp [intOf]; omega
      · clear y1 y2
        go_wp2
        go_roundw
        case rel => exact ⟨k + 1, by omega, by go_num, trivial⟩
        case measure => simp [intOf]; omega
    · obtain rfl : k = q := by omega
      go_wp2_with (first | (go_at_call 37; first | (with_reducible refine (HGA.out _).mono ?_; intro e w4 h4; obtain ⟨v4, rfl, hr4, hb4⟩ := groupsR_some HRA.out h4; clear h4; obtain ⟨p4, c4, rfl, hc4, hm4⟩ := hr4.shape; have HR4 := Lib.hid hr4; clear hr4) | (with_reducible refine (HGB.out _).mono ?_; intro e w5 h5; obtain ⟨v5, rfl, hr5, hb5⟩ := groupsR_some HRB.out h5; clear h5; obtain ⟨p5, c5, rfl, hc5, hm5⟩ := hr5.shape; have HR5 := Lib.hid hr5; clear hr5)) | (with_reducible show wpList _ _ _ (⟨some 70, _, _, _, _, _⟩ :: _) _ _; refine wpList_copy_splice rfl _ _ 22 22 rfl 5 Tryz.underlying22 size8 _ _ 16 16 a.length c4 rfl rfl w5.heap.size 0 zer 5 (heap_alloc_new _ _) (vbytes a) (by rw [vb_len]; show a.length = min a.length 16; omega) (fun h0 => ⟨rfl, by obtain ⟨ad, h1, _, h2⟩ := RB.cells ((HR4.out.below hb5).alloc _) (by rw [vb_len] at h0; exact h0); exact ⟨ad, h1, h2⟩⟩) (by rw [vb_len, zer_len]; omega) (vb_one a) w5.heap.size w5 ((Below.refl _ _).alloc (Nat.le_refl _) _) (Nat.le_refl _) ?_; intro w6 hg6 hb6) | (with_reducible show wpList _ _ _ (⟨some 77, _, _, _, _, _⟩ :: _) _ _; refine wpList_copy_splice rfl _ _ 22 22 rfl 5 Tryz.underlying22 size8 _ _ _ _ _ _ rfl rfl w5.heap.size 0 (splice zer 0 (vbytes a)) 5 hg6.out [] rfl (fun h0 => absurd h0 (by simp)) (by simp) (by simp) w5.heap.size w5 hb6 (Nat.le_refl _) ?_; intro w7 hg7 hb7; have hcv := HCV.out w7 w5.heap.size hg7.out))
      go_ret2
      have hb45 := (HB.out.trans (hb4.mono HB.out.size)).trans (hb5.mono (Nat.le_trans HB.out.size hb4.size))
      exact ⟨rfl, hb45.trans (hb7.mono hb45.size)⟩
end Go.Proofs.YtdfapebggghfdaaGreatDoor

namespace Go.Proofs.YtdfapebggghfdaaGreatDoor
open Go.RowKit Go.Lib Go.Tx Go.Rb Go.Ev
theorem rparse_any (s : ByteArray) (w : World) (hn : s.size ≤ 100000) : Calls Tryz.prog 24 #[.string s] w (FourR w (parseP s.data.toList)) := by
  have hl : s.data.toList.length = s.size := rfl
  cases hf : fourP (splitL 46 s.data.toList) with
  | some f => exact parse_four s f w hn hf
  | none =>
    cases hc : (List.range s.data.toList.length).find? (ccAt s.data.toList) with
    | none =>
      have hcc : ∀ j, j + 1 < s.size → ccAt s.data.toList j = false := fun j hj => by
        have := List.find?_eq_none.1 hc j (List.mem_range.2 (by omega))
        simpa using this
      have e : parseP s.data.toList = plainP s.data.toList := by unfold parseP plainP fullP; rw [hf, hc]; cases groupsP true s.data.toList <;> rfl
      rw [e]
      exact parse_plain s w hn hf hcc
    | some q =>
      have e : parseP s.data.toList = dblP s.data.toList q := by unfold parseP; rw [hf, hc]
      rw [e]
      obtain ⟨h1, _, h3⟩ := List.find?_range_eq_some.1 hc
      have hno : ∀ j, j < q → ccAt s.data.toList j = false := fun j hj => by simpa using h3 j hj
      have hq : q + 1 < s.size := by
        unfold ccAt at h1
        simp only [Bool.and_eq_true, decide_eq_true_eq] at h1
        have := (List.getElem?_eq_some_iff.1 h1.2).1
        omega
      unfold dblP
      cases hA : groupsP false (s.data.toList.take q) with
      | none =>
        cases hB : groupsP true (s.data.toList.drop (q + 2)) with
        | none => exact dbl_nn s w q hn hf hq hno h1 hA hB
        | some b => exact dbl_ns s w q hn hf hq hno h1 b hA hB
      | some a =>
        cases hB : groupsP true (s.data.toList.drop (q + 2)) with
        | none => exact dbl_sn s w q hn hf hq hno h1 a hA hB
        | some b =>
          simp only
          by_cases h14 : 14 < a.length + b.length
          · rw [if_pos h14]
            exact dbl_long s w q hn hf hq hno h1 a b hA hB h14
          · rw [if_neg h14]
            by_cases hb : 0 < b.length
            · exact dbl_full s w q hn hf hq hno h1 a b hA hB (by omega) hb
            · have : b = [] := List.eq_nil_of_length_eq_zero (by omega)
              subst this
              exact dbl_full0 s w q hn hf hq hno h1 a hA hB (by simpa using h14)
end Go.Proofs.YtdfapebggghfdaaGreatDoor

namespace Go.Proofs.YtdfapebggghfdaaGreatDoor
open Go.RowKit Go.Lib Go.Tx
def alnum (x : Nat) : Bool := (decide (97 ≤ (x : Int)) && decide ((x : Int) ≤ 122)) || (decide (65 ≤ (x : Int)) && decide ((x : Int) ≤ 90)) || (decide (48 ≤ (x : Int)) && decide ((x : Int) ≤ 57))
def lettersB (more l : List UInt8) : Bool := l.all (fun b => alnum b.toNat || more.any fun m => b == m) && decide (l ≠ [])
theorem all_till {p : UInt8 → Bool} (l : List UInt8) (k : Nat) (hk : l.length ≤ k) (h : ∀ j b, j < k → l[j]? = some b → p b = true) : l.all p = true := by
  rw [List.all_eq_true]
  intro b hb
  obtain ⟨j, hj, rfl⟩ := List.getElem_of_mem hb
  exact h j _ (by omega) (List.getElem?_eq_getElem hj)
theorem all_not {p : UInt8 → Bool} (l : List UInt8) (k : Nat) (b : UInt8) (hk : l[k]? = some b) (h : p b = false) : l.all p = false := by
  rw [List.all_eq_false]
  exact ⟨b, List.mem_of_getElem? hk, by simp [h]⟩
theorem u8_beq (a b : UInt8) : ((a.toNat : Int) == (b.toNat : Int)) = (a == b) := by
  by_cases h : a = b
  · subst h; simp
  · have : ¬ (a.toNat : Int) = (b.toNat : Int) := fun e => h (UInt8.toNat_inj.1 (by omega))
    rw [beq_eq_false_iff_ne.2 this, beq_eq_false_iff_ne.2 h]
theorem ne_nil (s : ByteArray) : (!s.toList.isEmpty) = (true && decide (s.data.toList ≠ [])) := by
  rw [Go.Lib.toList_data]
  cases s.data.toList <;> simp
theorem ret_b {a b : Bool} (h : a = b) : Ending.returned (.bool a) = .returned (.bool b) := by rw [h]
set_option maxHeartbeats 2000000 in
set_option maxRecDepth 100000 in
theorem letters_any (s more : ByteArray) (w : World) (hs : s.size ≤ 1000000) (hm : more.size ≤ 100) : Calls Tryz.prog 39 #[.string s, .string more] w fun e w' => e = .returned (.bool (lettersB more.data.toList s.data.toList)) ∧ w' = w := by
  go_enter Tryz.func39, Tryz.ntmps39
  go_wp2
  go_loop [5] (fun i => ∃ k : Nat, k ≤ s.size ∧ i = .int .i64 k ∧ Hid (∀ j b, j < k → s.data.toList[j]? = some b → (alnum b.toNat || more.data.toList.any fun m => b == m) = true)) (fun i => s.size - (intOf i).toNat)
  case atStart => exact ⟨0, Nat.zero_le _, rfl, Lib.hid (by omega)⟩
  case round =>
    obtain ⟨k, hk, rfl, hall⟩ := hrel
    by_cases hlt : k < s.size
    · have HK : Hid (s.data.toList[k]? = some s[k]) := Lib.hid (List.getElem?_eq_getElem hlt)
      go_wp2
      all_goals (
        go_loop [7, 8] (fun ok i => ∃ j : Nat, j ≤ more.size ∧ i = .int .i64 j ∧ ok = .bool (alnum s[k].toNat || (more.data.toList.take j).any fun m => s[k] == m)) (fun _ i => more.size - (intOf i).toNat)
        case atStart => exact ⟨0, Nat.zero_le _, rfl, congrArg Value.bool (by unfold alnum; simp [*] <;> first | omega | (rw [Bool.eq_iff_iff]; simp; omega))⟩
        case round =>
          obtain ⟨j, hj, rfl, rfl⟩ := hrel
          by_cases hjl : j < more.size
          · have hstep : ∀ m, more.data.toList[j]? = some m → (more.data.toList.take (j + 1)).any (fun m => s[k] == m) = ((more.data.toList.take j).any (fun m => s[k] == m) || (s[k] == m)) := fun m hm => by
              rw [List.take_add_one, hm, List.any_append]; simp
            have HS := Lib.hid (hstep more[j] (List.getElem?_eq_getElem hjl))
            clear hstep
            cases hX : (alnum s[k].toNat || (more.data.toList.take j).any fun m => s[k] == m) with
            | true =>
              have HX := Lib.hid hX
              clear hX
              go_wp2
              go_round
              case rel => exact ⟨j + 1, hjl, by go_num, congrArg Value.bool (by rw [HS.out, ← Bool.or_assoc, HX.out]; rfl)⟩
              case measure => simp [intOf]; omega
            | false =>
              have HX := Lib.hid hX
              clear hX
              go_wp2
              go_round
              case rel => exact ⟨j + 1, hjl, by go_num, congrArg Value.bool (by rw [HS.out, ← Bool.or_assoc, HX.out, Bool.false_or]; exact u8_beq _ _)⟩
              case measure => simp [intOf]; omega
          · obtain rfl : j = more.size := by omega
            have ht : more.data.toList.take more.size = more.data.toList := List.take_of_length_le (Nat.le_refl _)
            have HT := Lib.hid ht
            clear ht
            cases hX : (alnum s[k].toNat || (more.data.toList.take more.size).any fun m => s[k] == m) with
            | true =>
              have HX := Lib.hid hX
              clear hX
              go_wp2
              go_round
              case rel => exact ⟨k + 1, hlt, by go_num, Lib.hid (by
                intro j d hj hd
                by_cases e : j = k
                · subst e
                  have := HK.out
                  rw [this] at hd
                  cases hd
                  have := HX.out
                  rw [HT.out] at this
                  exact this
                · exact hall.out j d (by omega) hd)⟩
              case measure => simp [intOf]; omega
            | false =>
              have HX := Lib.hid hX
              clear hX
              go_wp2
              go_ret
              have := HX.out
              rw [HT.out] at this
              exact ⟨by unfold lettersB; rw [all_not _ k _ HK.out this]; rfl, rfl⟩)
    · obtain rfl : k = s.size := by omega
      have HA := Lib.hid (all_till (p := fun b => alnum b.toNat || more.data.toList.any fun m => b == m) s.data.toList s.size (Nat.le_refl _) hall.out)
      go_wp2
      go_ret
      exact ⟨by unfold lettersB; rw [HA.out]; exact ret_b (ne_nil s), rfl⟩
end Go.Proofs.YtdfapebggghfdaaGreatDoor

namespace Go.Proofs.YtdfapebggghfdaaGreatDoor
open Go.RowKit Go.Lib Go.Tx
theorem labelB_letters (l : List UInt8) : labelB l = (decide (l.length ≤ 63) && lettersB [45, 95] l) := by
  unfold labelB lettersB
  have : (l.all fun b => sign b.toNat) = l.all fun b => alnum b.toNat || [45, 95].any fun m => b == m := by
    congr 1
    funext b
    unfold sign alnum
    have e1 : (b == 45) = decide (b.toNat = 45) := by
      by_cases h : b = 45
      · subst h; rfl
      · rw [beq_eq_false_iff_ne.2 h, decide_eq_false (fun e => h (UInt8.toNat_inj.1 (by rw [e]; rfl)))]
    have e2 : (b == 95) = decide (b.toNat = 95) := by
      by_cases h : b = 95
      · subst h; rfl
      · rw [beq_eq_false_iff_ne.2 h, decide_eq_false (fun e => h (UInt8.toNat_inj.1 (by rw [e]; rfl)))]
    simp only [List.any_cons, List.any_nil, Bool.or_false, e1, e2]
    rw [Bool.eq_iff_iff]
    simp
    omega
  rw [this]
  generalize (l.all fun b => alnum b.toNat || [45, 95].any fun m => b == m) = X
  cases X <;> by_cases h : l = [] <;> simp [h]
theorem suffix46 (s : ByteArray) (k : Nat) (hk : s.size = k + 1) (hlt : k < s.size) : hasSuffix s.data.toList [46] = decide (s[k] = 46) ∧ s.data.toList.take k = (s.extract 0 k).data.toList := by
  refine ⟨?_, (extract_from_zero s k).symm⟩
  have hl : s.data.toList.length = k + 1 := hk
  have e : s.data.toList = s.data.toList.take k ++ [s[k]] := by
    have hd : s.data.toList.drop k = [s[k]] := by
      rw [List.drop_eq_getElem_cons (by omega), List.drop_of_length_le (by omega)]
      rfl
    rw [← hd, List.take_append_drop]
  rw [e]
  generalize s[k] = b
  generalize s.data.toList.take k = t
  unfold hasSuffix
  by_cases h : b = 46
  · subst h
    simp
  · have : ¬ ([46] : List UInt8) <:+ t ++ [b] := by
      rintro ⟨u, hu⟩
      have := List.append_inj_right' hu rfl
      simp at this
      exact h this.symm
    rw [decide_eq_false h]
    cases hc : ([46] : List UInt8).isSuffixOf (t ++ [b]) with
    | false => rfl
    | true => exact absurd (List.isSuffixOf_iff_suffix.1 hc) this
theorem strC_at {B : Nat} {w : World} {v : Value} {ws : List (List UInt8)} (h : StrC B w v ws) (h1 : 1 ≤ ws.length) : ∃ g c, v = .slice (some ⟨g, 0, none⟩) ws.length c ∧ TextsAt w g c ws := by
  obtain ⟨p, c, rfl, hc, hm, hr⟩ := h.read
  obtain ⟨g, rfl, hg, _⟩ := hr 0 ws[0] (List.getElem?_eq_getElem (by omega))
  refine ⟨g, c, rfl, hg, hc, hm, fun i l hi => ?_⟩
  obtain ⟨g', e, _, h3⟩ := hr i l hi
  cases e
  exact h3
theorem all_tillL {p : List UInt8 → Bool} (l : List (List UInt8)) (k : Nat) (hk : l.length ≤ k) (h : ∀ j b, j < k → l[j]? = some b → p b = true) : l.all p = true := by
  rw [List.all_eq_true]
  intro b hb
  obtain ⟨j, hj, rfl⟩ := List.getElem_of_mem hb
  exact h j _ (by omega) (List.getElem?_eq_getElem hj)
theorem all_notL {p : List UInt8 → Bool} (l : List (List UInt8)) (k : Nat) (b : List UInt8) (hk : l[k]? = some b) (h : p b = false) : l.all p = false := by
  rw [List.all_eq_false]
  exact ⟨b, List.mem_of_getElem? hk, by simp [h]⟩
set_option maxHeartbeats 2000000 in
set_option maxRecDepth 100000 in
theorem rclean_any (s : ByteArray) (w : World) (hs : s.size ≤ 1000000) : Calls Tryz.prog 25 #[.string s] w fun e w' => e = .returned (cleanV s.data.toList) ∧ Below w.heap.size w w' := by
  by_cases h0 : 0 < s.size
  · obtain ⟨k, hk⟩ : ∃ k, s.size = k + 1 := ⟨s.size - 1, by omega⟩
    have hlt : k < s.size := by omega
    have hki : (s.size : Int) - 1 = (k : Int) := by omega
    have hkc : (s.size : Int) = (k : Int) + 1 := by omega
    obtain ⟨e1, e2⟩ := suffix46 s k hk hlt
    by_cases hd : s[k] = 46
    · have hroot : isRoot s.data.toList = true := by unfold isRoot; rw [e1, hd]; rfl
      have hbare : bare s.data.toList = (s.extract 0 k).data.toList := by
        unfold bare trimSuffix
        have : s.data.toList.length = k + 1 := hk
        rw [e1, hd, if_pos (by decide), ← e2, this]
        rfl
      have hNs : (s.extract 0 k).size = k := by simp [ByteArray.size_extract]; omega
      clear e1 e2
      obtain ⟨F, hF⟩ : ∃ F : ByteArray, ⟨((s.extract 0 k).data.toList.map low).toArray⟩ = F := ⟨_, rfl⟩
      have HV : Hid (cleanV s.data.toList = if nameB (s.extract 0 k).data.toList = true then .tuple #[.string F, .bool true, .bool true] else .tuple #[.string ⟨#[]⟩, .bool false, .bool false]) := Lib.hid (by unfold cleanV; rw [hbare, hroot, hF])
      have hnl : (s.extract 0 k).data.toList.length = (s.extract 0 k).size := rfl
      have HNB : Hid (∀ b, (s.extract 0 k).size ≤ 253 → (splitL 46 (s.extract 0 k).data.toList).all labelB = b → nameB (s.extract 0 k).data.toList = b) := Lib.hid (fun b h1 h2 => by unfold nameB; rw [h2, hnl, decide_eq_true h1, Bool.true_and])
      have HNL : Hid ((s.extract 0 k).size < 1 ∨ 253 < (s.extract 0 k).size → nameB (s.extract 0 k).data.toList = false) := Lib.hid (fun h => by
        rcases h with h | h
        · have : (s.extract 0 k).data.toList = [] := List.eq_nil_of_length_eq_zero (by omega)
          rw [this]; decide
        · unfold nameB; rw [hnl, decide_eq_false (by omega), Bool.false_and])
      have HSp : Hid (∀ w, Calls Tryz.prog 38 #[.string (s.extract 0 k), .int .u8 46] w (SplitR w (splitL 46 (s.extract 0 k).data.toList))) := Lib.hid (fun w => split_any (s.extract 0 k) 46 w (by omega))
      have HF : Hid (∀ w, Calls Tryz.prog 40 #[.string (s.extract 0 k)] w fun e w' => e = .returned (.string F) ∧ Below w.heap.size w w') := Lib.hid (fun w => by have := rfold_any (s.extract 0 k) w (by unfold maxLen; omega); rw [hF] at this; exact this)
      have HS1 := Lib.hid (splitG_len 46 (s.extract 0 k).data.toList [])
      have HS2 : Hid (∀ x, x ∈ splitL 46 (s.extract 0 k).data.toList → x.length ≤ 1000000) := Lib.hid (fun x hx => by have := splitG_mem 46 _ _ _ hx; simp only [List.length_nil] at this; omega)
      clear hbare hroot hnl hF
      have HT1 : Hid (1 ≤ (splitL 46 (s.extract 0 k).data.toList).length ∧ (splitL 46 (s.extract 0 k).data.toList).length ≤ (s.extract 0 k).data.toList.length + 1) := Lib.hid HS1.out
      clear HS1
      generalize HT0 : splitL 46 (s.extract 0 k).data.toList = T at *
      clear HT0
      go_enter Tryz.func25, Tryz.ntmps25
      go_wp2_with (go_at_call 38; refine (HSp.out _).mono ?_; rintro e w2 ⟨v, rfl, hstr, hb2⟩; obtain ⟨g, c, rfl, hta⟩ := strC_at hstr HT1.out.1; have HTA := Lib.hid hta; have hcap := hta.fits; have hmax := hta.max; have HL := Lib.hid HT1.out.2; clear hta hstr)
      all_goals first
        | (go_ret3; exact ⟨by rw [HV.out, if_neg (by rw [HNL.out (by omega)]; decide)]; rfl, Below.refl _ _⟩)
        | skip
      go_loopw [8] (fun i wr => ∃ k : Nat, k ≤ T.length ∧ i = .int .i64 k ∧ Below w2.heap.size w2 wr ∧ Hid (∀ j b, j < k → T[j]? = some b → labelB b = true)) (fun i _ => T.length - (intOf i).toNat)
      case atStart => exact ⟨0, Nat.zero_le _, rfl, Below.refl _ _, Lib.hid (by omega)⟩
      case round =>
        obtain ⟨q, hq, rfl, hbel, hall⟩ := hrel
        by_cases hql : q < T.length
        · have hcell := (HTA.out.below hbel).cell q T[q] (List.getElem?_eq_getElem hql)
          have HK := Lib.hid (List.getElem?_eq_getElem hql)
          have htl := HS2.out T[q] (List.getElem_mem hql)
          generalize T[q] = t at hcell HK htl
          have hts : (ByteArray.mk t.toArray).size = t.length := by show t.toArray.size = _; simp
          have HLT := Lib.hid (fun w => letters_any ⟨t.toArray⟩ ⟨#[45, 95]⟩ w (by omega) (by decide))
          have HLB := Lib.hid (labelB_letters t)
          by_cases h63 : 63 < t.length
          · have hb : labelB t = false := by rw [HLB.out, decide_eq_false (by omega), Bool.false_and]
            have HNo := Lib.hid (all_notL T q t HK.out hb)
            clear hb
            go_wp2
            go_ret3
            exact ⟨by rw [HV.out, if_neg (by rw [HNB.out false (by omega) HNo.out]; decide)]; rfl, hb2.trans (hbel.mono hb2.size)⟩
          · have hb : labelB t = lettersB [45, 95] t := by rw [HLB.out, decide_eq_true (by omega), Bool.true_and]
            have HEq := Lib.hid hb
            clear hb
            cases hlb : labelB t with
            | false =>
              have HNo := Lib.hid (all_notL T q t HK.out hlb)
              have HLF : Hid (lettersB [45, 95] t = false) := Lib.hid (by rw [← HEq.out, hlb])
              clear hlb
              go_wp2_with (go_at_call 39; refine (HLT.out _).mono ?_; rw [show lettersB (ByteArray.data ⟨#[45, 95]⟩).toList (ByteArray.data ⟨t.toArray⟩).toList = false from HLF.out]; rintro e w3 ⟨rfl, rfl⟩)
              go_ret3
              exact ⟨by rw [HV.out, if_neg (by rw [HNB.out false (by omega) HNo.out]; decide)]; rfl, hb2.trans (hbel.mono hb2.size)⟩
            | true =>
              have HB := Lib.hid hlb
              have HLF : Hid (lettersB [45, 95] t = true) := Lib.hid (by rw [← HEq.out, hlb])
              clear hlb
              go_wp2_with (go_at_call 39; refine (HLT.out _).mono ?_; rw [show lettersB (ByteArray.data ⟨#[45, 95]⟩).toList (ByteArray.data ⟨t.toArray⟩).toList = true from HLF.out]; rintro e w3 ⟨rfl, rfl⟩)
              go_roundw
              case rel => exact ⟨q + 1, hql, by go_num, hbel, Lib.hid (by
                intro j d hj hd
                by_cases e : j = q
                · subst e
                  have := HK.out
                  rw [this] at hd
                  cases hd
                  exact HB.out
                · exact hall.out j d (by omega) hd)⟩
              case measure => simp [intOf]; omega
        · have HYes := Lib.hid (all_tillL T q (by omega) hall.out)
          go_wp2_with (go_at_call 40; refine (HF.out _).mono ?_; rintro e w3 ⟨rfl, hb3⟩)
          go_ret3
          have hb4 := hb2.trans (hbel.mono hb2.size)
          exact ⟨by rw [HV.out, if_pos (HNB.out true (by omega) HYes.out)]; rfl, hb4.trans (hb3.mono hb4.size)⟩
    · have hroot : isRoot s.data.toList = false := by unfold isRoot; rw [e1]; exact decide_eq_false hd
      have hbare : bare s.data.toList = s.data.toList := by
        unfold bare trimSuffix
        rw [e1, if_neg (by simpa using hd)]
      have hne : ¬ (s[k].toNat : Int) = 46 := fun e => hd (UInt8.toNat_inj.1 (by show s[k].toNat = 46; omega))
      clear e1 e2 hd
      obtain ⟨F, hF⟩ : ∃ F : ByteArray, ⟨((s).data.toList.map low).toArray⟩ = F := ⟨_, rfl⟩
      have HV : Hid (cleanV s.data.toList = if nameB (s).data.toList = true then .tuple #[.string F, .bool false, .bool true] else .tuple #[.string ⟨#[]⟩, .bool false, .bool false]) := Lib.hid (by unfold cleanV; rw [hbare, hroot, hF])
      have hnl : (s).data.toList.length = (s).size := rfl
      have HNB : Hid (∀ b, (s).size ≤ 253 → (splitL 46 (s).data.toList).all labelB = b → nameB (s).data.toList = b) := Lib.hid (fun b h1 h2 => by unfold nameB; rw [h2, hnl, decide_eq_true h1, Bool.true_and])
      have HNL : Hid ((s).size < 1 ∨ 253 < (s).size → nameB (s).data.toList = false) := Lib.hid (fun h => by
        rcases h with h | h
        · have : (s).data.toList = [] := List.eq_nil_of_length_eq_zero (by omega)
          rw [this]; decide
        · unfold nameB; rw [hnl, decide_eq_false (by omega), Bool.false_and])
      have HSp : Hid (∀ w, Calls Tryz.prog 38 #[.string (s), .int .u8 46] w (SplitR w (splitL 46 (s).data.toList))) := Lib.hid (fun w => split_any (s) 46 w (by omega))
      have HF : Hid (∀ w, Calls Tryz.prog 40 #[.string (s)] w fun e w' => e = .returned (.string F) ∧ Below w.heap.size w w') := Lib.hid (fun w => by have := rfold_any (s) w (by unfold maxLen; omega); rw [hF] at this; exact this)
      have HS1 := Lib.hid (splitG_len 46 (s).data.toList [])
      have HS2 : Hid (∀ x, x ∈ splitL 46 (s).data.toList → x.length ≤ 1000000) := Lib.hid (fun x hx => by have := splitG_mem 46 _ _ _ hx; simp only [List.length_nil] at this; omega)
      clear hbare hroot hnl hF
      have HT1 : Hid (1 ≤ (splitL 46 (s).data.toList).length ∧ (splitL 46 (s).data.toList).length ≤ (s).data.toList.length + 1) := Lib.hid HS1.out
      clear HS1
      generalize HT0 : splitL 46 (s).data.toList = T at *
      clear HT0
      go_enter Tryz.func25, Tryz.ntmps25
      go_wp2_with (go_at_call 38; refine (HSp.out _).mono ?_; rintro e w2 ⟨v, rfl, hstr, hb2⟩; obtain ⟨g, c, rfl, hta⟩ := strC_at hstr HT1.out.1; have HTA := Lib.hid hta; have hcap := hta.fits; have hmax := hta.max; have HL := Lib.hid HT1.out.2; clear hta hstr)
      all_goals first
        | (go_ret3; exact ⟨by rw [HV.out, if_neg (by rw [HNL.out (by omega)]; decide)]; rfl, Below.refl _ _⟩)
        | skip
      go_loopw [8] (fun i wr => ∃ k : Nat, k ≤ T.length ∧ i = .int .i64 k ∧ Below w2.heap.size w2 wr ∧ Hid (∀ j b, j < k → T[j]? = some b → labelB b = true)) (fun i _ => T.length - (intOf i).toNat)
      case atStart => exact ⟨0, Nat.zero_le _, rfl, Below.refl _ _, Lib.hid (by omega)⟩
      case round =>
        obtain ⟨q, hq, rfl, hbel, hall⟩ := hrel
        by_cases hql : q < T.length
        · have hcell := (HTA.out.below hbel).cell q T[q] (List.getElem?_eq_getElem hql)
          have HK := Lib.hid (List.getElem?_eq_getElem hql)
          have htl := HS2.out T[q] (List.getElem_mem hql)
          generalize T[q] = t at hcell HK htl
          have hts : (ByteArray.mk t.toArray).size = t.length := by show t.toArray.size = _; simp
          have HLT := Lib.hid (fun w => letters_any ⟨t.toArray⟩ ⟨#[45, 95]⟩ w (by omega) (by decide))
          have HLB := Lib.hid (labelB_letters t)
          by_cases h63 : 63 < t.length
          · have hb : labelB t = false := by rw [HLB.out, decide_eq_false (by omega), Bool.false_and]
            have HNo := Lib.hid (all_notL T q t HK.out hb)
            clear hb
            go_wp2
            go_ret3
            exact ⟨by rw [HV.out, if_neg (by rw [HNB.out false (by omega) HNo.out]; decide)]; rfl, hb2.trans (hbel.mono hb2.size)⟩
          · have hb : labelB t = lettersB [45, 95] t := by rw [HLB.out, decide_eq_true (by omega), Bool.true_and]
            have HEq := Lib.hid hb
            clear hb
            cases hlb : labelB t with
            | false =>
              have HNo := Lib.hid (all_notL T q t HK.out hlb)
              have HLF : Hid (lettersB [45, 95] t = false) := Lib.hid (by rw [← HEq.out, hlb])
              clear hlb
              go_wp2_with (go_at_call 39; refine (HLT.out _).mono ?_; rw [show lettersB (ByteArray.data ⟨#[45, 95]⟩).toList (ByteArray.data ⟨t.toArray⟩).toList = false from HLF.out]; rintro e w3 ⟨rfl, rfl⟩)
              go_ret3
              exact ⟨by rw [HV.out, if_neg (by rw [HNB.out false (by omega) HNo.out]; decide)]; rfl, hb2.trans (hbel.mono hb2.size)⟩
            | true =>
              have HB := Lib.hid hlb
              have HLF : Hid (lettersB [45, 95] t = true) := Lib.hid (by rw [← HEq.out, hlb])
              clear hlb
              go_wp2_with (go_at_call 39; refine (HLT.out _).mono ?_; rw [show lettersB (ByteArray.data ⟨#[45, 95]⟩).toList (ByteArray.data ⟨t.toArray⟩).toList = true from HLF.out]; rintro e w3 ⟨rfl, rfl⟩)
              go_roundw
              case rel => exact ⟨q + 1, hql, by go_num, hbel, Lib.hid (by
                intro j d hj hd
                by_cases e : j = q
                · subst e
                  have := HK.out
                  rw [this] at hd
                  cases hd
                  exact HB.out
                · exact hall.out j d (by omega) hd)⟩
              case measure => simp [intOf]; omega
        · have HYes := Lib.hid (all_tillL T q (by omega) hall.out)
          go_wp2_with (go_at_call 40; refine (HF.out _).mono ?_; rintro e w3 ⟨rfl, hb3⟩)
          go_ret3
          have hb4 := hb2.trans (hbel.mono hb2.size)
          exact ⟨by rw [HV.out, if_pos (HNB.out true (by omega) HYes.out)]; rfl, hb4.trans (hb3.mono hb4.size)⟩
  · have h1 : s = ⟨#[]⟩ := by
      have : s.data.toList = [] := List.eq_nil_of_length_eq_zero (by show s.size = 0; omega)
      cases s; simp at this; simp [this]
    subst h1
    have HV : cleanV ([] : List UInt8) = .tuple #[.string ⟨#[]⟩, .bool false, .bool false] := by unfold cleanV; rw [if_neg (by decide)]
    have HV := Lib.hid HV
    go_enter Tryz.func25, Tryz.ntmps25
    go_wp2
    all_goals (go_ret3; exact ⟨by first | (rw [HV.out]; rfl) | exact congrArg Ending.returned HV.out.symm, Below.refl _ _⟩)
end Go.Proofs.YtdfapebggghfdaaGreatDoor

namespace Go.Tx
open Go.RowKit
/-- A slice of rows that reads as R. -/
def RowsC (B : Nat) (w : World) (v : Value) (T : List (List UInt8 × List (List UInt8))) : Prop :=
  ∃ xs, w.ownsRow B 36 2 v T.length xs ∧ ∀ (i : Nat) (no : List UInt8) (ws : List (List UInt8)), T[i]? = some (no, ws) → xs[2 * i]? = some (.string ⟨no.toArray⟩) ∧ ∃ wv, xs[2 * i + 1]? = some wv ∧ StrC B w wv ws
theorem RowsC.nil (B : Nat) (w : World) : RowsC B w (.slice none 0 0) [] := ⟨[], World.ownsRow_nil w B 36 2, by simp⟩
theorem RowsC.below {B : Nat} {v : Value} {T : List (List UInt8 × List (List UInt8))} {w w' : World} (h : RowsC B w v T) (hb : Below w.heap.size w w') : RowsC B w' v T := by
  obtain ⟨xs, h1, h2⟩ := h
  refine ⟨xs, own_below h1 hb, fun i no ws hi => ?_⟩
  obtain ⟨a, wv, b, c⟩ := h2 i no ws hi
  exact ⟨a, wv, b, own_below c hb⟩
theorem RowsC.shape {B : Nat} {v : Value} {T : List (List UInt8 × List (List UInt8))} {w : World} (h : RowsC B w v T) : ∃ p c, v = .slice p T.length c := by
  obtain ⟨xs, h1, _⟩ := h
  rcases h1.2 with ⟨a, b⟩ | ⟨g, cap, cur, a, _⟩
  · exact ⟨none, 0, by rw [a, b]⟩
  · exact ⟨_, _, a⟩
theorem RowsC.push {B : Nat} {v v' wv : Value} {T : List (List UInt8 × List (List UInt8))} {w w' : World} {xs : List Value} {no : List UInt8} {ws : List (List UInt8)}
    (h1 : w.ownsRow B 36 2 v T.length xs) (h2 : ∀ (i : Nat) (no : List UInt8) (ws : List (List UInt8)), T[i]? = some (no, ws) → xs[2 * i]? = some (.string ⟨no.toArray⟩) ∧ ∃ wv, xs[2 * i + 1]? = some wv ∧ StrC B w wv ws)
    (hs : StrC B w wv ws) (ho : w'.ownsRow B 36 2 v' (T.length + 1) (xs ++ [.string ⟨no.toArray⟩, wv])) (hg : w.grownBy w' v.ownBlock) : RowsC B w' v' (T ++ [(no, ws)]) := by
  have hr : ∀ g, v.ownBlock = some g → ∃ cur fr, w.heap[g]? = some (.cells cur 36 fr) := by
    intro g hg
    rcases h1.2 with ⟨a, _⟩ | ⟨g', cap, cur, a, _, c, _⟩
    · rw [a] at hg; cases hg
    · rw [a] at hg
      cases hg
      exact ⟨cur, _, c⟩
  have hlen : xs.length = T.length * 2 := h1.1
  refine ⟨_, by simpa using ho, fun i no' ws' hi => ?_⟩
  by_cases hlt : i < T.length
  · rw [List.getElem?_append_left hlt] at hi
    obtain ⟨a, wv', b, c⟩ := h2 i no' ws' hi
    exact ⟨by rw [List.getElem?_append_left (by omega)]; exact a, wv', by rw [List.getElem?_append_left (by omega)]; exact b, c.grown (by decide) hg hr⟩
  · have hle : i < (T ++ [(no, ws)]).length := (List.getElem?_eq_some_iff.1 hi).1
    have : i = T.length := by simp at hle; omega
    subst this
    rw [List.getElem?_append_right (Nat.le_refl _), Nat.sub_self] at hi
    cases hi
    refine ⟨?_, wv, ?_, hs.grown (by decide) hg hr⟩
    · rw [List.getElem?_append_right (by omega), show 2 * T.length - xs.length = 0 from by omega]; rfl
    · rw [List.getElem?_append_right (by omega), show 2 * T.length + 1 - xs.length = 1 from by omega]; rfl
theorem RowsC.read {B : Nat} {w : World} {v : Value} {T : List (List UInt8 × List (List UInt8))} (h : RowsC B w v T) :
    ∃ p cap, v = .slice p T.length cap ∧ T.length ≤ cap ∧ cap ≤ 9223372036854775807 ∧ ∀ (i : Nat) (no : List UInt8) (ws : List (List UInt8)), T[i]? = some (no, ws) → ∃ g, p = some ⟨g, 0, none⟩ ∧ g < w.heap.size ∧ w.cell? ⟨g, 2 * i, none⟩ = some (.string ⟨no.toArray⟩) ∧ ∃ q c, w.cell? ⟨g, 2 * i + 1, none⟩ = some (.slice q ws.length c) ∧ StrC B w (.slice q ws.length c) ws := by
  obtain ⟨xs, h1, h2⟩ := h
  rcases h1.2 with ⟨a, b⟩ | ⟨g, cap, cur, a, a2, a3, a4, a5, _⟩
  · refine ⟨none, 0, by rw [a, b], by omega, by omega, fun i no ws hi => ?_⟩
    have := (List.getElem?_eq_some_iff.1 hi).1
    omega
  · subst a
    refine ⟨_, cap, rfl, a4, a5, fun i no ws hi => ?_⟩
    obtain ⟨x, wv, y, z⟩ := h2 i no ws hi
    have hlt : i < T.length := (List.getElem?_eq_some_iff.1 hi).1
    obtain ⟨q, c, rfl⟩ := z.shape
    exact ⟨g, rfl, (h1.lt g rfl).2, by rw [h1.cellAt _ (by omega)]; exact x, q, c, by rw [h1.cellAt _ (by omega)]; exact y, z⟩
end Go.Tx
namespace Go.Proofs.YtdfapebggghfdaaGreatDoor
open Go.RowKit Go.Lib Go.Tx
theorem own_drewN {B n : Nat} {e : TypeId} {size : Nat} {v : Value} {xs : List Value} {w : World} (h : w.ownsRow B e size v n xs) (q : Nat) : (w.drewN q).ownsRow B e size v n xs := own_same h (fun _ _ => rfl)
theorem bdN {B : Nat} {a w : World} (h : Below B a w) (q : Nat) : Below B a (w.drewN q) := ⟨h.os, h.tape, h.output, h.size, h.block⟩
theorem one_src (w : World) (g : Nat) (x : List UInt8) (h : w.cell? ⟨g, 0, none⟩ = some (strV x)) : ∀ i l, [x][i]? = some l → w.cell? ⟨g, i, none⟩ = some (strV l) := fun i l hi => by
  cases i with
  | zero => cases hi; exact h
  | succ i => simp at hi
set_option maxHeartbeats 2000000 in
set_option maxRecDepth 100000 in
/-- One text beside others, once, as many as may be. -/
theorem once_any {B : Nat} {v : Value} {T : List (List UInt8)} (x : List UInt8) (g c : Nat) (w : World) (h : StrC B w v T) (hc : w.cell? ⟨g, 0, none⟩ = some (.string ⟨x.toArray⟩)) (hg : g < w.heap.size) (hT : T.length ≤ 1000) (hcc : 1 ≤ c) :
    Calls Tryz.prog 28 #[v, .slice (some ⟨g, 0, none⟩) 1 c, .int .i64 32] w (TextsR w (put32 x T)) := by
  have HT := Lib.hid h
  have hcell := hc
  go_enter Tryz.func28, Tryz.ntmps28
  go_wp2_with (at_builtin; (refine wpList_append_texts rfl _ _ rfl (B := w.heap.size) (v := .slice none 0 0) (ws := []) rfl rfl (World.ownsRow_nil _ _ _ _) (StrC.texts HT.out) (by simp only [List.length_nil]; omega) (Nat.le_refl _) ?_; intro v1 w1 hv1 hb1; rw [List.nil_append] at hv1; obtain ⟨p1, c1, rfl⟩ := hv1.shape; have HV1 := Lib.hid hv1; have HB1 := Lib.hid hb1; clear hv1 hb1))
  go_loopw [7, 8] (fun ov iv wr => ∃ k : Nat, k ≤ 1 ∧ iv = .int .i64 k ∧ (k = 0 → StrC w.heap.size wr ov T) ∧ (k = 1 → StrC w.heap.size wr ov (put32 x T)) ∧ Below w.heap.size w wr) (fun _ iv _ => 1 - (intOf iv).toNat)
  case atStart => exact ⟨0, by omega, rfl, fun _ => HV1.out, fun h => by omega, HB1.out⟩
  case round =>
    obtain ⟨k, hk, rfl, h0, h1, hb⟩ := hrel
    have hcr : wr.cell? ⟨g, 0, none⟩ = some (.string ⟨x.toArray⟩) := by rw [hb.cell (p := ⟨g, 0, none⟩) hg]; exact hcell
    by_cases hk0 : k = 0
    · subst hk0
      have hv := h0 rfl
      obtain ⟨p2, c2, rfl, hc2, hm2, hr2⟩ := hv.read
      have HV := Lib.hid hv
      have HR := Lib.hid hr2
      have HB := Lib.hid hb
      obtain ⟨m, hm⟩ : ∃ m, T.length = m := ⟨_, rfl⟩
      rw [hm] at hc2 hT ⊢
      have HM := Lib.hid hm
      clear h0 h1 hv hr2 hm hb
      go_wp2
      go_loopw [9, 10] (fun bv jv wq => ∃ (j q : Nat), j ≤ m ∧ jv = .int .i64 j ∧ bv = .bool (decide (x ∈ T.take j)) ∧ wq = wr.drewN q) (fun _ jv _ => m - (intOf jv).toNat)
      case atStart => exact ⟨0, 0, Nat.zero_le _, rfl, by simp, rfl⟩
      case round =>
        obtain ⟨j, q, hj, rfl, rfl, rfl⟩ := hrel
        by_cases hlt : j < m
        · obtain ⟨y, hy⟩ : ∃ y, T[j]? = some y := ⟨_, List.getElem?_eq_getElem (by rw [HM.out]; exact hlt)⟩
          obtain ⟨g2, rfl, hg2, hcell2⟩ := HR.out j y hy
          have HTk := Lib.hid (takeH hy)
          have hji : (0 : Int) ≤ (j : Int) := by omega
          obtain ⟨yb, hyb⟩ : ∃ q : ByteArray, (⟨y.toArray⟩ : ByteArray) = q := ⟨_, rfl⟩
          obtain ⟨xb, hxb⟩ : ∃ q : ByteArray, (⟨x.toArray⟩ : ByteArray) = q := ⟨_, rfl⟩
          rw [hyb] at hcell2
          rw [hxb] at hcr
          clear hy
          by_cases hin : x ∈ T.take j
          · have hd : decide (x ∈ T.take j) = true := decide_eq_true hin
            have HD : Hid (decide (x ∈ T.take (j + 1)) = true) := Lib.hid (decide_eq_true (by rw [HTk.out]; exact List.mem_append_left _ hin))
            clear hin
            rw [hd]
            go_wp2
            go_quiet (fail)
            go_wp2
            go_roundw
            case rel => exact ⟨j + 1, _, hlt, by go_num, by rw [HD.out], rfl⟩
            case measure => simp [intOf]; omega
          · have hd : decide (x ∈ T.take j) = false := decide_eq_false hin
            rw [hd]
            by_cases hyx : x = y
            · have HD : Hid (decide (x ∈ T.take (j + 1)) = true) := Lib.hid (decide_eq_true (by rw [HTk.out, hyx]; simp))
              obtain rfl : yb = xb := by rw [← hyb, ← hxb, hyx]
              clear hin hyx hyb hxb
              go_wp2
              go_quiet (fail)
              go_wp2
              go_roundw
              case rel => exact ⟨j + 1, _, hlt, by go_num, by rw [HD.out], rfl⟩
              case measure => simp [intOf]; omega
            · have HD : Hid (decide (x ∈ T.take (j + 1)) = false) := Lib.hid (decide_eq_false (by rw [HTk.out]; simp only [List.mem_append, List.mem_singleton, not_or]; exact ⟨hin, hyx⟩))
              have hne : ¬ yb = xb := fun e => hyx (by
                rw [← hyb, ← hxb] at e
                have := congrArg (fun b : ByteArray => b.data.toList) e
                exact this.symm)
              have hne2 : (yb.toList == xb.toList) = false := beq_eq_false_iff_ne.2 (by rw [Go.Lib.toList_data, Go.Lib.toList_data]; exact fun e => hne (ByteArray.ext (Array.ext' e)))
              clear hin hyx hyb hxb
              go_wp2
              go_quiet (fail)
              go_wp2
              go_roundw
              case rel => exact ⟨j + 1, _, hlt, by go_num, by rw [HD.out], rfl⟩
              case measure => simp [intOf]; omega
        · obtain rfl : j = m := by omega
          have hlen := HM.out
          have hfull : T.take j = T := List.take_of_length_le (by omega)
          rw [hfull]
          have hbq := HB.out
          have HVj : Hid (StrC w.heap.size wr (.slice p2 j c2) T) := Lib.hid (by rw [← hlen]; exact HV.out)
          have hcq : ∀ W, W = wr → W.cell? ⟨g, 0, none⟩ = some (.string ⟨x.toArray⟩) := fun W e => by rw [e]; exact hcr
          by_cases hput : T.length < 32 ∧ x ∉ T
          · have hd : decide (x ∈ T) = false := decide_eq_false hput.2
            have h32 : (j : Int) < 32 := by omega
            have HPut : Hid (put32 x T = T ++ [x]) := Lib.hid (by unfold put32; rw [if_pos hput])
            clear hput hfull
            go_wp2_with (at_builtin; refine wpList_append_texts rfl _ _ rfl (B := w.heap.size) rfl rfl (World.ownsRow.alloc (own_drewN HVj.out q) _) (one_textsH _ _) (by simp; omega) (by have := hbq.size; show w.heap.size ≤ (Array.push _ _).size; simp; exact Nat.le_succ_of_le hbq.size) ?_; intro v' w5 hown5 hb5)
            go_roundw
            case rel => exact ⟨1, Nat.le_refl _, by go_num, (fun h => by omega), (fun _ => by rw [HPut.out]; exact hown5), ((bdN hbq q).alloc (bdN hbq q).size _).trans hb5⟩
            case measure => simp [intOf]
          · have HPut : Hid (put32 x T = T) := Lib.hid (by unfold put32; rw [if_neg hput])
            by_cases hin : x ∈ T
            · have hd : decide (x ∈ T) = true := decide_eq_true hin
              clear hput hfull hin
              go_wp2
              go_roundw
              case rel => exact ⟨1, Nat.le_refl _, by go_num, (fun h => by omega), (fun _ => by rw [HPut.out]; exact own_drewN HVj.out q), bdN hbq q⟩
              case measure => simp [intOf]
            · have hd : decide (x ∈ T) = false := decide_eq_false hin
              have h32 : ¬ (j : Int) < 32 := fun h => hput ⟨by omega, hin⟩
              clear hput hfull hin
              go_wp2
              go_roundw
              case rel => exact ⟨1, Nat.le_refl _, by go_num, (fun h => by omega), (fun _ => by rw [HPut.out]; exact own_drewN HVj.out q), bdN hbq q⟩
              case measure => simp [intOf]
    · obtain rfl : k = 1 := by omega
      have hv := h1 rfl
      have HV := Lib.hid hv
      clear hv h0 h1
      go_wp2
      go_ret
      exact ⟨_, rfl, HV.out, hb⟩
end Go.Proofs.YtdfapebggghfdaaGreatDoor

namespace Go.Tx
open Go.RowKit
theorem cell_lt {w : World} {b k : Nat} {v : Value} (h : w.cell? ⟨b, k, none⟩ = some v) : b < w.heap.size := by
  unfold World.cell? at h
  split at h
  · rename_i hh; exact (Array.getElem?_eq_some_iff.1 hh).1
  · cases h
theorem own_rows {B B' : Nat} {w : World} {v : Value} {R : List (List UInt8 × List (List UInt8))} (h : RowsC B w v R) (hB : B' ≤ B) : RowsC B' w v R := by
  obtain ⟨xs, h1, h2⟩ := h
  refine ⟨xs, own_base h1 hB, fun i a f hi => ?_⟩
  obtain ⟨x1, wv, x2, x3⟩ := h2 i a f hi
  exact ⟨x1, wv, x2, own_base x3 hB⟩
theorem below_set {B b k : Nat} {a w : World} {v : Value} (h : Below B a w) (hb : B ≤ b) : Below B a (w.setCell ⟨b, k, none⟩ v) :=
  ⟨h.os, h.tape, h.output, by rw [size_setCell']; exact h.size, fun j hj => by rw [heap_setCell_ne _ _ _ _ _ (by omega)]; exact h.block j hj⟩
theorem take_nm {r : List (List UInt8)} {j : Nat} {l : List UInt8} (h : r[j]? = some l) : (r.take (j + 1)).filterMap nm = (r.take j).filterMap nm ++ (nm l).toList := by rw [takeH h, nm_snoc]
end Go.Tx
namespace Go.Proofs.YtdfapebggghfdaaGreatDoor
open Go.RowKit Go.Lib Go.Tx
theorem infoRow : (Tryz.prog.info? 36).map (fun i => (i.zero, i.size, i.bytes)) = some (some (.agg #[.string ⟨#[]⟩, .slice none 0 0]), 2, 40) := by kernel_rfl
theorem new_cells2 (w : World) (x y : Value) (e : TypeId) : ∀ j u, [x, y][j]? = some u → (w.alloc (.cells #[x, y] e)).cell? ((⟨w.heap.size, 0, none⟩ : Addr).add j) = some u := by
  intro j u hj
  have ha : (⟨w.heap.size, 0, none⟩ : Addr).add j = ⟨w.heap.size, j, none⟩ := by unfold Addr.add; split <;> simp_all
  rw [ha, World.cell?_alloc_new]
  simpa using hj
def RowsR (w : World) (R : List (List UInt8 × List (List UInt8))) (e : Ending) (w' : World) : Prop := ∃ v, e = .returned v ∧ RowsC w.heap.size w' v R ∧ Below w.heap.size w w'
set_option maxHeartbeats 4000000 in
set_option maxRecDepth 100000 in
theorem hosts_core (a : Option Addr) (n c : Nat) (T : List (Nat × List (List UInt8))) (w : World) (hfine : ∀ t ∈ T, FineL t.2) (hfew2 : T.length ≤ 100001) (hlines : Calls Tryz.prog 23 #[.slice a n c] w (RLinesR w T)) :
    Calls Tryz.prog 11 #[.slice a n c] w (RowsR w (rowsOf T)) := by
  obtain ⟨i9, hi, hz0, hz1, hz2⟩ := info_parts infoRow
  have HLn := Lib.hid hlines
  have HFine := Lib.hid hfine
  clear hfine hlines
  go_enter Tryz.func11, Tryz.ntmps11
  go_wp2_with (go_at_call 23; refine HLn.out.mono ?_; rintro e w2 ⟨v, rfl, hT, hb2⟩; obtain ⟨pT, cT, rfl⟩ := hT.shape)
  have HT := Lib.hid hT
  have HB2 := Lib.hid hb2
  clear hT hb2
  go_loopw [3, 5] (fun ov iv wr => ∃ k : Nat, k ≤ T.length ∧ iv = .int .i64 k ∧ RowsC w2.heap.size wr ov (rowsOf (T.take k)) ∧ Below w2.heap.size w2 wr) (fun _ iv _ => T.length - (intOf iv).toNat)
  case atStart => exact ⟨0, Nat.zero_le _, rfl, RowsC.nil _ _, Below.refl _ _⟩
  case round =>
    obtain ⟨k, hk, rfl, hR, hbr⟩ := hrel
    by_cases hlt : k < T.length
    · obtain ⟨⟨no, ws⟩, hx⟩ : ∃ x, T[k]? = some x := ⟨_, List.getElem?_eq_getElem hlt⟩
      have hf := HFine.out (no, ws) (List.mem_of_getElem? hx)
      obtain ⟨_, cap, e, hcap, hcm, hrd⟩ := HT.out.read
      cases e
      obtain ⟨g, rfl, hc0, q, c, hc1, hstr⟩ := hrd k no ws hx
      have hgl : g < w2.heap.size := cell_lt hc0
      obtain ⟨_, c', e', hcc, hcm2, hwd⟩ := hstr.read
      cases e'
      have HTk := Lib.hid (takeH hx)
      have hne := hf.ne
      have hfew := hf.few
      have HWz := Lib.hid hf.word
      obtain ⟨x, r, rfl⟩ : ∃ x r, ws = x :: r := by cases ws with | nil => exact absurd rfl hne | cons x r => exact ⟨x, r, rfl⟩
      obtain ⟨A, rfl, hAl, _⟩ := hwd 0 x rfl
      have HC : Hid (∀ W, Below w2.heap.size w2 W → W.cell? ⟨g, k * 2 + 1, none⟩ = some (.slice (some ⟨A, 0, none⟩) (r.length + 1) c) ∧ ∀ j l, (x :: r)[j]? = some l → W.cell? ⟨A, j, none⟩ = some (.string ⟨l.toArray⟩)) := Lib.hid (fun W hW => by
        refine ⟨?_, fun j l hj => ?_⟩
        · rw [hW.cell (p := ⟨g, k * 2 + 1, none⟩) hgl, Nat.mul_comm]; exact hc1
        · obtain ⟨A', e, _, h2⟩ := hwd j l hj
          cases e
          rw [hW.cell (p := ⟨A, j, none⟩) hAl]; exact h2)
      obtain ⟨ovp, ovc, rfl⟩ := hR.shape
      have hkr := rowsOf_few (T.take k)
      have hkt := List.length_take_le k T
      have HR := Lib.hid hR
      have HBr := Lib.hid hbr
      have hwx := HC.out wr hbr
      obtain ⟨hw1, hw2⟩ := hwx
      have hw20 := hw2 0 x rfl
      have hxz : x.length ≤ 512 := HWz.out x (by simp)
      have HPA := Lib.hid (rparse_any ⟨x.toArray⟩ wr (by show x.toArray.size ≤ 100000; simp; omega))
      unfold FourR at HPA
      have HStep : Hid (rowsOf (T.take (k + 1)) = rowsOf (T.take k) ++ (rowOf (x :: r)).toList) := Lib.hid (by rw [HTk.out, rowsOf_snoc])
      have hrl : r.length ≤ 512 := by simp at hfew; omega
      have hne1 : ((r.length + 1 : Nat) : Int) = (r.length : Int) + 1 := by omega
      clear hrd hstr hwd hx hf hc0 hc1 hw2 hne hfew hR hbr
      cases hpa : parseP x with
      | none =>
        have HPA2 : Hid (Calls Tryz.prog 24 #[.string ⟨x.toArray⟩] wr fun e w' => e = .returned (.tuple #[.string ⟨#[]⟩, .bool false]) ∧ Below wr.heap.size wr w') := Lib.hid (by
          have := HPA.out
          rw [show (ByteArray.data ⟨x.toArray⟩).toList = x from rfl, hpa] at this
          exact this)
        have HNo : Hid (rowsOf (T.take (k + 1)) = rowsOf (T.take k)) := Lib.hid (by rw [HStep.out, rowOf_cons_none hpa]; simp)
        clear hpa HStep HPA
        go_wp2_with (go_at_call 24; refine HPA2.out.mono ?_; rintro e w4 ⟨rfl, hb4⟩)
        go_loopw [9] (fun jv wq => jv = .int .i64 1 ∧ Below w4.heap.size w4 wq) (fun _ _ => 0)
        case atStart => exact ⟨rfl, (Below.refl _ _).alloc (Nat.le_refl _) _⟩
        case round =>
          obtain ⟨rfl, hbq⟩ := hrel
          have hb5 := hb4.trans (hbq.mono hb4.size)
          have hbw := HBr.out.trans (hb5.mono HBr.out.size)
          obtain ⟨hq1, _⟩ := HC.out _ hbw
          have HRq : Hid (RowsC w2.heap.size wr (.slice ovp (rowsOf (T.take k)).length ovc) (rowsOf (T.take (k + 1)))) := Lib.hid (by rw [HNo.out]; exact HR.out.below hb5)
          clear hb5
          go_wp2
          all_goals
            go_roundw
            case rel => exact ⟨k + 1, hlt, by go_num, HRq.out, hbw⟩
            case measure => simp [intOf]; omega
      | some pa =>
        obtain ⟨pb, hpb⟩ : ∃ q : ByteArray, (⟨pa.toArray⟩ : ByteArray) = q := ⟨_, rfl⟩
        have HPb := Lib.hid hpb
        have HPA2 : Hid (Calls Tryz.prog 24 #[.string ⟨x.toArray⟩] wr fun e w' => e = .returned (.tuple #[.string pb, .bool true]) ∧ Below wr.heap.size wr w') := Lib.hid (by
          have := HPA.out
          rw [show (ByteArray.data ⟨x.toArray⟩).toList = x from rfl, hpa] at this
          rw [← hpb]
          exact this)
        have HSt2 : Hid (rowsOf (T.take (k + 1)) = rowsOf (T.take k) ++ (if r.filterMap nm = [] then none else some (pa, r.filterMap nm)).toList) := Lib.hid (by rw [HStep.out, rowOf_cons_some hpa])
        clear hpa HStep HPA hpb
        go_wp2_with (go_at_call 24; refine HPA2.out.mono ?_; rintro e w4 ⟨rfl, hb4⟩)
        go_loopw [9] (fun jv wq => ∃ (j : Nat) (rv : Value), j ≤ r.length ∧ jv = .int .i64 ((j + 1 : Nat) : Int) ∧ wq.cell? ⟨w4.heap.size, 0, none⟩ = some (.string pb) ∧ wq.cell? ⟨w4.heap.size, 1, none⟩ = some rv ∧ wq.frozen? ⟨w4.heap.size, 1, none⟩ = false ∧ StrC (w4.heap.size + 1) wq rv ((r.take j).filterMap nm) ∧ Below w4.heap.size w4 wq) (fun jv _ => r.length + 1 - (intOf jv).toNat)
        case atStart => exact ⟨0, .slice none 0 0, Nat.zero_le _, rfl, World.cell?_alloc_new .., World.cell?_alloc_new .., World.frozen?_alloc_at _ _ _ _ rfl, World.ownsRow_nil _ _ _ _, (Below.refl _ _).alloc (Nat.le_refl _) _⟩
        case round =>
          obtain ⟨j, rv, hj, rfl, hs0, hs1, hsf, hown, hbq⟩ := hrel
          have hb5 := hb4.trans (hbq.mono hb4.size)
          have hbw := HBr.out.trans (hb5.mono HBr.out.size)
          obtain ⟨hq1, hq2⟩ := HC.out _ hbw
          have hb8 : w4.heap.size < wr.heap.size := cell_lt hs0
          obtain ⟨rp, rc, rfl⟩ := hown.shape
          have HOwn := Lib.hid hown
          have hfl : ((r.take j).filterMap nm).length ≤ 512 := by
            have h1 := List.length_filterMap_le nm (r.take j)
            have h2 := List.length_take_le j r
            omega
          clear hown
          by_cases hjl : j < r.length
          · obtain ⟨y, hy⟩ : ∃ y, r[j]? = some y := ⟨_, List.getElem?_eq_getElem hjl⟩
            have hqy := hq2 (j + 1) y (by simpa using hy)
            have hyz := HWz.out y (by simp [List.mem_of_getElem? hy])
            have HTy := Lib.hid (take_nm hy)
            have HCl := Lib.hid (rclean_any ⟨y.toArray⟩ wr (by show y.toArray.size ≤ 1000000; simp; omega))
            have hjc : (j : Int) + 1 < (r.length : Int) + 1 := by omega
            have hj0 : (0 : Int) ≤ (j : Int) + 1 := by omega
            clear hq2 hy
            rcases cleanV_cases (ByteArray.data ⟨y.toArray⟩).toList with ⟨hnb, hcv⟩ | ⟨hnb, hcv⟩
            · have HNm : Hid ((r.take (j + 1)).filterMap nm = (r.take j).filterMap nm ++ [(bare y).map low]) := Lib.hid (by rw [HTy.out, nm_some (l := y) hnb]; rfl)
              rw [hcv] at HCl
              clear hcv hnb HTy
              have hbare : (bare (ByteArray.data ⟨y.toArray⟩).toList) = bare y := rfl
              rw [hbare] at HCl
              obtain ⟨nb, hnb⟩ : ∃ q : ByteArray, (⟨((bare y).map low).toArray⟩ : ByteArray) = q := ⟨_, rfl⟩
              rw [hnb] at HCl
              have HNb := Lib.hid (show nb.data.toList = (bare y).map low by rw [← hnb])
              clear hnb hbare
              have hBz : w4.heap.size + 1 ≤ wr.heap.size := hb8
              go_wp2_with (first | (go_at_call 25; refine HCl.out.mono ?_; rintro e w6 ⟨rfl, hb6⟩; have hs16 : w6.cell? ⟨w4.heap.size, 1, none⟩ = some (.slice rp ((r.take j).filterMap nm).length rc) := (by rw [hb6.cell (p := ⟨w4.heap.size, 1, none⟩) hb8]; exact hs1); have hs06 : w6.cell? ⟨w4.heap.size, 0, none⟩ = some (.string pb) := (by rw [hb6.cell (p := ⟨w4.heap.size, 0, none⟩) hb8]; exact hs0); have hsf6 : w6.frozen? ⟨w4.heap.size, 1, none⟩ = false := (by rw [World.frozen?_of_block (w := wr) (hb6.block _ hb8)]; exact hsf); have hb86 : w4.heap.size < w6.heap.size := Nat.lt_of_lt_of_le hb8 hb6.size) | (at_builtin; refine wpList_append_texts rfl _ _ rfl (B := w4.heap.size + 1) rfl rfl (World.ownsRow.alloc (own_below HOwn.out hb6) _) (one_textsH _ _) (by simp only [List.length_cons, List.length_nil]; omega) (by show w4.heap.size + 1 ≤ (Array.push _ _).size; simp; omega) ?_; intro v' w7 hown7 hb7; obtain ⟨p7, c7, rfl⟩ := hown7.shape; have hA6 : Below w6.heap.size w6 (w6.alloc (.cells #[.string nb] 9)) := (Below.refl _ _).alloc (Nat.le_refl _) _; have hs17 : w7.cell? ⟨w4.heap.size, 1, none⟩ = some (.slice rp ((r.take j).filterMap nm).length rc) := (by rw [hb7.cell (p := ⟨w4.heap.size, 1, none⟩) (Nat.lt_succ_self _), hA6.cell (p := ⟨w4.heap.size, 1, none⟩) hb86]; exact hs16); have hs07 : w7.cell? ⟨w4.heap.size, 0, none⟩ = some (.string pb) := (by rw [hb7.cell (p := ⟨w4.heap.size, 0, none⟩) (Nat.lt_succ_self _), hA6.cell (p := ⟨w4.heap.size, 0, none⟩) hb86]; exact hs06); have hsf7 : w7.frozen? ⟨w4.heap.size, 1, none⟩ = false := (by rw [World.frozen?_of_block (w := w6.alloc (.cells #[.string nb] 9)) (hb7.block _ (Nat.lt_succ_self _)), World.frozen?_of_block (w := w6) (hA6.block _ hb86)]; exact hsf6)))
              go_roundw
              case rel =>
                have hbel7 : Below w4.heap.size w4 w7 := (hbq.trans (hb6.mono hbq.size)).trans ((hA6.mono (Nat.le_of_lt hb86)).trans (hb7.mono (Nat.le_succ _)))
                refine ⟨j + 1, _, hjl, by go_num, (World.cell?_setCell_other w7 _ _ _ (fun e => by cases e)).trans hs07, World.cell?_setCell_same w7 _ _ hs17, by simpa using hsf7, ?_, below_set hbel7 (Nat.le_refl _)⟩
                rw [HNm.out, ← HNb.out]
                rw [List.length_append] at hown7
                exact own_same hown7 (fun i hi => heap_setCell_ne _ _ _ _ _ (by omega))
              case measure => simp [intOf]; omega
            · have HNm : Hid ((r.take (j + 1)).filterMap nm = (r.take j).filterMap nm) := Lib.hid (by rw [HTy.out, nm_none (l := y) hnb]; simp)
              rw [hcv] at HCl
              clear hcv hnb HTy
              go_wp2_with (go_at_call 25; refine HCl.out.mono ?_; rintro e w6 ⟨rfl, hb6⟩)
              go_roundw
              case rel => exact ⟨j + 1, _, hjl, by go_num, by rw [hb6.cell (p := ⟨w4.heap.size, 0, none⟩) hb8]; exact hs0, by rw [hb6.cell (p := ⟨w4.heap.size, 1, none⟩) hb8]; exact hs1, by rw [World.frozen?_of_block (w := wr) (hb6.block _ hb8)]; exact hsf, by rw [HNm.out]; exact own_below HOwn.out hb6, hbq.trans (hb6.mono hbq.size)⟩
              case measure => simp [intOf]; omega
          · obtain rfl : j = r.length := by omega
            rw [List.take_length] at HOwn hs1 hfl
            have HRb : Hid (RowsC w2.heap.size wr (.slice ovp (rowsOf (T.take k)).length ovc) (rowsOf (T.take k))) := Lib.hid (HR.out.below hb5)
            have hnl : ¬ (r.length : Int) + 1 < (r.length : Int) + 1 := by omega
            clear hq2
            by_cases hem : r.filterMap nm = []
            · have HNo : Hid (rowsOf (T.take (k + 1)) = rowsOf (T.take k)) := Lib.hid (by rw [HSt2.out, if_pos hem]; simp)
              rw [hem] at hs1
              clear hem
              go_wp2
              go_roundw
              case rel => exact ⟨k + 1, hlt, by go_num, by rw [HNo.out]; exact HRb.out, hbw⟩
              case measure => simp [intOf]; omega
            · have HYes : Hid (rowsOf (T.take (k + 1)) = rowsOf (T.take k) ++ [(pa, r.filterMap nm)]) := Lib.hid (by rw [HSt2.out, if_neg hem]; simp)
              have hpos : (0 : Int) < ((r.filterMap nm).length : Int) := by have := List.length_pos_iff.2 hem; omega
              obtain ⟨xs, hro, hen⟩ := HRb.out
              have HO := Lib.hid hro
              have HE := Lib.hid hen
              have hw2s : w2.heap.size ≤ w4.heap.size := Nat.le_trans HBr.out.size hb4.size
              have HF := Lib.hid (lower HOwn.out (B' := w2.heap.size) (by omega))
              clear hem hro hen HOwn
              generalize r.filterMap nm = f at *
              go_wp2_with (at_builtin; refine wpList_append_own _ rfl _ _ 28 rfl w2.heap.size 36 i9 (.agg #[.string ⟨#[]⟩, .slice none 0 0]) 2 40 Tryz.underlying28 hi hz0 hz1 hz2 rfl (by decide) _ _ _ rfl (World.ownsRow.alloc HO.out _) ⟨wr.heap.size, 0, none⟩ 1 1 [.string pb, .slice rp f.length rc] rfl rfl (new_cells2 _ _ _ _) (by simp [Value.oneCell']) (by unfold maxLen; omega) (by omega) (by have := hbw.size; show w2.heap.size ≤ (wr.heap.push _).size; simp; omega) ?_; intro v' w7 hown7 hg7 _)
              go_roundw
              case rel =>
                refine ⟨k + 1, hlt, by go_num, ?_, (hbw.alloc hbw.size _).grown hg7 (by have := hbw.size; show w2.heap.size ≤ (wr.heap.push _).size; simp; omega) (fun g hg => (HO.out.lt g hg).1)⟩
                rw [HYes.out]
                rw [← HPb.out] at hown7
                exact RowsC.push (World.ownsRow.alloc HO.out _) (fun i no ws h => by obtain ⟨x1, wv, x2, x3⟩ := HE.out i no ws h; exact ⟨x1, wv, x2, World.ownsRow.alloc x3 _⟩) (World.ownsRow.alloc HF.out _) hown7 hg7
              case measure => simp [intOf]; omega
    · obtain rfl : k = T.length := by omega
      rw [List.take_length] at hR
      have HR := Lib.hid hR
      clear hR
      go_wp2
      go_ret
      exact ⟨_, rfl, own_rows HR.out HB2.out.size, HB2.out.trans (hbr.mono HB2.out.size)⟩
theorem hosts_any (a : Option Addr) (n c : Nat) (l : List UInt8) (w : World) (h : BA w a n c l) (hold : ∀ x, a = some x → x.block < w.heap.size) (hn : n ≤ 100000) :
    Calls Tryz.prog 11 #[.slice a n c] w (RowsR w (rowsOf (toldG 1 [] l))) := by
  have hlen := h.len
  obtain ⟨hfine, hfew⟩ := toldG_fine l 1 []
  exact hosts_core a n c (toldG 1 [] l) w hfine (by omega) (rlines_any a n c l w h hold (by omega))
end Go.Proofs.YtdfapebggghfdaaGreatDoor

namespace Go.Tx
open Go.RowKit
theorem putN_take1 {a k : List UInt8} {l f : List (List UInt8)} {i : Nat} {x : List UInt8} (h : f[i]? = some x) : putN a k l (f.take (i + 1)) = if x = k then put32 a (putN a k l (f.take i)) else putN a k l (f.take i) := by rw [takeH h, putN_snoc]
theorem addsOf_take {R : List (List UInt8 × List (List UInt8))} {i : Nat} {a : List UInt8} {f : List (List UInt8)} (h : R[i]? = some (a, f)) (k : List UInt8) : addsOf (R.take (i + 1)) k = putN a k (addsOf (R.take i) k) f := by rw [takeH h, addsOf_snoc]
theorem namesAt_take {R : List (List UInt8 × List (List UInt8))} {i : Nat} {a b : List UInt8} {f : List (List UInt8)} (h : R[i]? = some (a, f)) (h0 : namesAt (R.take i) b = none) (hne : ¬ a = b) : namesAt (R.take (i + 1)) b = none := by
  rw [takeH h, namesAt_snoc, h0]; simp only; rw [if_neg (fun e => hne e.symm)]
theorem namesAt_hit {R : List (List UInt8 × List (List UInt8))} {i : Nat} {a : List UInt8} {f : List (List UInt8)} (h : R[i]? = some (a, f)) (h0 : namesAt (R.take i) a = none) : namesAt R a = some f := by
  have e : R = R.take i ++ (a, f) :: R.drop (i + 1) := by
    have hi := (List.getElem?_eq_some_iff.1 h).1
    have h2 := (List.getElem?_eq_some_iff.1 h).2
    rw [← h2, List.getElem_cons_drop, List.take_append_drop]
  rw [e]
  unfold namesAt at h0 ⊢
  rw [List.find?_append]
  cases hc : (R.take i).find? fun r => decide (r.1 = a) with
  | some y => rw [hc] at h0; cases h0
  | none => simp [List.find?]
/-- How long the rows' names are, how many. -/
structure FineR (R : List (List UInt8 × List (List UInt8))) : Prop where
  few : ∀ t ∈ R, t.2.length ≤ 512 ∧ t.2 ≠ []
  addr : ∀ t ∈ R, t.1.length ≤ 16
end Go.Tx
namespace Go.Proofs.YtdfapebggghfdaaGreatDoor
open Go.RowKit Go.Lib Go.Tx
theorem ba_ne {x y : List UInt8} {xb yb : ByteArray} (hx : (⟨x.toArray⟩ : ByteArray) = xb) (hy : (⟨y.toArray⟩ : ByteArray) = yb) (h : ¬ x = y) : ¬ xb = yb ∧ (xb.toList == yb.toList) = false := by
  have hne : ¬ xb = yb := fun e => h (by
    rw [← hx, ← hy] at e
    exact congrArg (fun b : ByteArray => b.data.toList) e)
  exact ⟨hne, beq_eq_false_iff_ne.2 (by rw [Go.Lib.toList_data, Go.Lib.toList_data]; exact fun e => hne (ByteArray.ext (Array.ext' e)))⟩
set_option maxHeartbeats 2000000 in
set_option maxRecDepth 100000 in
theorem rbyAddr_any {B : Nat} {v : Value} {R : List (List UInt8 × List (List UInt8))} (s : ByteArray) (w : World) (h : RowsC B w v R) (hR : R.length ≤ 1000000) :
    Calls Tryz.prog 17 #[v, .string s] w fun e w' => ∃ v', e = .returned v' ∧ StrC B w v' (byA R s.data.toList) ∧ w = w' := by
  obtain ⟨p, cap, rfl, hcap, hmax, hrd⟩ := h.read
  have HRd := Lib.hid hrd
  clear hrd h
  go_enter Tryz.func17, Tryz.ntmps17
  go_wp2
  go_loopw [5] (fun iv wr => ∃ k : Nat, k ≤ R.length ∧ iv = .int .i64 k ∧ namesAt (R.take k) s.data.toList = none ∧ w = wr) (fun iv _ => R.length - (intOf iv).toNat)
  case atStart => exact ⟨0, Nat.zero_le _, rfl, rfl, rfl⟩
  case round =>
    obtain ⟨k, hk, rfl, hno, rfl⟩ := hrel
    by_cases hlt : k < R.length
    · obtain ⟨⟨a, f⟩, hx⟩ : ∃ x, R[k]? = some x := ⟨_, List.getElem?_eq_getElem hlt⟩
      obtain ⟨g, rfl, hgl, hc0, q, c, hc1, hst⟩ := HRd.out k a f hx
      rw [Nat.mul_comm] at hc0 hc1
      obtain ⟨ab, hab⟩ : ∃ q : ByteArray, (⟨a.toArray⟩ : ByteArray) = q := ⟨_, rfl⟩
      rw [hab] at hc0
      by_cases he : a = s.data.toList
      · have hhit : Hid (byA R s.data.toList = f) := Lib.hid (by unfold byA; rw [← he] at hno ⊢; rw [namesAt_hit hx hno]; rfl)
        obtain rfl : ab = s := hab.symm.trans (by rw [he, bk s])
        have HSt := Lib.hid hst
        clear hx hno hst
        go_wp2
        go_ret
        exact ⟨_, rfl, by rw [hhit.out]; exact HSt.out, rfl⟩
      · obtain ⟨n1, n2⟩ := ba_ne hab (bk s) he
        have HNo := Lib.hid (namesAt_take hx hno he)
        clear hx hno hst
        go_wp2
        go_roundw
        case rel => exact ⟨k + 1, hlt, by go_num, HNo.out, trivial⟩
        case measure => simp [intOf]; omega
    · obtain rfl : k = R.length := by omega
      rw [List.take_length] at hno
      have HNo : Hid (byA R s.data.toList = []) := Lib.hid (by unfold byA; rw [hno]; rfl)
      clear hno
      go_wp2
      go_ret
      exact ⟨_, rfl, by rw [HNo.out]; exact World.ownsRow_nil _ _ _ _, rfl⟩
set_option maxHeartbeats 4000000 in
set_option maxRecDepth 100000 in
theorem rbyName_any {B : Nat} {v : Value} {R : List (List UInt8 × List (List UInt8))} (s : ByteArray) (w : World) (h : RowsC B w v R) (hR : R.length ≤ 1000000) (hF : ∀ t ∈ R, t.2.length ≤ 1000) (hs : s.size ≤ 1000000) :
    Calls Tryz.prog 15 #[v, .string s] w (TextsR w (byNm R s.data.toList)) := by
  obtain ⟨p, cap, rfl, hcap, hmax, _⟩ := h.read
  have HRs := Lib.hid h
  have HF := Lib.hid hF
  have HC := Lib.hid (rclean_any s w hs)
  clear h hF hs
  rcases cleanV_cases s.data.toList with ⟨hnb, hcv⟩ | ⟨hnb, hcv⟩
  · have HX : Hid (byNm R s.data.toList = addsOf R ((bare s.data.toList).map low)) := Lib.hid (by unfold byNm; rw [if_pos hnb])
    rw [hcv] at HC
    obtain ⟨nb, hnb2⟩ : ∃ q : ByteArray, (⟨((bare s.data.toList).map low).toArray⟩ : ByteArray) = q := ⟨_, rfl⟩
    rw [hnb2] at HC
    generalize (bare s.data.toList).map low = kk at *
    have HNb := Lib.hid hnb2
    clear hcv hnb hnb2
    go_enter Tryz.func15, Tryz.ntmps15
    go_wp2_with (go_at_call 25; refine HC.out.mono ?_; rintro e w2 ⟨rfl, hb2⟩)
    go_loopw [8, 9] (fun ov iv wr => ∃ k : Nat, k ≤ R.length ∧ iv = .int .i64 k ∧ StrC w.heap.size wr ov (addsOf (R.take k) kk) ∧ Below w.heap.size w wr) (fun _ iv _ => R.length - (intOf iv).toNat)
    case atStart => exact ⟨0, Nat.zero_le _, rfl, World.ownsRow_nil _ _ _ _, hb2⟩
    case round =>
      obtain ⟨k, hk, rfl, hov, hbr⟩ := hrel
      by_cases hlt : k < R.length
      · obtain ⟨⟨a, f⟩, hx⟩ : ∃ x, R[k]? = some x := ⟨_, List.getElem?_eq_getElem hlt⟩
        have HAdd := Lib.hid (addsOf_take hx kk)
        have hfl := HF.out (a, f) (List.mem_of_getElem? hx)
        have HHov := Lib.hid hov
        have HHb := Lib.hid hbr
        clear hov
        go_wp2
        go_loopw [8, 10] (fun ov jv wq => ∃ j : Nat, j ≤ f.length ∧ jv = .int .i64 j ∧ StrC w.heap.size wq ov (putN a kk (addsOf (R.take k) kk) (f.take j)) ∧ Below w.heap.size w wq) (fun _ jv _ => f.length - (intOf jv).toNat)
        case atStart => exact ⟨0, Nat.zero_le _, rfl, HHov.out, hbr⟩
        case round =>
          obtain ⟨j, hj, rfl, hoq, hbq⟩ := hrel
          obtain ⟨p', cap', e, _, _, hrd⟩ := (HRs.out.below (w' := wr) hbq).read
          cases e
          obtain ⟨g, rfl, hgl, hc0, q, c, hc1, hst⟩ := hrd k a f hx
          rw [Nat.mul_comm] at hc0 hc1
          obtain ⟨_, c', e', hfc, hfm, hrf⟩ := hst.read
          cases e'
          by_cases hjl : j < f.length
          · obtain ⟨x, hxj⟩ : ∃ x, f[j]? = some x := ⟨_, List.getElem?_eq_getElem hjl⟩
            obtain ⟨A, rfl, hAl, hcx⟩ := hrf j x hxj
            have HPut := Lib.hid (putN_take1 (a := a) (k := kk) (l := addsOf (R.take k) kk) hxj)
            obtain ⟨xb, hxb⟩ : ∃ q : ByteArray, (⟨x.toArray⟩ : ByteArray) = q := ⟨_, rfl⟩
            rw [hxb] at hcx
            have hl32 : (putN a kk (addsOf (R.take k) kk) (f.take j)).length ≤ 32 := putN_len _ _ _ _ (addsOf_len _ _)
            have HOq := Lib.hid hoq
            obtain ⟨T, hT⟩ : ∃ T, putN a kk (addsOf (R.take k) kk) (f.take j) = T := ⟨_, rfl⟩
            rw [hT] at HOq hl32 HPut
            clear hrd hrf hst hoq hT
            by_cases he : x = kk
            · obtain rfl : xb = nb := by rw [← hxb, ← HNb.out, he]
              rw [if_pos he] at HPut
              go_wp2_with (go_at_call 28; refine (once_any a wr.heap.size 1 _ (World.ownsRow.alloc HOq.out _) (by have := cell_new wr #[.string ⟨a.toArray⟩] 9 0; exact this) (by show wr.heap.size < (Array.push _ _).size; simp) (by omega) (Nat.le_refl _)).mono ?_; rintro e w5 ⟨v5, rfl, hv5, hb5⟩)
              go_roundw
              case rel =>
                have hbA : Below w.heap.size w (wr.alloc (.cells #[.string ⟨a.toArray⟩] 9)) := hbq.alloc hbq.size _
                exact ⟨j + 1, hjl, by go_num, by rw [HPut.out]; exact lower hv5 hbA.size, hbA.trans (hb5.mono hbA.size)⟩
              case measure => simp [intOf]; omega
            · obtain ⟨n1, n2⟩ := ba_ne hxb HNb.out he
              rw [if_neg he] at HPut
              go_wp2
              go_roundw
              case rel => exact ⟨j + 1, hjl, by go_num, by rw [HPut.out]; exact HOq.out, hbq⟩
              case measure => simp [intOf]; omega
          · obtain rfl : j = f.length := by omega
            rw [List.take_length] at hoq
            have HOq := Lib.hid hoq
            clear hoq hrd hrf
            go_wp2
            go_roundw
            case rel => exact ⟨k + 1, hlt, by go_num, by rw [HAdd.out]; exact HOq.out, hbq⟩
            case measure => simp [intOf]; omega
      · obtain rfl : k = R.length := by omega
        rw [List.take_length] at hov
        have HOv := Lib.hid hov
        clear hov
        go_wp2
        go_ret
        exact ⟨_, rfl, by rw [HX.out]; exact HOv.out, hbr⟩
  · have HX : Hid (byNm R s.data.toList = []) := Lib.hid (by unfold byNm; rw [if_neg (by rw [hnb]; decide)])
    rw [hcv] at HC
    clear hcv hnb
    go_enter Tryz.func15, Tryz.ntmps15
    go_wp2_with (go_at_call 25; refine HC.out.mono ?_; rintro e w2 ⟨rfl, hb2⟩)
    go_loopw [8, 9] (fun ov iv wr => ov = .slice none 0 0 ∧ iv = .int .i64 0 ∧ Below w.heap.size w wr) (fun _ _ _ => 0)
    case atStart => exact ⟨rfl, rfl, hb2⟩
    case round =>
      obtain ⟨rfl, rfl, hbr⟩ := hrel
      go_wp2
      all_goals
        go_ret
        exact ⟨_, rfl, by rw [HX.out]; exact World.ownsRow_nil _ _ _ _, hbr⟩
end Go.Proofs.YtdfapebggghfdaaGreatDoor

namespace Go.Proofs.YtdfapebggghfdaaGreatDoor
open Go.RowKit Go.Lib Go.Tx Go.Proofs
theorem lines_zero (a : Option Addr) (w : World) : Calls Tryz.prog 19 #[.slice a 0 0] w fun e w' => e = .returned (.slice none 0 0) ∧ w = w' := by
  go_enter Tryz.func19, Tryz.ntmps19
  go_wp2
  go_loop [0, 3] (fun b t => b = .slice a 0 0 ∧ t = .slice none 0 0) (fun _ _ => 0)
  case atStart => exact ⟨rfl, rfl⟩
  case round =>
    obtain ⟨rfl, rfl⟩ := hrel
    go_wp2
    go_ret
    exact ⟨rfl, rfl⟩
theorem one_zero (a : Option Addr) (w : World) : Calls Tryz.prog 35 #[.slice a 0 0] w fun e w' => e = .returned (.slice none 0 0) ∧ w = w' := by
  go_enter Tryz.func35, Tryz.ntmps35
  go_wp2
  go_loop [3, 4, 6] (fun l s i => l = .slice none 0 0 ∧ s = .string ⟨#[]⟩ ∧ i = .int .i64 0) (fun _ _ _ => 0)
  case atStart => exact ⟨rfl, rfl, rfl⟩
  case round =>
    obtain ⟨rfl, rfl, rfl⟩ := hrel
    go_wp2
    go_ret
    exact ⟨rfl, rfl⟩
theorem rlines_zero (a : Option Addr) (w : World) : Calls Tryz.prog 23 #[.slice a 0 0] w fun e w' => e = .returned (.slice none 0 0) ∧ w = w' := by
  go_enter Tryz.func23, Tryz.ntmps23
  go_wp2
  go_loop [3, 4, 5, 6] (fun l no fr i => l = .slice none 0 0 ∧ ((no = .int .i64 0 ∧ fr = .int .i64 0 ∧ i = .int .i64 0) ∨ i = .int .i64 1)) (fun _ _ _ i => 1 - (intOf i).toNat)
  case atStart => exact ⟨rfl, .inl ⟨rfl, rfl, rfl⟩⟩
  case round =>
    obtain ⟨rfl, ⟨rfl, rfl, rfl⟩ | rfl⟩ := hrel
    · go_wp2_with (go_at_call 35; refine (one_zero _ _).mono ?_; rintro e w' ⟨rfl, rfl⟩)
      go_round
      case rel => exact ⟨rfl, .inr rfl⟩
      case measure => simp [intOf]
    · go_wp2
      go_ret
      exact ⟨rfl, rfl⟩
end Go.Proofs.YtdfapebggghfdaaGreatDoor

