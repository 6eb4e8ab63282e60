/- Contracts and plain facts that the law leans on. -/
import Derived.Test.YtdfapebggghfdaaGreatDoorHmCb
import Derived.Test.YtdfapebggghfdaaGreatDoorShelfP
import Derived.LoopTactic
import Derived.Test.YtdfapebggghfdaaGreatDoorHmCa
import Derived.WalkKit
import Derived.ProofKit
import Derived.Deep.RegionHeld3
namespace Go.Proofs.YtdfapebggghfdaaGreatDoor
open Go.RowKit Go.Lib Go.Tx Go.Rb
/-- The library's two errors are what errors are. -/
def ErrAt (g : Nat) (w : World) : Prop := ∃ ev, w.cell? ⟨g, 0, none⟩ = some ev ∧ (ev = .nilIface ∨ ∃ te pe, ev = .iface te pe)
theorem ErrAt.below {g : Nat} {w w' : World} (h : ErrAt g w) (hb : Below w.heap.size w w') : ErrAt g w' := by
  obtain ⟨ev, h1, h2⟩ := h
  refine ⟨ev, ?_, h2⟩
  have hlt : g < w.heap.size := by
    unfold World.cell? at h1
    split at h1
    · rename_i hh
      exact (Array.getElem?_eq_some_iff.1 hh).1
    · cases h1
  rw [hb.cell (p := ⟨g, 0, none⟩) hlt]
  exact h1
def PubR (r : Option Int) (w : World) (e : Ending) (w' : World) : Prop :=
  Below w.heap.size w w' ∧ match r with
    | some n => e = .returned (.tuple #[.int .u64 n, .nilIface])
    | none => ∃ (x : Int) (g : Nat), e = .returned (.tuple #[.int .u64 x, .iface 123 (.pointer (some ⟨g, 0, none⟩))])
theorem pub16_any (s : ByteArray) (w : World) (hs : s.size ≤ 1000000) (h1 : ErrAt 1 w) (h2 : ErrAt 2 w) :
    Calls Tryz.prog 55 #[.string s, .int .i64 16, .int .i64 16] w (PubR (if hex16 s.data.toList = true then some (hexA s.data.toList) else none) w) := by
  have HP := Lib.hid (pu16_any s w hs)
  have HT1 : Hid (∀ w2 : World, Below w.heap.size w w2 → Calls Tryz.prog 80 #[.string ⟨#[80, 97, 114, 115, 101, 85, 105, 110, 116]⟩, .string s, .int .i64 16, .int .i64 16, .iface 121 (.int .i64 2)] w2 fun e w' => ∃ N, e = .returned (.iface 123 (.pointer (some ⟨N, 0, none⟩))) ∧ Below w2.heap.size w2 w') := Lib.hid (fun w2 hb => by
    obtain ⟨ev, e1, e2⟩ := h1.below hb
    exact (Tryz.strconv_toError_syntax _ s 16 16 ev w2 (by omega) e1 e2).mono fun e w' ⟨N, a, _, _, b⟩ => ⟨N, a, b⟩)
  have HT2 : Hid (∀ w2 : World, Below w.heap.size w w2 → Calls Tryz.prog 80 #[.string ⟨#[80, 97, 114, 115, 101, 85, 105, 110, 116]⟩, .string s, .int .i64 16, .int .i64 16, .iface 121 (.int .i64 1)] w2 fun e w' => ∃ N, e = .returned (.iface 123 (.pointer (some ⟨N, 0, none⟩))) ∧ Below w2.heap.size w2 w') := Lib.hid (fun w2 hb => by
    obtain ⟨ev, e1, e2⟩ := h2.below hb
    exact (Tryz.strconv_toError_range _ s 16 16 ev w2 (by omega) e1 e2).mono fun e w' ⟨N, a, _, _, b⟩ => ⟨N, a, b⟩)
  have HT : Hid (∀ w2 : World, Below w.heap.size w w2 → ∀ n : Int, (n = 1 ∨ n = 2) → Calls Tryz.prog 80 #[.string ⟨#[80, 97, 114, 115, 101, 85, 105, 110, 116]⟩, .string s, .int .i64 16, .int .i64 16, .iface 121 (.int .i64 n)] w2 fun e w' => ∃ N, e = .returned (.iface 123 (.pointer (some ⟨N, 0, none⟩))) ∧ Below w2.heap.size w2 w') := Lib.hid (fun w2 hb n hn => by
    rcases hn with rfl | rfl
    · exact HT2.out w2 hb
    · exact HT1.out w2 hb)
  clear HT1 HT2
  cases hx : hex16 s.data.toList with
  | true =>
    have HX := Lib.hid hx
    clear hx
    go_enter Tryz.func55, Tryz.ntmps55
    go_wp2_with (go_at_call 79; refine HP.out.mono ?_; rintro e w2 ⟨hb, h⟩; rw [if_pos HX.out] at h; subst h)
    go_ret2
    exact ⟨hb, rfl⟩
  | false =>
    have HX := Lib.hid hx
    clear hx
    go_enter Tryz.func55, Tryz.ntmps55
    go_wp2_with (first | (go_at_call 79; refine HP.out.mono ?_; rintro e w2 ⟨hb, h⟩; rw [if_neg (by rw [HX.out]; decide)] at h; obtain ⟨x, n, hn, rfl⟩ := h; have HNn := Lib.hid hn; clear hn) | (go_at_call 80; refine (HT.out _ hb _ HNn.out).mono ?_; rintro e w3 ⟨g, rfl, hb3⟩))
    all_goals (go_ret2; exact ⟨hb.trans (hb3.mono hb.size), _, g, rfl⟩)
end Go.Proofs.YtdfapebggghfdaaGreatDoor

namespace Go.Proofs.YtdfapebggghfdaaGreatDoor
open Go.RowKit Go.Lib Go.Tx Go.Rb
/-- An array that is being filled: its first k cells hold what f says. -/
structure Arr (w : World) (b n k : Nat) (f : Nat → Value) : Prop where
  lt : b < w.heap.size
  free : ∀ j, j < n → w.frozen? ⟨b, j, none⟩ = false
  held : ∀ j, j < n → ∃ v, w.cell? ⟨b, j, none⟩ = some v
  told : ∀ j, j < k → w.cell? ⟨b, j, none⟩ = some (f j)
theorem Arr.below {w w' : World} {b n k : Nat} {f : Nat → Value} (h : Arr w b n k f) (hb : Below w.heap.size w w') : Arr w' b n k f :=
  ⟨Nat.lt_of_lt_of_le h.lt hb.size, fun j hj => by rw [World.frozen?_of_block (w := w) (hb.block b h.lt)]; exact h.free j hj, fun j hj => by rw [hb.cell (p := ⟨b, j, none⟩) h.lt]; exact h.held j hj,
    fun j hj => by rw [hb.cell (p := ⟨b, j, none⟩) h.lt]; exact h.told j hj⟩
theorem Arr.new (w : World) (arr : Array Value) (e : TypeId) (n : Nat) (h : arr.size = n) (f : Nat → Value) : Arr (w.alloc (.cells arr e)) w.heap.size n 0 f :=
  ⟨by show w.heap.size < (w.heap.push _).size; simp, fun j hj => World.frozen?_alloc_at arr e _ j rfl, fun j hj => by rw [World.cell?_alloc_new]; exact ⟨arr[j], by simp [h, hj]⟩, fun j hj => by omega⟩
theorem Arr.step {w : World} {b n k : Nat} {f : Nat → Value} {v : Value} (h : Arr w b n k f) (hk : k < n) (hv : f k = v) : Arr (w.setCell ⟨b, k, none⟩ v) b n (k + 1) f := by
  subst hv
  have hne : ∀ j, j ≠ k → (⟨b, k, none⟩ : Addr) ≠ ⟨b, j, none⟩ := fun j hj e => by cases e; exact hj rfl
  obtain ⟨u, hu⟩ := h.held k hk
  refine ⟨by simpa using h.lt, fun j hj => by simpa using h.free j hj, fun j hj => ?_, fun j hj => ?_⟩
  · by_cases e : j = k
    · subst e; exact ⟨_, World.cell?_setCell_same w _ _ hu⟩
    · rw [World.cell?_setCell_other w _ _ _ (hne j e)]; exact h.held j hj
  · by_cases e : j = k
    · subst e
      exact World.cell?_setCell_same w _ _ hu
    · rw [World.cell?_setCell_other w _ _ _ (hne j e)]; exact h.told j (by omega)
/-- What the library's variables hold. -/
structure GloAt (w : World) : Prop where
  len : ∃ m, w.cell? ⟨0, 0, none⟩ = some (.int .i64 m)
  syn : ErrAt 1 w
  rng : ErrAt 2 w
theorem GloAt.below {w w' : World} (h : GloAt w) (hb : Below w.heap.size w w') : GloAt w' := by
  refine ⟨?_, h.syn.below hb, h.rng.below hb⟩
  obtain ⟨m, hm⟩ := h.len
  have hlt : 0 < w.heap.size := by
    unfold World.cell? at hm
    split at hm
    · rename_i hh
      exact (Array.getElem?_eq_some_iff.1 hh).1
    · cases hm
  exact ⟨m, by rw [hb.cell (p := ⟨0, 0, none⟩) hlt]; exact hm⟩
def SplitN (w : World) (P : List (List UInt8)) (e : Ending) (w' : World) : Prop :=
  ∃ cap, e = .returned (.slice (some ⟨w.heap.size, 0, none⟩) P.length cap) ∧ P.length ≤ cap ∧ cap ≤ 9223372036854775807 ∧ w.heap.size < w'.heap.size ∧
    (∀ (i : Nat) l, P[i]? = some l → w'.cell? ⟨w.heap.size, i, none⟩ = some (.string ⟨l.toArray⟩)) ∧ Below w.heap.size w w'
theorem splitN_any (s : ByteArray) (c : UInt8) (n : Nat) (w : World) (hs : s.size ≤ 1000000) (h1 : 1 ≤ n) (hn : n ≤ 1000) (hg : GloAt w) :
    Calls Tryz.prog 53 #[.string s, .string ⟨#[c]⟩, .int .i64 n] w (SplitN w (cutN c n s.data.toList)) := by
  obtain ⟨m, hm⟩ := hg.len
  refine (Tryz.strings_SplitN s ⟨#[c]⟩ n m w (by omega) hm (Nat.le_refl 1) h1 (by omega)).mono ?_
  rintro e w' ⟨rfl, rfl⟩
  have hd := splitB_data ⟨#[c]⟩ 0 (min n (s.size + 1) - 1) s
  have he : (splitB ⟨#[c]⟩ 0 (min n (s.size + 1) - 1) s).map (·.data.toList) = cutN c n s.data.toList := hd
  have hlen : (cutN c n s.data.toList).length = (splitB ⟨#[c]⟩ 0 (min n (s.size + 1) - 1) s).length := by rw [← he, List.length_map]
  have hcap := splitB_length_le ⟨#[c]⟩ 0 (min n (s.size + 1) - 1) s
  refine ⟨min n (s.size + 1), by rw [hlen], by omega, by omega, by show w.heap.size < (w.heap.push _).size; simp, fun i l hi => ?_, (Below.refl _ _).alloc (Nat.le_refl _) _⟩
  rw [World.cell?_alloc_new]
  rw [← he, List.getElem?_map] at hi
  obtain ⟨x, hx, rfl⟩ := Option.map_eq_some_iff.1 hi
  have hlt := (List.getElem?_eq_some_iff.1 hx).1
  unfold cellsOf
  rw [List.getElem?_toArray, List.getElem?_append_left (by simpa using hlt), List.getElem?_map, hx]
  rfl
theorem pub8_any (s : ByteArray) (w : World) (hs : s.size ≤ 1000000) (hg : GloAt w) :
    Calls Tryz.prog 55 #[.string s, .int .i64 10, .int .i64 8] w (PubR ((short8 s.data.toList).map fun u => (u : Int)) w) := by
  unfold short8
  cases h : parseUintB 8 s.data.toList
  case ok u =>
    refine (Tryz.strconv_ParseUint_10_at8_ok s (by omega) u h w).mono ?_
    rintro e w' ⟨rfl, h2⟩
    refine ⟨?_, rfl⟩
    rcases h2 with rfl | rfl
    · exact Below.refl _ _
    · exact Lib.bytesWorld_below _ _ _
  case range =>
    obtain ⟨ev, e1, e2⟩ := hg.rng
    refine (Tryz.strconv_ParseUint_10_at8_range s (by omega) h ev w e1 e2).mono ?_
    rintro e w' ⟨N, rfl, _, _, hb⟩
    exact ⟨hb, _, N, rfl⟩
  all_goals
    obtain ⟨ev, e1, e2⟩ := hg.syn
    refine (Any.strconv_ParseUint_10_at8_syntax Tryz.laysPu14 s (by omega) h ev w e1 e2).mono ?_
    rintro e w' ⟨N, rfl, _, _, hb⟩
    exact ⟨hb, _, N, rfl⟩
theorem pub8_some (s : ByteArray) (u : Nat) (w : World) (hs : s.size ≤ 1000000) (hg : GloAt w) (h : short8 s.data.toList = some u) :
    Calls Tryz.prog 55 #[.string s, .int .i64 10, .int .i64 8] w fun e w' => e = .returned (.tuple #[.int .u64 (u : Int), .nilIface]) ∧ Below w.heap.size w w' := by
  refine (pub8_any s w hs hg).mono ?_
  rintro e w' ⟨hb, h2⟩
  rw [h] at h2
  exact ⟨h2, hb⟩
theorem pub8_none (s : ByteArray) (w : World) (hs : s.size ≤ 1000000) (hg : GloAt w) (h : short8 s.data.toList = none) :
    Calls Tryz.prog 55 #[.string s, .int .i64 10, .int .i64 8] w fun e w' => (∃ (x : Int) (g : Nat), e = .returned (.tuple #[.int .u64 x, .iface 123 (.pointer (some ⟨g, 0, none⟩))])) ∧ Below w.heap.size w w' := by
  refine (pub8_any s w hs hg).mono ?_
  rintro e w' ⟨hb, h2⟩
  rw [h] at h2
  exact ⟨h2, hb⟩
theorem prefix48 (q : ByteArray) (b : Bool) (w : World) (h : [48].isPrefixOf q.data.toList = b) : Calls Tryz.prog 54 #[.string q, .string ⟨#[48]⟩] w fun e w' => e = .returned (.bool b) ∧ w = w' := by
  refine (Tryz.strings_HasPrefix q ⟨#[48]⟩ w).mono ?_
  rintro e w' ⟨rfl, rfl⟩
  exact ⟨by rw [← h]; rfl, rfl⟩
theorem fourP_all {P : List (List UInt8)} (h4 : P.length = 4) (h : (P.take 4).all okN = true) : fourP P = some (P.map byN) := by
  rw [List.take_of_length_le (by omega)] at h
  unfold fourP
  rw [if_pos ⟨h4, h⟩]
/-- What the cells of the array say. -/
def byV (P : List (List UInt8)) (j : Nat) : Value := .int .u8 ((byN (P.getD j [])).toNat : Int)
set_option maxHeartbeats 2000000 in
set_option maxRecDepth 100000 in
theorem pshort_any (s : ByteArray) (w : World) (hs : s.size ≤ 100000) (hg : GloAt w) :
    Calls Tryz.prog 33 #[.string s] w (FourR w (fourP (splitL 46 s.data.toList))) := by
  have hS := splitN_any s 46 5 w (by omega) (by omega) (by omega) hg
  obtain ⟨P, hP⟩ : ∃ P, cutN 46 5 s.data.toList = P := ⟨_, rfl⟩
  by_cases h4 : P.length = 4
  · have hPs : splitL 46 s.data.toList = P := by rw [← cutN_four _ (by rw [hP]; exact h4)]; exact hP
    have hpl : ∀ l ∈ P, l.length ≤ 100000 := fun l hl => by
      rw [← hPs] at hl
      have := splitG_mem 46 s.data.toList [] l hl
      have e : s.data.toList.length = s.size := rfl
      simp only [List.length_nil] at this
      omega
    rw [hPs]
    rw [hP] at hS
    have HS := Lib.hid hS
    have H4 := Lib.hid h4
    have HPL := Lib.hid hpl
    have HG := Lib.hid hg
    clear hS hpl hP hPs hg
    go_enter Tryz.func33, Tryz.ntmps33
    go_wp2_with (go_at_call 53; refine HS.out.mono ?_; rintro e w2 ⟨cap, rfl, hc1, hc2, hlt2, hrd, hb⟩; rw [H4.out] at hc1 ⊢; have HRD := Lib.hid hrd; clear hrd)
    have HB := Lib.hid hb
    have hws := hb.size
    go_loopw [17] (fun i wr => ∃ k : Nat, k ≤ 4 ∧ i = .int .i64 k ∧ Hid (Arr wr w2.heap.size 4 k (byV P)) ∧ Hid ((P.take k).all okN = true) ∧ Below w2.heap.size w2 wr) (fun i _ => 4 - (RowKit.intOf i).toNat)
    case atStart => exact ⟨0, Nat.zero_le _, rfl, Lib.hid (Arr.new _ _ _ _ rfl _), Lib.hid rfl, (Below.refl _ _).alloc (Nat.le_refl _) _⟩
    case round =>
      obtain ⟨k, hk, rfl, hA, hall, hbw⟩ := hrel
      have hws2 := hbw.size
      have hG2 : Hid (GloAt wr) := Lib.hid ((HG.out.below HB.out).below hbw)
      by_cases hlt : k < 4
      · obtain ⟨l, hl⟩ : ∃ l, P[k]? = some l := ⟨_, List.getElem?_eq_getElem (by rw [H4.out]; exact hlt)⟩
        have hcell : wr.cell? ⟨w.heap.size, k, none⟩ = some (.string ⟨l.toArray⟩) := (hbw.cell (p := ⟨w.heap.size, k, none⟩) hlt2).trans (HRD.out k l hl)
        obtain ⟨q, hq⟩ : ∃ q : ByteArray, (⟨l.toArray⟩ : ByteArray) = q := ⟨_, rfl⟩
        have hql : q.data.toList = l := by rw [← hq]
        have hqs : q.size ≤ 1000000 := by
          have := HPL.out l (List.mem_of_getElem? hl)
          have e : q.data.toList.length = q.size := rfl
          rw [hql] at e
          omega
        rw [hq] at hcell
        have HL := Lib.hid hl
        have HQL := Lib.hid hql
        clear hl hq hql
        by_cases hz : l.head? = some 48 ∧ 1 < l.length
        · have HP : Hid ([48].isPrefixOf q.data.toList = true) := Lib.hid (by
            rw [HQL.out]
            cases l with
            | nil => cases hz.1
            | cons c r => have := hz.1; simp at this; subst this; rfl)
          have hne : (q.toList == [48]) = false := by
            rw [toList_data, HQL.out, beq_eq_false_iff_ne]
            rintro rfl
            exact absurd hz.2 (by decide)
          have HN := Lib.hid (fourP_no HL.out (okN_zero hz.1 hz.2))
          clear hz
          go_wp2_with (go_at_call 54; refine (prefix48 q true _ HP.out).mono ?_; rintro e w' ⟨rfl, rfl⟩)
          go_ret2
          exact ⟨by rw [HN.out]; rfl, HB.out.trans (hbw.mono HB.out.size)⟩
        · have hnz : ¬ (q.data.toList.head? = some 48 ∧ 1 < q.data.toList.length) := by rw [HQL.out]; exact hz
          have HZ := Lib.hid hz
          clear hz
          have hpre : ∃ b c : Bool, Hid ([48].isPrefixOf q.data.toList = b) ∧ Hid ((q.toList == [48]) = c) ∧ (b = false ∨ (b = true ∧ c = true)) := by
            rw [toList_data]
            cases hq : q.data.toList with
            | nil => exact ⟨false, _, Lib.hid rfl, Lib.hid rfl, .inl rfl⟩
            | cons c r =>
              by_cases e : c = 48
              · subst e
                have hr : r = [] := by
                  cases r with
                  | nil => rfl
                  | cons d r => exact absurd ⟨by rw [hq]; rfl, by rw [hq]; simp⟩ hnz
                subst hr
                exact ⟨true, true, Lib.hid rfl, Lib.hid rfl, .inr ⟨rfl, rfl⟩⟩
              · have e2 : (48 == c) = false := by rw [beq_eq_false_iff_ne]; exact fun x => e x.symm
                exact ⟨false, _, Lib.hid (by simp [List.isPrefixOf, e2]), Lib.hid rfl, .inl rfl⟩
          clear hnz
          obtain ⟨b, c, HPB, HPC, hbc⟩ := hpre
          cases hu : short8 q.data.toList with
          | none =>
            have HU := Lib.hid hu
            have HN := Lib.hid (fourP_no HL.out (by rw [← HQL.out]; exact short8_none hu))
            clear hu
            rcases hbc with rfl | ⟨rfl, rfl⟩
            · go_wp2_with (first | (go_at_call 54; refine (prefix48 q _ _ HPB.out).mono ?_; rintro e w' ⟨rfl, rfl⟩) | (go_at_call 55; refine (pub8_none q _ hqs hG2.out HU.out).mono ?_; rintro e w4 ⟨⟨x, g, rfl⟩, hb4⟩))
              go_ret2
              exact ⟨by rw [HN.out]; rfl, HB.out.trans ((hbw.trans (hb4.mono hbw.size)).mono HB.out.size)⟩
            · have hne := HPC.out
              go_wp2_with (first | (go_at_call 54; refine (prefix48 q _ _ HPB.out).mono ?_; rintro e w' ⟨rfl, rfl⟩) | (go_at_call 55; refine (pub8_none q _ hqs hG2.out HU.out).mono ?_; rintro e w4 ⟨⟨x, g, rfl⟩, hb4⟩))
              go_ret2
              exact ⟨by rw [HN.out]; rfl, HB.out.trans ((hbw.trans (hb4.mono hbw.size)).mono HB.out.size)⟩
          | some u =>
            have HU := Lib.hid hu
            obtain ⟨ho, hby, hub⟩ := short8_ok hu (by rw [HQL.out]; exact HZ.out)
            rw [HQL.out] at ho hby
            have HO := Lib.hid ho
            have HBV : Hid (byV P k = .int .u8 (u : Int)) := Lib.hid (by
              unfold byV
              rw [List.getD_eq_getElem?_getD, HL.out, Option.getD_some, hby])
            clear hu ho hby
            rcases hbc with rfl | ⟨rfl, rfl⟩
            · go_wp2_with (first | (go_at_call 54; refine (prefix48 q _ _ HPB.out).mono ?_; rintro e w' ⟨rfl, rfl⟩) | (go_at_call 55; refine (pub8_some q u _ hqs hG2.out HU.out).mono ?_; rintro e w4 ⟨rfl, hb4⟩; have hA4 := hA.out.below hb4; obtain ⟨u', hcell4⟩ := hA4.held k hlt; have hfree := hA4.free k hlt; have HA4 := Lib.hid hA4; clear hA4))
              go_roundw
              case rel => exact ⟨k + 1, hlt, by go_num, Lib.hid (HA4.out.step hlt HBV.out), Lib.hid (all_push HL.out hall.out HO.out), (hbw.trans (hb4.mono hbw.size)).setCell (Nat.le_refl _) _⟩
              case measure => simp [RowKit.intOf]; omega
            · have hne := HPC.out
              go_wp2_with (first | (go_at_call 54; refine (prefix48 q _ _ HPB.out).mono ?_; rintro e w' ⟨rfl, rfl⟩) | (go_at_call 55; refine (pub8_some q u _ hqs hG2.out HU.out).mono ?_; rintro e w4 ⟨rfl, hb4⟩; have hA4 := hA.out.below hb4; obtain ⟨u', hcell4⟩ := hA4.held k hlt; have hfree := hA4.free k hlt; have HA4 := Lib.hid hA4; clear hA4))
              go_roundw
              case rel => exact ⟨k + 1, hlt, by go_num, Lib.hid (HA4.out.step hlt HBV.out), Lib.hid (all_push HL.out hall.out HO.out), (hbw.trans (hb4.mono hbw.size)).setCell (Nat.le_refl _) _⟩
              case measure => simp [RowKit.intOf]; omega
      · obtain rfl : k = 4 := by omega
        have HF := Lib.hid (fourP_all H4.out hall.out)
        have hstr : (convert 22 9 (.slice (some ⟨w2.heap.size, 0, none⟩) 4 4)).run Tryz.prog wr = .ok (.string ⟨(P.map byN).toArray⟩) wr := by
          have hl4 : (P.map byN).length = 4 := by rw [List.length_map]; exact H4.out
          have := run_convert_bytes_back (P := Tryz.prog) wr 22 9 5 ⟨w2.heap.size, 0, none⟩ 4 (P.map byN) Tryz.underlying22 Tryz.underlying5 Tryz.underlying9 (fun j hj => by
            have ha : (⟨w2.heap.size, 0, none⟩ : Addr).add j = ⟨w2.heap.size, j, none⟩ := by unfold Addr.add; split <;> simp_all
            rw [ha, hA.out.told j (by omega)]
            have hj' : j < P.length := by rw [List.length_map] at hj; exact hj
            unfold byV
            rw [List.getD_eq_getElem?_getD, List.getElem?_eq_getElem hj', Option.getD_some, List.getElem_map])
          rw [hl4] at this
          exact this
        go_wp2
        go_ret2
        exact ⟨by rw [HF.out]; rfl, HB.out.trans (hbw.mono HB.out.size)⟩
  · have HF : Hid (fourP (splitL 46 s.data.toList) = none) := Lib.hid (cutN_notfour _ (by rw [hP]; exact h4))
    have hlen := cutN_len 46 5 s.data.toList (by omega)
    rw [hP] at hS hlen
    have HS := Lib.hid hS
    have h4' : ((P.length : Int) != 4) = true := by simp; omega
    clear hS hP
    go_enter Tryz.func33, Tryz.ntmps33
    go_wp2_with (go_at_call 53; refine HS.out.mono ?_; rintro e w2 ⟨cap, rfl, hc1, hc2, hlt2, hrd, hb⟩; clear hrd)
    go_ret2
    exact ⟨by rw [HF.out]; rfl, hb⟩
end Go.Proofs.YtdfapebggghfdaaGreatDoor

namespace Go.Proofs.YtdfapebggghfdaaGreatDoor
open Go.RowKit Go.Lib Go.Tx Go.Rb Go.Ev
theorem pub16_some (s : ByteArray) (m : Nat) (w : World) (hs : s.size ≤ 1000000) (hg : GloAt w) (h : hex16 s.data.toList = true) (hm : hexA s.data.toList = m) :
    Calls Tryz.prog 55 #[.string s, .int .i64 16, .int .i64 16] w fun e w' => e = .returned (.tuple #[.int .u64 (m : Int), .nilIface]) ∧ Below w.heap.size w w' := by
  refine (pub16_any s w hs hg.syn hg.rng).mono ?_
  rintro e w' ⟨hb, h2⟩
  rw [if_pos h, hm] at h2
  exact ⟨h2, hb⟩
theorem pub16_none (s : ByteArray) (w : World) (hs : s.size ≤ 1000000) (hg : GloAt w) (h : hex16 s.data.toList = false) :
    Calls Tryz.prog 55 #[.string s, .int .i64 16, .int .i64 16] w fun e w' => (∃ (x : Int) (g : Nat), e = .returned (.tuple #[.int .u64 x, .iface 123 (.pointer (some ⟨g, 0, none⟩))])) ∧ Below w.heap.size w w' := by
  refine (pub16_any s w hs hg.syn hg.rng).mono ?_
  rintro e w' ⟨hb, h2⟩
  rw [if_neg (by rw [h]; decide)] at h2
  exact ⟨h2, hb⟩
theorem pgroups_nil (s : ByteArray) (w : World) (h : s.data.toList = []) :
    Calls Tryz.prog 51 #[.string s] w (FourR w (pgP s.data.toList)) := by
  have HG : Hid (pgP s.data.toList = some []) := Lib.hid (by unfold pgP; rw [if_pos h])
  have e1 : s = ⟨#[]⟩ := by apply ByteArray.ext; apply Array.ext'; exact h
  subst e1
  clear h
  go_enter Tryz.func51, Tryz.ntmps51
  go_wp2
  go_ret2
  exact ⟨by rw [HG.out]; rfl, Below.refl _ _⟩
theorem four_or (r : Option (List UInt8)) : (∃ f, r = some f) ∨ r = none := by cases r with
  | none => exact .inr rfl
  | some f => exact .inl ⟨f, rfl⟩
theorem hex16_bd {l : List UInt8} (h : hex16 l = true) : ∃ m : Nat, hexA l = m ∧ m ≤ 65535 := by
  unfold hex16 at h
  simp only [Bool.and_eq_true, decide_eq_true_eq] at h
  have h0 : 0 ≤ hexA l := hexA_from l 0 (fun c hc => by
    have := h.1.2
    unfold hexOk at this
    rw [List.all_eq_true] at this
    simpa using this c hc) (by omega)
  exact ⟨(hexA l).toNat, by omega, by omega⟩
theorem join_str (a f : List UInt8) : (⟨a.toArray⟩ : ByteArray) ++ ⟨f.toArray⟩ = ⟨(a ++ f).toArray⟩ := by
  apply ByteArray.ext
  apply Array.ext'
  simp
set_option maxHeartbeats 4000000 in
set_option maxRecDepth 100000 in
theorem pgroups_yes (s : ByteArray) (w : World) (hs : s.size ≤ 100000) (hg : GloAt w) (h0 : s.data.toList ≠ []) (P : List (List UInt8)) (N : Nat) (hP : cutN 58 9 s.data.toList = P) (hN : P.length = N + 1) (lst : List UInt8) (hlst : P[N]? = some lst) (f : List UInt8) (hf : fourP (splitL 46 lst) = some f) (hpl : ∀ l ∈ P, l.length ≤ 100000) :
    Calls Tryz.prog 51 #[.string s] w (FourR w (pgP s.data.toList)) := by
  obtain ⟨i5, hi, hz0, hz1, hz2⟩ := info_parts info5
  have hS := splitN_any s 58 9 w (by omega) (by omega) (by omega) hg
  have hlen := cutN_len 58 9 s.data.toList (by omega)
  rw [hP] at hS hlen
  rw [hN] at hlen
  have hl2 : P.getLastD [] = lst := by
    rw [List.getLastD_eq_getLast?, List.getLast?_eq_getElem?, hN, Nat.add_sub_cancel, hlst]; rfl
  have hpg : pgP s.data.toList = (hexAll (P.take N)).map (· ++ f) := by
    unfold pgP
    rw [if_neg h0, hP, hl2, hf, List.dropLast_eq_take, hN]; rfl
  have HE : Hid (∀ a, hexAll (P.take N) = some a → pgP s.data.toList = some (a ++ f)) := Lib.hid (fun a h => by rw [hpg, h]; rfl)
  have HK : Hid (∀ l ∈ P.take N, hexG l = none → pgP s.data.toList = none) := Lib.hid (fun l hl h => by rw [hpg, hexAll_no hl h]; rfl)
  have hf4 := fourP_len hf
  have HS := Lib.hid hS
  have HN := Lib.hid hN
  have HL := Lib.hid hlst
  have HPL := Lib.hid hpl
  have HG := Lib.hid hg
  have hll := hpl lst (List.mem_of_getElem? hlst)
  obtain ⟨ql, hq⟩ : ∃ q : ByteArray, (⟨lst.toArray⟩ : ByteArray) = q := ⟨_, rfl⟩
  have hqs : ql.size ≤ 100000 := by
    rw [← hq]
    show lst.toArray.size ≤ _
    simpa using hll
  have hqf : fourP (splitL 46 ql.data.toList) = some f := by rw [← hq]; exact hf
  have HQF := Lib.hid hqf
  have HQ := Lib.hid hq
  have e1 : ¬ s.toList = [] := by rw [toList_data]; exact h0
  have e2 : s.toList.isEmpty = false := by cases hh : s.toList with | nil => exact absurd hh e1 | cons x y => rfl
  clear hS hN hlst hpl hg hf hP hpg hl2 hq hqf h0 hll
  go_enter Tryz.func51, Tryz.ntmps51
  go_wp2_with (first | (go_at_call 53; refine HS.out.mono ?_; rintro e w2 ⟨cap, rfl, hc1, hc2, hlt2, hrd, hb⟩; rw [HN.out] at hc1 ⊢; have hlc := hrd N lst HL.out; rw [HQ.out] at hlc; have HRD := Lib.hid hrd; have HB := Lib.hid hb; have hbs := hb.size; clear hrd hb) | (go_at_call 33; refine (pshort_any ql _ hqs (HG.out.below HB.out)).mono ?_; rw [HQF.out]; rintro e w3 ⟨rfl, hb3⟩; simp only [Option.getD_some, Option.getD_none, Option.isSome_some, Option.isSome_none]; have HB3 := Lib.hid hb3; have hbs3 := hb3.size; clear hb3))
  go_loopw [8, 36] (fun av i wr => ∃ (k : Nat) (a : List UInt8), k ≤ N ∧ i = .int .i64 k ∧ Hid (RB w3.heap.size wr av a) ∧ Hid (hexAll (P.take k) = some a) ∧ Hid (a.length = 2 * k) ∧ Below w3.heap.size w3 wr) (fun _ i _ => N - (RowKit.intOf i).toNat)
  case atStart => exact ⟨0, [], Nat.zero_le _, rfl, Lib.hid (RB.nil _ _), Lib.hid rfl, Lib.hid rfl, Below.refl _ _⟩
  case round =>
    obtain ⟨k, a, hk, rfl, hO, hall, hal, hbw⟩ := hrel
    have hws := hbw.size
    have hal2 : a.length ≤ 1000 := by have := hal.out; omega
    obtain ⟨pa, ca, rfl, hca1, hca2⟩ := hO.out.shape
    have hG2 : Hid (GloAt wr) := Lib.hid (((HG.out.below HB.out).below HB3.out).below hbw)
    by_cases hlt : k < N
    · obtain ⟨l, hl⟩ : ∃ l, P[k]? = some l := ⟨_, List.getElem?_eq_getElem (by rw [HN.out]; omega)⟩
      have hcell : wr.cell? ⟨w.heap.size, k, none⟩ = some (.string ⟨l.toArray⟩) := (hbw.cell (p := ⟨w.heap.size, k, none⟩) (by show w.heap.size < _; omega)).trans ((HB3.out.cell (p := ⟨w.heap.size, k, none⟩) hlt2).trans (HRD.out k l hl))
      obtain ⟨q, hq⟩ : ∃ q : ByteArray, (⟨l.toArray⟩ : ByteArray) = q := ⟨_, rfl⟩
      have hql : q.data.toList = l := by rw [← hq]
      have hqs : q.size ≤ 1000000 := by
        have := HPL.out l (List.mem_of_getElem? hl)
        have e : q.data.toList.length = q.size := rfl
        rw [hql] at e
        omega
      rw [hq] at hcell
      have HL := Lib.hid hl
      have HQL := Lib.hid hql
      have HKl : Hid (hexG l = none → pgP s.data.toList = none) := Lib.hid (HK.out l (by
        have := List.getElem?_take_of_lt (l := P) (i := k) (j := N) hlt
        rw [hl] at this
        exact List.mem_of_getElem? this))
      have hqz : q.data.toList.length = q.size := rfl
      rw [hql] at hqz
      have HQZ := Lib.hid hqz
      clear hl hq hql hqz
      cases hx : hex16 q.data.toList with
      | false =>
        have HX := Lib.hid hx
        have HY := Lib.hid (HKl.out (hexG_no16 (by rw [← HQL.out]; exact hx)))
        clear hx
        go_wp2_with (go_at_call 55; refine (pub16_none q _ hqs hG2.out HX.out).mono ?_; rintro e w4 ⟨⟨x, g, rfl⟩, hb4⟩)
        go_ret2
        exact ⟨by rw [HY.out]; rfl, HB.out.trans ((HB3.out.trans ((hbw.trans (hb4.mono hbw.size)).mono HB3.out.size)).mono HB.out.size)⟩
      | true =>
        obtain ⟨m, hm, hm2⟩ := hex16_bd hx
        have HX := Lib.hid hx
        have HM := Lib.hid hm
        by_cases h4 : 4 < q.size
        · have HY := Lib.hid (HKl.out (hexG_long (by rw [HQZ.out]; exact h4)))
          clear hx hm
          go_wp2_with (go_at_call 55; refine (pub16_some q m _ hqs hG2.out HX.out HM.out).mono ?_; rintro e w4 ⟨rfl, hb4⟩)
          go_ret2
          exact ⟨by rw [HY.out]; rfl, HB.out.trans ((HB3.out.trans ((hbw.trans (hb4.mono hbw.size)).mono HB3.out.size)).mono HB.out.size)⟩
        · have h4' : q.size ≤ 4 := by omega
          have HY : Hid (hexG l = some [UInt8.ofNat (m / 256), UInt8.ofNat (m % 256)]) := Lib.hid (by
            have := hexG_16 hx (by rw [HQL.out, HQZ.out]; exact h4')
            rw [hm, HQL.out] at this
            exact this)
          clear hx hm h4
          go_wp2_with (first | (go_at_call 55; refine (pub16_some q m _ hqs hG2.out HX.out HM.out).mono ?_; rintro e w4 ⟨rfl, hb4⟩; have HO4 := Lib.hid (hO.out.below hb4); have hbs4 := hb4.size) | (at_builtin; refine wpList_append_rb rfl _ _ 22 22 rfl Tryz.underlying22 Tryz.underlying22 (by intro k h; cases h) hi hz0 hz1 hz2 (B := w3.heap.size) (l := a) (m := [UInt8.ofNat (m / 256), UInt8.ofNat (m % 256)]) rfl rfl (HO4.out.alloc _) (lit2 _ () (by simp; omega) (by simp)) (Nat.le_trans (Nat.le_trans hws hbs4) (Nat.le_of_lt (by simp))) (by simp; omega) ?_; intro s' w5 hO5 hb5))
          go_roundw
          case rel => exact ⟨k + 1, a ++ [UInt8.ofNat (m / 256), UInt8.ofNat (m % 256)], hlt, by go_num, Lib.hid hO5, Lib.hid (hexAll_step HL.out hall.out HY.out), Lib.hid (by have := hal.out; simp; omega), ((hbw.trans (hb4.mono hws)).alloc (Nat.le_trans hws hbs4) _).trans hb5⟩
          case measure => simp [RowKit.intOf]; omega
    · obtain rfl : k = N := by omega
      have HF := Lib.hid (HE.out a hall.out)
      have hstr := hO.out.str (P := Tryz.prog) (src := 22) (dst := 9) Tryz.underlying22 Tryz.underlying5 Tryz.underlying9
      have hX : (⟨a.toArray⟩ : ByteArray).size ≤ 1000 := by show a.toArray.size ≤ _; simp; omega
      have hX2 : (⟨f.toArray⟩ : ByteArray).size ≤ 1000 := by show f.toArray.size ≤ _; simp; omega
      go_wp2
      go_ret2
      exact ⟨by rw [HF.out]; simp only [Option.getD_some, Option.isSome_some, ← join_str]; rfl, HB.out.trans ((HB3.out.trans (hbw.mono HB3.out.size)).mono HB.out.size)⟩
set_option maxHeartbeats 4000000 in
set_option maxRecDepth 100000 in
theorem pgroups_no (s : ByteArray) (w : World) (hs : s.size ≤ 100000) (hg : GloAt w) (h0 : s.data.toList ≠ []) (P : List (List UInt8)) (N : Nat) (hP : cutN 58 9 s.data.toList = P) (hN : P.length = N + 1) (lst : List UInt8) (hlst : P[N]? = some lst) (hf : fourP (splitL 46 lst) = none) (hpl : ∀ l ∈ P, l.length ≤ 100000) :
    Calls Tryz.prog 51 #[.string s] w (FourR w (pgP s.data.toList)) := by
  obtain ⟨i5, hi, hz0, hz1, hz2⟩ := info_parts info5
  have hS := splitN_any s 58 9 w (by omega) (by omega) (by omega) hg
  have hlen := cutN_len 58 9 s.data.toList (by omega)
  rw [hP] at hS hlen
  rw [hN] at hlen
  have hl2 : P.getLastD [] = lst := by
    rw [List.getLastD_eq_getLast?, List.getLast?_eq_getElem?, hN, Nat.add_sub_cancel, hlst]; rfl
  have hpg : pgP s.data.toList = hexAll P := by
    unfold pgP
    rw [if_neg h0, hP, hl2, hf]
  have htk : P.take (N + 1) = P := List.take_of_length_le (by omega)
  have HE : Hid (∀ a, hexAll (P.take (N + 1)) = some a → pgP s.data.toList = some (a ++ [])) := Lib.hid (fun a h => by rw [htk] at h; rw [hpg, h, List.append_nil])
  have HK : Hid (∀ l ∈ P.take (N + 1), hexG l = none → pgP s.data.toList = none) := Lib.hid (fun l hl h => by rw [htk] at hl; rw [hpg, hexAll_no hl h])
  clear htk
  have HS := Lib.hid hS
  have HN := Lib.hid hN
  have HL := Lib.hid hlst
  have HPL := Lib.hid hpl
  have HG := Lib.hid hg
  have hll := hpl lst (List.mem_of_getElem? hlst)
  obtain ⟨ql, hq⟩ : ∃ q : ByteArray, (⟨lst.toArray⟩ : ByteArray) = q := ⟨_, rfl⟩
  have hqs : ql.size ≤ 100000 := by
    rw [← hq]
    show lst.toArray.size ≤ _
    simpa using hll
  have hqf : fourP (splitL 46 ql.data.toList) = none := by rw [← hq]; exact hf
  have HQF := Lib.hid hqf
  have HQ := Lib.hid hq
  have e1 : ¬ s.toList = [] := by rw [toList_data]; exact h0
  have e2 : s.toList.isEmpty = false := by cases hh : s.toList with | nil => exact absurd hh e1 | cons x y => rfl
  clear hS hN hlst hpl hg hf hP hpg hl2 hq hqf h0 hll
  go_enter Tryz.func51, Tryz.ntmps51
  go_wp2_with (first | (go_at_call 53; refine HS.out.mono ?_; rintro e w2 ⟨cap, rfl, hc1, hc2, hlt2, hrd, hb⟩; rw [HN.out] at hc1 ⊢; have hlc := hrd N lst HL.out; rw [HQ.out] at hlc; have HRD := Lib.hid hrd; have HB := Lib.hid hb; have hbs := hb.size; clear hrd hb) | (go_at_call 33; refine (pshort_any ql _ hqs (HG.out.below HB.out)).mono ?_; rw [HQF.out]; rintro e w3 ⟨rfl, hb3⟩; simp only [Option.getD_some, Option.getD_none, Option.isSome_some, Option.isSome_none]; have HB3 := Lib.hid hb3; have hbs3 := hb3.size; clear hb3))
  go_loopw [8, 36] (fun av i wr => ∃ (k : Nat) (a : List UInt8), k ≤ (N + 1) ∧ i = .int .i64 k ∧ Hid (RB w3.heap.size wr av a) ∧ Hid (hexAll (P.take k) = some a) ∧ Hid (a.length = 2 * k) ∧ Below w3.heap.size w3 wr) (fun _ i _ => (N + 1) - (RowKit.intOf i).toNat)
  case atStart => exact ⟨0, [], Nat.zero_le _, rfl, Lib.hid (RB.nil _ _), Lib.hid rfl, Lib.hid rfl, Below.refl _ _⟩
  case round =>
    obtain ⟨k, a, hk, rfl, hO, hall, hal, hbw⟩ := hrel
    have hws := hbw.size
    have hal2 : a.length ≤ 1000 := by have := hal.out; omega
    obtain ⟨pa, ca, rfl, hca1, hca2⟩ := hO.out.shape
    have hG2 : Hid (GloAt wr) := Lib.hid (((HG.out.below HB.out).below HB3.out).below hbw)
    by_cases hlt : k < (N + 1)
    · obtain ⟨l, hl⟩ : ∃ l, P[k]? = some l := ⟨_, List.getElem?_eq_getElem (by rw [HN.out]; omega)⟩
      have hcell : wr.cell? ⟨w.heap.size, k, none⟩ = some (.string ⟨l.toArray⟩) := (hbw.cell (p := ⟨w.heap.size, k, none⟩) (by show w.heap.size < _; omega)).trans ((HB3.out.cell (p := ⟨w.heap.size, k, none⟩) hlt2).trans (HRD.out k l hl))
      obtain ⟨q, hq⟩ : ∃ q : ByteArray, (⟨l.toArray⟩ : ByteArray) = q := ⟨_, rfl⟩
      have hql : q.data.toList = l := by rw [← hq]
      have hqs : q.size ≤ 1000000 := by
        have := HPL.out l (List.mem_of_getElem? hl)
        have e : q.data.toList.length = q.size := rfl
        rw [hql] at e
        omega
      rw [hq] at hcell
      have HL := Lib.hid hl
      have HQL := Lib.hid hql
      have HKl : Hid (hexG l = none → pgP s.data.toList = none) := Lib.hid (HK.out l (by
        have := List.getElem?_take_of_lt (l := P) (i := k) (j := (N + 1)) hlt
        rw [hl] at this
        exact List.mem_of_getElem? this))
      have hqz : q.data.toList.length = q.size := rfl
      rw [hql] at hqz
      have HQZ := Lib.hid hqz
      clear hl hq hql hqz
      cases hx : hex16 q.data.toList with
      | false =>
        have HX := Lib.hid hx
        have HY := Lib.hid (HKl.out (hexG_no16 (by rw [← HQL.out]; exact hx)))
        clear hx
        go_wp2_with (go_at_call 55; refine (pub16_none q _ hqs hG2.out HX.out).mono ?_; rintro e w4 ⟨⟨x, g, rfl⟩, hb4⟩)
        go_ret2
        exact ⟨by rw [HY.out]; rfl, HB.out.trans ((HB3.out.trans ((hbw.trans (hb4.mono hbw.size)).mono HB3.out.size)).mono HB.out.size)⟩
      | true =>
        obtain ⟨m, hm, hm2⟩ := hex16_bd hx
        have HX := Lib.hid hx
        have HM := Lib.hid hm
        by_cases h4 : 4 < q.size
        · have HY := Lib.hid (HKl.out (hexG_long (by rw [HQZ.out]; exact h4)))
          clear hx hm
          go_wp2_with (go_at_call 55; refine (pub16_some q m _ hqs hG2.out HX.out HM.out).mono ?_; rintro e w4 ⟨rfl, hb4⟩)
          go_ret2
          exact ⟨by rw [HY.out]; rfl, HB.out.trans ((HB3.out.trans ((hbw.trans (hb4.mono hbw.size)).mono HB3.out.size)).mono HB.out.size)⟩
        · have h4' : q.size ≤ 4 := by omega
          have HY : Hid (hexG l = some [UInt8.ofNat (m / 256), UInt8.ofNat (m % 256)]) := Lib.hid (by
            have := hexG_16 hx (by rw [HQL.out, HQZ.out]; exact h4')
            rw [hm, HQL.out] at this
            exact this)
          clear hx hm h4
          go_wp2_with (first | (go_at_call 55; refine (pub16_some q m _ hqs hG2.out HX.out HM.out).mono ?_; rintro e w4 ⟨rfl, hb4⟩; have HO4 := Lib.hid (hO.out.below hb4); have hbs4 := hb4.size) | (at_builtin; refine wpList_append_rb rfl _ _ 22 22 rfl Tryz.underlying22 Tryz.underlying22 (by intro k h; cases h) hi hz0 hz1 hz2 (B := w3.heap.size) (l := a) (m := [UInt8.ofNat (m / 256), UInt8.ofNat (m % 256)]) rfl rfl (HO4.out.alloc _) (lit2 _ () (by simp; omega) (by simp)) (Nat.le_trans (Nat.le_trans hws hbs4) (Nat.le_of_lt (by simp))) (by simp; omega) ?_; intro s' w5 hO5 hb5))
          go_roundw
          case rel => exact ⟨k + 1, a ++ [UInt8.ofNat (m / 256), UInt8.ofNat (m % 256)], hlt, by go_num, Lib.hid hO5, Lib.hid (hexAll_step HL.out hall.out HY.out), Lib.hid (by have := hal.out; simp; omega), ((hbw.trans (hb4.mono hws)).alloc (Nat.le_trans hws hbs4) _).trans hb5⟩
          case measure => simp [RowKit.intOf]; omega
    · obtain rfl : k = (N + 1) := by omega
      have HF := Lib.hid (HE.out a hall.out)
      have hstr := hO.out.str (P := Tryz.prog) (src := 22) (dst := 9) Tryz.underlying22 Tryz.underlying5 Tryz.underlying9
      have hX : (⟨a.toArray⟩ : ByteArray).size ≤ 1000 := by show a.toArray.size ≤ _; simp; omega
      go_wp2
      go_ret2
      exact ⟨by rw [HF.out]; simp only [Option.getD_some, Option.isSome_some, ← join_str]; rfl, HB.out.trans ((HB3.out.trans (hbw.mono HB3.out.size)).mono HB.out.size)⟩
theorem pgroups_any (s : ByteArray) (w : World) (hs : s.size ≤ 100000) (hg : GloAt w) :
    Calls Tryz.prog 51 #[.string s] w (FourR w (pgP s.data.toList)) := by
  by_cases h0 : s.data.toList = []
  · exact pgroups_nil s w h0
  have hlen := cutN_len 58 9 s.data.toList (by omega)
  obtain ⟨P, hP⟩ : ∃ P, cutN 58 9 s.data.toList = P := ⟨_, rfl⟩
  rw [hP] at hlen
  obtain ⟨N, hN⟩ : ∃ N, P.length = N + 1 := ⟨P.length - 1, by omega⟩
  obtain ⟨lst, hlst⟩ : ∃ l, P[N]? = some l := ⟨_, List.getElem?_eq_getElem (by omega)⟩
  have hpl : ∀ l ∈ P, l.length ≤ 100000 := fun l hl => by
    rw [← hP] at hl
    have := cutN_mem hl
    have e : s.data.toList.length = s.size := rfl
    omega
  rcases four_or (fourP (splitL 46 lst)) with ⟨f, hf⟩ | hf
  · exact pgroups_yes s w hs hg h0 P N hP hN lst hlst f hf hpl
  · exact pgroups_no s w hs hg h0 P N hP hN lst hlst hf hpl
end Go.Proofs.YtdfapebggghfdaaGreatDoor

namespace Go.Proofs.YtdfapebggghfdaaGreatDoor
open Go.RowKit Go.Lib Go.Tx Go.Rb Go.Ev
theorem below_drewN (w : World) : ∀ n, Below w.heap.size w (w.drewN n)
  | 0 => Below.refl _ _
  | n + 1 => (below_drewN w n).drew
theorem idx_mem (l : List UInt8) (c : UInt8) : decide (0 ≤ Lib.indexByte l c) = decide (c ∈ l) := by
  have h := Lib.indexByte_ge l c
  by_cases h1 : Lib.indexByte l c = -1
  · have := Lib.indexByte_none h1
    have hn : ¬ c ∈ l := fun hm => by
      obtain ⟨k, hk, e⟩ := List.getElem_of_mem hm
      exact this k (by rw [List.getElem?_eq_getElem hk, e])
    rw [h1]; simp [hn]
  · obtain ⟨o, ho⟩ : ∃ o : Nat, Lib.indexByte l c = o := ⟨(Lib.indexByte l c).toNat, by omega⟩
    have := (Lib.indexByte_some ho).1
    have hm := List.mem_of_getElem? this
    rw [ho]; simp [hm]
theorem contains_is (s : ByteArray) (c : UInt8) (b : Bool) (w : World) (h : decide (c ∈ s.data.toList) = b) : Calls Tryz.prog 31 #[.string s, .string ⟨#[c]⟩] w fun e w' => e = .returned (.bool b) ∧ w = w' := by
  refine (Tryz.strings_Contains_one s c w).mono ?_
  rintro e w' ⟨rfl, rfl⟩
  exact ⟨by rw [idx_mem, h], rfl⟩
theorem cut_is (s : ByteArray) (w : World) (hs : s.size ≤ 100000) (hg : GloAt w) (A B : List UInt8) (b : Bool) (h : Lib.cut s.data.toList [58, 58] = (A, B, b)) :
    Calls Tryz.prog 47 #[.string s, .string ⟨#[58, 58]⟩] w fun e w' => e = .returned (.tuple #[.string ⟨A.toArray⟩, .string ⟨B.toArray⟩, .bool b]) ∧ Below w.heap.size w w' := by
  obtain ⟨m, hm⟩ := hg.len
  refine (Tryz.strings_Cut s ⟨#[58, 58]⟩ m w (by omega) hm).mono ?_
  rintro e w' ⟨rfl, n, rfl⟩
  have h' : Lib.cut s.data.toList (ByteArray.data ⟨#[58, 58]⟩).toList = (A, B, b) := h
  rw [h']
  exact ⟨rfl, below_drewN w n⟩
theorem cut_len (l sep : List UInt8) : (Lib.cut l sep).1.length ≤ l.length ∧ (Lib.cut l sep).2.1.length ≤ l.length := by
  unfold Lib.cut
  split
  · simp; omega
  · simp
theorem pgP_len {s a : List UInt8} (h : pgP s = some a) : a.length ≤ 22 := by
  unfold pgP at h
  have hl := cutN_len 58 9 s (by omega)
  split at h
  · cases h; simp
  · split at h
    · rename_i f hf
      have := fourP_len hf
      cases hx : hexAll (cutN 58 9 s).dropLast with
      | none => rw [hx] at h; cases h
      | some x =>
        rw [hx] at h
        cases h
        have h2 := hexAll_len hx
        rw [List.length_dropLast] at h2
        simp
        omega
    · have := hexAll_len h
      omega
theorem pg_call (l : List UInt8) (w : World) (hl : l.length ≤ 100000) (hg : GloAt w) (r : Option (List UInt8)) (hr : pgP l = r) : Calls Tryz.prog 51 #[.string ⟨l.toArray⟩] w (FourR w r) := by
  have := pgroups_any ⟨l.toArray⟩ w (by show l.toArray.size ≤ _; simpa using hl) hg
  rw [← hr]
  exact this
theorem strings_zero (z : Nat) (w : World) (hz : z ≤ 16) : Calls Tryz.prog 52 #[.string ⟨#[0]⟩, .int .i64 z] w fun e w' => e = .returned (.string ⟨(List.replicate z (0 : UInt8)).toArray⟩) ∧ Below w.heap.size w w' := by
  refine (Tryz.strings_Repeat ⟨#[0]⟩ z w (by omega) (by show 1 * z ≤ _; omega)).mono ?_
  rintro e w' ⟨rfl, hb⟩
  refine ⟨?_, hb⟩
  have h1 : repeatL (ByteArray.data ⟨#[0]⟩).toList z = List.replicate z (0 : UInt8) := by
    have h2 := repeatL_replicate (0 : UInt8) 1 z
    rw [Nat.mul_one] at h2
    exact h2
  rw [h1]
/-- No ::. -/
theorem plong_plain (s : ByteArray) (w : World) (hs : s.size ≤ 100000) (hg : GloAt w) (A B : List UInt8) (hc : Lib.cut s.data.toList [58, 58] = (A, B, false)) :
    Calls Tryz.prog 32 #[.string s] w (FourR w (longP s.data.toList)) := by
  obtain ⟨r, hr⟩ : ∃ r, pgP s.data.toList = r := ⟨_, rfl⟩
  have HX : Hid (longP s.data.toList = full16 r) := Lib.hid (by unfold longP; rw [hc, hr]; rfl)
  have HC := Lib.hid (cut_is s w hs hg A B false hc)
  have HG := Lib.hid hg
  have HP : Hid (∀ W, GloAt W → Calls Tryz.prog 51 #[.string s] W (FourR W r)) := Lib.hid (fun W h => by have := pgroups_any s W hs h; rw [hr] at this; exact this)
  clear hc hr hg
  cases r with
  | none =>
    go_enter Tryz.func32, Tryz.ntmps32
    go_wp2_with (first | (go_at_call 47; refine HC.out.mono ?_; rintro e w2 ⟨rfl, hb2⟩; have HB2 := Lib.hid hb2; clear hb2) | (go_at_call 51; refine (HP.out _ (HG.out.below HB2.out)).mono ?_; rintro e w3 ⟨rfl, hb3⟩; simp only [Option.getD_none, Option.isSome_none]))
    go_ret2
    exact ⟨by rw [HX.out]; rfl, HB2.out.trans (hb3.mono HB2.out.size)⟩
  | some b =>
    by_cases h16 : b.length = 16
    · have e16 : ((b.length : Int) != 16) = false := by simp; omega
      have H16 := Lib.hid h16
      clear h16
      go_enter Tryz.func32, Tryz.ntmps32
      go_wp2_with (first | (go_at_call 47; refine HC.out.mono ?_; rintro e w2 ⟨rfl, hb2⟩; have HB2 := Lib.hid hb2; clear hb2) | (go_at_call 51; refine (HP.out _ (HG.out.below HB2.out)).mono ?_; rintro e w3 ⟨rfl, hb3⟩; simp only [Option.getD_some, Option.isSome_some]))
      go_ret2
      exact ⟨by rw [HX.out]; simp only [full16, if_pos H16.out]; rfl, HB2.out.trans (hb3.mono HB2.out.size)⟩
    · have e16 : ((b.length : Int) != 16) = true := by simp; omega
      have H16 := Lib.hid h16
      clear h16
      go_enter Tryz.func32, Tryz.ntmps32
      go_wp2_with (first | (go_at_call 47; refine HC.out.mono ?_; rintro e w2 ⟨rfl, hb2⟩; have HB2 := Lib.hid hb2; clear hb2) | (go_at_call 51; refine (HP.out _ (HG.out.below HB2.out)).mono ?_; rintro e w3 ⟨rfl, hb3⟩; simp only [Option.getD_some, Option.isSome_some]))
      go_ret2
      exact ⟨by rw [HX.out]; simp only [full16, if_neg H16.out]; rfl, HB2.out.trans (hb3.mono HB2.out.size)⟩
set_option maxHeartbeats 2000000 in
theorem plong_cut (s : ByteArray) (w : World) (hs : s.size ≤ 100000) (hg : GloAt w) (A B : List UInt8) (hc : Lib.cut s.data.toList [58, 58] = (A, B, true)) :
    Calls Tryz.prog 32 #[.string s] w (FourR w (longP s.data.toList)) := by
  have HC := Lib.hid (cut_is s w hs hg A B true hc)
  have hln := cut_len s.data.toList [58, 58]
  rw [hc] at hln
  have hsz : s.data.toList.length = s.size := rfl
  simp only [hsz] at hln
  have HA : Hid (A.length ≤ 100000) := Lib.hid (by omega)
  have HB : Hid (B.length ≤ 100000) := Lib.hid (by omega)
  have HG := Lib.hid hg
  obtain ⟨qa, hqa⟩ : ∃ q : ByteArray, (⟨A.toArray⟩ : ByteArray) = q := ⟨_, rfl⟩
  obtain ⟨qb, hqb⟩ : ∃ q : ByteArray, (⟨B.toArray⟩ : ByteArray) = q := ⟨_, rfl⟩
  rw [hqa, hqb] at HC
  by_cases hd : 46 ∈ A
  · have HX : Hid (longP s.data.toList = none) := Lib.hid (by unfold longP; rw [hc, if_pos rfl, if_pos hd])
    have HD : Hid (decide (46 ∈ (⟨A.toArray⟩ : ByteArray).data.toList) = true) := Lib.hid (by simpa using hd)
    rw [hqa] at HD
    clear hc hg hd hln hsz
    go_enter Tryz.func32, Tryz.ntmps32
    go_wp2_with (first | (go_at_call 47; refine HC.out.mono ?_; rintro e w2 ⟨rfl, hb2⟩; have HB2 := Lib.hid hb2; clear hb2) | (go_at_call 31; refine (contains_is _ _ _ _ HD.out).mono ?_; rintro e w3 ⟨rfl, rfl⟩))
    go_ret2
    exact ⟨by rw [HX.out]; rfl, HB2.out⟩
  · have HD : Hid (decide (46 ∈ (⟨A.toArray⟩ : ByteArray).data.toList) = false) := Lib.hid (by simpa using hd)
    obtain ⟨r1, h1⟩ : ∃ r, pgP A = r := ⟨_, rfl⟩
    obtain ⟨r2, h2⟩ : ∃ r, pgP B = r := ⟨_, rfl⟩
    have HX : Hid (longP s.data.toList = bothP r1 r2) := Lib.hid (by unfold longP; rw [hc, if_pos rfl, if_neg hd, h1, h2])
    obtain ⟨x1, hx1⟩ : ∃ q : ByteArray, (⟨(r1.getD []).toArray⟩ : ByteArray) = q := ⟨_, rfl⟩
    obtain ⟨x2, hx2⟩ : ∃ q : ByteArray, (⟨(r2.getD []).toArray⟩ : ByteArray) = q := ⟨_, rfl⟩
    obtain ⟨b1, hb1⟩ : ∃ b, r1.isSome = b := ⟨_, rfl⟩
    obtain ⟨b2, hb2⟩ : ∃ b, r2.isSome = b := ⟨_, rfl⟩
    have HP : Hid (∀ W q, GloAt W → ∀ x b, ((q = qa ∧ x = x1 ∧ b = b1) ∨ (q = qb ∧ x = x2 ∧ b = b2)) → Calls Tryz.prog 51 #[.string q] W fun e w' => e = .returned (.tuple #[.string x, .bool b]) ∧ Below W.heap.size W w') := Lib.hid (fun W q h x b hh => by
      rcases hh with ⟨rfl, rfl, rfl⟩ | ⟨rfl, rfl, rfl⟩
      · rw [← hx1, ← hb1, ← hqa]; exact pg_call A W HA.out h r1 h1
      · rw [← hx2, ← hb2, ← hqb]; exact pg_call B W HB.out h r2 h2)
    have hs1 : x1.size ≤ 22 := by
      rw [← hx1]
      cases r1 with
      | none => exact Nat.zero_le _
      | some a => have := pgP_len h1; show a.toArray.size ≤ _; simpa using this
    have hs2 : x2.size ≤ 22 := by
      rw [← hx2]
      cases r2 with
      | none => exact Nat.zero_le _
      | some a => have := pgP_len h2; show a.toArray.size ≤ _; simpa using this
    rw [hqa] at HD
    cases b1 with
    | false =>
      have HF : Hid (bothP r1 r2 = none) := Lib.hid (by cases r1 with
        | none => cases r2 <;> rfl
        | some a => cases hb1)
      clear hc hg hd hln hsz h1 h2 hqa hqb hx1 hx2 hb1 hb2
      go_enter Tryz.func32, Tryz.ntmps32
      go_wp2_with (first | (go_at_call 47; refine HC.out.mono ?_; rintro e w2 ⟨rfl, hb2⟩; have HB2 := Lib.hid hb2; clear hb2) | (go_at_call 31; refine (contains_is _ _ _ _ HD.out).mono ?_; rintro e w3 ⟨rfl, rfl⟩) | (go_at_call 51; refine (HP.out _ _ (HG.out.below HB2.out) _ _ (by first | exact .inl ⟨rfl, rfl, rfl⟩ | exact .inr ⟨rfl, rfl, rfl⟩)).mono ?_; rintro e w3 ⟨rfl, hb3⟩; have HB2 := Lib.hid (HB2.out.trans (hb3.mono HB2.out.size)); clear hb3))
      go_ret2
      exact ⟨by rw [HX.out, HF.out]; rfl, HB2.out⟩
    | true =>
      cases b2 with
      | false =>
        have HF : Hid (bothP r1 r2 = none) := Lib.hid (by cases r2 with
          | none => cases r1 <;> rfl
          | some a => cases hb2)
        clear hc hg hd hln hsz h1 h2 hqa hqb hx1 hx2 hb1 hb2
        go_enter Tryz.func32, Tryz.ntmps32
        go_wp2_with (first | (go_at_call 47; refine HC.out.mono ?_; rintro e w2 ⟨rfl, hb2⟩; have HB2 := Lib.hid hb2; clear hb2) | (go_at_call 31; refine (contains_is _ _ _ _ HD.out).mono ?_; rintro e w3 ⟨rfl, rfl⟩) | (go_at_call 51; refine (HP.out _ _ (HG.out.below HB2.out) _ _ (by first | exact .inl ⟨rfl, rfl, rfl⟩ | exact .inr ⟨rfl, rfl, rfl⟩)).mono ?_; rintro e w3 ⟨rfl, hb3⟩; have HB2 := Lib.hid (HB2.out.trans (hb3.mono HB2.out.size)); clear hb3))
        go_ret2
        exact ⟨by rw [HX.out, HF.out]; rfl, HB2.out⟩
      | true =>
        obtain ⟨a, rfl⟩ : ∃ a, r1 = some a := Option.isSome_iff_exists.1 hb1
        obtain ⟨b, rfl⟩ : ∃ a, r2 = some a := Option.isSome_iff_exists.1 hb2
        have hl1 : x1.size = a.length := by rw [← hx1]; show a.toArray.size = _; simp
        have hl2 : x2.size = b.length := by rw [← hx2]; show b.toArray.size = _; simp
        by_cases h14 : 14 < x1.size + x2.size
        · have HF : Hid (bothP (some a) (some b) = none) := Lib.hid (by unfold bothP; simp only; rw [if_pos (by omega)])
          clear hc hg hd hln hsz h1 h2 hqa hqb hx1 hx2 hb1 hb2 hl1 hl2
          go_enter Tryz.func32, Tryz.ntmps32
          go_wp2_with (first | (go_at_call 47; refine HC.out.mono ?_; rintro e w2 ⟨rfl, hb2⟩; have HB2 := Lib.hid hb2; clear hb2) | (go_at_call 31; refine (contains_is _ _ _ _ HD.out).mono ?_; rintro e w3 ⟨rfl, rfl⟩) | (go_at_call 51; refine (HP.out _ _ (HG.out.below HB2.out) _ _ (by first | exact .inl ⟨rfl, rfl, rfl⟩ | exact .inr ⟨rfl, rfl, rfl⟩)).mono ?_; rintro e w3 ⟨rfl, hb3⟩; have HB2 := Lib.hid (HB2.out.trans (hb3.mono HB2.out.size)); clear hb3))
          go_ret2
          exact ⟨by rw [HX.out, HF.out]; rfl, HB2.out⟩
        · obtain ⟨z, hz⟩ : ∃ z, 16 - x1.size - x2.size = z := ⟨_, rfl⟩
          have HF : Hid (bothP (some a) (some b) = some (a ++ List.replicate z 0 ++ b)) := Lib.hid (by unfold bothP; simp only; rw [if_neg (by omega), ← hl1, ← hl2, hz])
          have HX1 := Lib.hid hx1
          have HX2 := Lib.hid hx2
          have hzi : (16 : Int) - x1.size - x2.size = z := by omega
          have hz2 : 2 ≤ z := by omega
          have hz16 : z ≤ 16 := by omega
          obtain ⟨x3, hx3⟩ : ∃ q : ByteArray, (⟨(List.replicate z (0 : UInt8)).toArray⟩ : ByteArray) = q := ⟨_, rfl⟩
          have HX3 := Lib.hid hx3
          have hs3 : x3.size ≤ 22 := by rw [← hx3]; show (List.replicate z (0 : UInt8)).toArray.size ≤ _; simp; omega
          have HZ : Hid (∀ W, Calls Tryz.prog 52 #[.string ⟨#[0]⟩, .int .i64 z] W fun e w' => e = .returned (.string x3) ∧ Below W.heap.size W w') := Lib.hid (fun W => by rw [← hx3]; exact strings_zero z W hz16)
          clear hc hg hd hln hsz h1 h2 hqa hqb hx1 hx2 hb1 hb2 hl1 hl2 hz h14 hx3
          go_enter Tryz.func32, Tryz.ntmps32
          go_wp2_with (first | (go_at_call 47; refine HC.out.mono ?_; rintro e w2 ⟨rfl, hb2⟩; have HB2 := Lib.hid hb2; clear hb2) | (go_at_call 31; refine (contains_is _ _ _ _ HD.out).mono ?_; rintro e w3 ⟨rfl, rfl⟩) | (go_at_call 51; refine (HP.out _ _ (HG.out.below HB2.out) _ _ (by first | exact .inl ⟨rfl, rfl, rfl⟩ | exact .inr ⟨rfl, rfl, rfl⟩)).mono ?_; rintro e w3 ⟨rfl, hb3⟩; have HB2 := Lib.hid (HB2.out.trans (hb3.mono HB2.out.size)); clear hb3) | (go_at_call 52; refine (HZ.out _).mono ?_; rintro e w5 ⟨rfl, hb5⟩))
          go_ret2
          exact ⟨by rw [HX.out, HF.out, ← HX1.out, ← HX2.out, ← HX3.out]; simp only [Option.getD_some, Option.isSome_some, ← join_str]; rfl, HB2.out.trans (hb5.mono HB2.out.size)⟩
theorem paddr_any (s : ByteArray) (w : World) (hs : s.size ≤ 100000) (hg : GloAt w) :
    Calls Tryz.prog 20 #[.string s] w (FourR w (parseP s.data.toList)) := by
  rw [← addrP_parse]
  by_cases h : 58 ∈ s.data.toList
  · have HX : Hid (addrP s.data.toList = longP s.data.toList) := Lib.hid (by unfold addrP; rw [if_pos h])
    have HD : Hid (decide (58 ∈ s.data.toList) = true) := Lib.hid (by simpa using h)
    have HL : Hid (Calls Tryz.prog 32 #[.string s] w (FourR w (longP s.data.toList))) := Lib.hid (by
      obtain ⟨A, B, b, hc⟩ : ∃ A B b, Lib.cut s.data.toList [58, 58] = (A, B, b) := ⟨_, _, _, rfl⟩
      cases b with
      | false => exact plong_plain s w hs hg A B hc
      | true => exact plong_cut s w hs hg A B hc)
    rw [HX.out]
    generalize longP s.data.toList = R at *
    clear h hg
    go_enter Tryz.func20, Tryz.ntmps20
    go_wp2_with (first | (go_at_call 31; refine (contains_is _ _ _ _ HD.out).mono ?_; rintro e w3 ⟨rfl, rfl⟩) | (go_at_call 32; refine HL.out.mono ?_; rintro e w3 ⟨rfl, hb3⟩))
    go_ret2
    exact ⟨rfl, hb3⟩
  · have HX : Hid (addrP s.data.toList = fourP (splitL 46 s.data.toList)) := Lib.hid (by unfold addrP; rw [if_neg h])
    have HD : Hid (decide (58 ∈ s.data.toList) = false) := Lib.hid (by simpa using h)
    have HL := Lib.hid (pshort_any s w hs hg)
    rw [HX.out]
    generalize fourP (splitL 46 s.data.toList) = R at *
    clear h hg
    go_enter Tryz.func20, Tryz.ntmps20
    go_wp2_with (first | (go_at_call 31; refine (contains_is _ _ _ _ HD.out).mono ?_; rintro e w3 ⟨rfl, rfl⟩) | (go_at_call 33; refine HL.out.mono ?_; rintro e w3 ⟨rfl, hb3⟩))
    go_ret2
    exact ⟨rfl, hb3⟩
end Go.Proofs.YtdfapebggghfdaaGreatDoor

namespace Go.Tx
open Go.RowKit Go.Mp
theorem Out.toBelow {L B : Nat} {w w' : World} {p m1 m2 : Nat} (h : Out L w w' p m1 m2) (hL : B ≤ L) (h1 : B ≤ p) (h2 : B ≤ m1) (h3 : B ≤ m2) : Below B w w' :=
  ⟨h.os, h.tape, h.output, h.size, fun j hj => h.same j (by omega) (by omega) (by omega) (by omega)⟩
theorem cell_same {w w' : World} {b k : Nat} (h : w'.heap[b]? = w.heap[b]?) : w'.cell? ⟨b, k, none⟩ = w.cell? ⟨b, k, none⟩ := World.cell?_of_block (a := ⟨b, k, none⟩) h
/-- The words of a line, read at a later world. -/
theorem words_at {B : Nat} {w w' : World} {pw : Option Addr} {m : Nat} {ws : List (List UInt8)} (h : Strs B w (.slice pw m m) ws) (hm : m = ws.length) (hsame : ∀ j, B ≤ j → j < w.heap.size → w'.heap[j]? = w.heap[j]?) (hs : w.heap.size ≤ w'.heap.size) (h0 : ws ≠ []) :
    ∃ A, pw = some ⟨A, 0, none⟩ ∧ A < w'.heap.size ∧ ∀ (j : Nat) l, ws[j]? = some l → w'.cell? ⟨A, j, none⟩ = some (.string ⟨l.toArray⟩) := by
  rcases h with ⟨h, h2⟩ | ⟨A, h1, h2, h3⟩
  · exact absurd h2 h0
  · cases h1
    have hlt := (World.ownsRow.lt h3 A rfl).2
    refine ⟨A, rfl, by omega, fun j l hj => ?_⟩
    have hjl := (List.getElem?_eq_some_iff.1 hj).1
    rw [cell_same (hsame A h2 hlt), World.ownsRow.cellAt h3 j (by omega), List.getElem?_map, hj]
    rfl
theorem txAt_drop {w : World} {A : Nat} {ws : List (List UInt8)} (h : ∀ (j : Nat) l, ws[j]? = some l → w.cell? ⟨A, j, none⟩ = some (.string ⟨l.toArray⟩)) (hA : A < w.heap.size) : TxAt w (some ((⟨A, 0, none⟩ : Addr).add 1)) (ws.drop 1) := fun j l hj => by
  refine ⟨_, rfl, by rw [add_block]; exact hA, ?_⟩
  have ha : ((⟨A, 0, none⟩ : Addr).add 1).add j = ⟨A, 1 + j, none⟩ := by rw [Addr.add_add]; unfold Addr.add; split <;> simp_all
  rw [ha]
  rw [List.getElem?_drop] at hj
  exact h (1 + j) l hj
theorem rowOf_cons_none {x : List UInt8} {r : List (List UInt8)} (h : parseP x = none) : rowOf (x :: r) = none := by simp [rowOf, h]
theorem rowOf_cons_some {x a : List UInt8} {r : List (List UInt8)} (h : parseP x = some a) : rowOf (x :: r) = if r.filterMap nm = [] then none else some (a, r.filterMap nm) := by simp only [rowOf, h]
theorem addsOf_fun_snoc (R : List (List UInt8 × List (List UInt8))) (a : List UInt8) (f : List (List UInt8)) : addsOf (R ++ [(a, f)]) = fun k => putN a k (addsOf R k) f := funext fun k => addsOf_snoc R (a, f) k
theorem namesAt_fun_snoc (R : List (List UInt8 × List (List UInt8))) (a : List UInt8) (f : List (List UInt8)) : namesAt (R ++ [(a, f)]) = setC (namesAt R) a f := funext fun k => by
  rw [namesAt_snoc]; rfl
theorem rowsOf_few (T : List (Nat × List (List UInt8))) : (rowsOf T).length ≤ T.length := List.length_filterMap_le _ _
theorem TB.start {w : World} {p m1 m2 : Nat} (hp : p < w.heap.size) (h1 : m1 < w.heap.size) (h2 : m2 < w.heap.size) (n1 : p ≠ m1) (n2 : p ≠ m2) (n12 : m1 ≠ m2)
    (hb : w.heap[p]? = some (.cells #[.int .i64 0, .map (some m1), .map (some m2)] 43 (0, 0))) (hf : MapAt w m1 fun _ => none) (hg : MapAt w m2 fun _ => none) :
    TB w.heap.size w p m1 m2 0 (addsOf []) (namesAt []) (fun _ => none) (fun _ => none) where
  pl := hp
  l1 := h1
  l2 := h2
  n1 := n1
  n2 := n2
  n12 := n12
  size := Nat.le_refl _
  blk := hb
  f := hf
  g := hg
  hF := fun k => World.ownsRow_nil _ _ _ _
  hG := fun k => rfl
  dF := fun k k' b h => by cases h
  dG := fun k k' b h => by cases h
theorem TB.apart {L : Nat} {w : World} {p m1 m2 n : Nat} {A : List UInt8 → List (List UInt8)} {C : List UInt8 → Option (List (List UInt8))} {F G : ByteArray → Option Value} (h : TB L w p m1 m2 n A C F G) {w' : World} {v : Value} {f : List (List UInt8)} (hv : StrC w.heap.size w' v f) : Apart F v := fun b hb k e => by
  have h1 := (h.lt e).2
  have h2 := (World.ownsRow.lt hv b hb).1
  omega
theorem heap_push_lt (w : World) (o : Obj) (j : Nat) (h : j < w.heap.size) : (w.alloc o).heap[j]? = w.heap[j]? := by
  show (w.heap.push o)[j]? = _
  rw [Array.getElem?_push, if_neg (by omega)]
theorem start_at (w w2 : World) (hb : Below (((w.alloc (.map #[] 0)).alloc (.map #[] 0)).alloc (.cells #[.int .i64 0, .map (some w.heap.size), .map (some (w.heap.size + 1))] 43)).heap.size (((w.alloc (.map #[] 0)).alloc (.map #[] 0)).alloc (.cells #[.int .i64 0, .map (some w.heap.size), .map (some (w.heap.size + 1))] 43)) w2) :
    TB w2.heap.size w2 (w.heap.size + 1 + 1) w.heap.size (w.heap.size + 1) 0 (addsOf []) (namesAt []) (fun _ => none) (fun _ => none) ∧ w.heap.size + 3 ≤ w2.heap.size ∧ Below w.heap.size w w2 := by
  have s1 : (w.alloc (.map #[] 0)).heap.size = w.heap.size + 1 := by show (w.heap.push _).size = _; simp
  have s2 : ((w.alloc (.map #[] 0)).alloc (.map #[] 0)).heap.size = w.heap.size + 1 + 1 := by show ((w.heap.push _).push _).size = _; simp
  generalize hw1 : (((w.alloc (.map #[] 0)).alloc (.map #[] 0)).alloc (.cells #[.int .i64 0, .map (some w.heap.size), .map (some (w.heap.size + 1))] 43)) = w1 at *
  have s3 : w1.heap.size = w.heap.size + 3 := by rw [← hw1]; show (((w.heap.push _).push _).push _).size = _; simp
  have e1 : w1.heap[w.heap.size]? = some (.map #[] 0) := by
    rw [← hw1, heap_push_lt _ _ _ (by omega), heap_push_lt _ _ _ (by omega)]; exact heap_alloc_new w _
  have e2 : w1.heap[w.heap.size + 1]? = some (.map #[] 0) := by
    rw [← hw1, heap_push_lt _ _ _ (by omega)]
    have := heap_alloc_new (w.alloc (.map #[] 0)) (.map #[] 0)
    rw [s1] at this; exact this
  have e3 : w1.heap[w.heap.size + 1 + 1]? = some (.cells #[.int .i64 0, .map (some w.heap.size), .map (some (w.heap.size + 1))] 43 (0, 0)) := by
    rw [← hw1]
    have := heap_alloc_new ((w.alloc (.map #[] 0)).alloc (.map #[] 0)) (.cells #[.int .i64 0, .map (some w.heap.size), .map (some (w.heap.size + 1))] 43)
    rw [s2] at this; exact this
  have hz := hb.size
  refine ⟨TB.start (by omega) (by omega) (by omega) (by omega) (by omega) (by omega) (by rw [hb.block _ (by omega)]; exact e3) ⟨#[], 0, by rw [hb.block _ (by omega)]; exact e1, (fun e he => by cases he), fun _ => rfl⟩ ⟨#[], 0, by rw [hb.block _ (by omega)]; exact e2, (fun e he => by cases he), fun _ => rfl⟩, by omega, ?_⟩
  have hb0 : Below w.heap.size w w1 := by
    rw [← hw1]
    exact (((Below.refl _ w).alloc (Nat.le_refl _) _).alloc (by omega) _).alloc (by omega) _
  exact hb0.trans (hb.mono (by omega))
theorem lower {B B' : Nat} {w : World} {v : Value} {f : List (List UInt8)} (h : StrC B w v f) (hB : B' ≤ B) : StrC B' w v f := own_base h hB
end Go.Tx
namespace Go.Proofs.YtdfapebggghfdaaGreatDoor
open Go.RowKit Go.Lib Go.Tx Go.Mp
/-- A table that is read: where it lies, what it holds. -/
def Tab (B : Nat) (w : World) (p : Nat) (R : List (List UInt8 × List (List UInt8))) : Prop :=
  ∃ L m1 m2 F G, B ≤ p ∧ B ≤ L ∧ TB L w p m1 m2 R.length (addsOf R) (namesAt R) F G
theorem Tab.below {B p : Nat} {w w' : World} {R : List (List UInt8 × List (List UInt8))} (h : Tab B w p R) (hb : Below w.heap.size w w') : Tab B w' p R := by
  obtain ⟨L, m1, m2, F, G, h1, h2, h3⟩ := h
  exact ⟨L, m1, m2, F, G, h1, h2, h3.below hb⟩
set_option maxHeartbeats 2000000 in
set_option maxRecDepth 100000 in
theorem parse_core (a : Option Addr) (n c : Nat) (T : List (Nat × List (List UInt8))) (w : World) (hfine : ∀ t ∈ T, FineL t.2) (hfew2 : T.length ≤ 100001) (hlines : ∀ W, Below w.heap.size w W → Calls Tryz.prog 19 #[.slice a n c] W (LinesR W T)) (hg : GloAt w) (hm : MaxAt w) :
    Calls Tryz.prog 10 #[.slice a n c] w fun e w' => ∃ p, e = .returned (.pointer (some ⟨p, 0, none⟩)) ∧ Tab w.heap.size w' p (rowsOf T) ∧ Below w.heap.size w w' := by
  have HLn := Lib.hid hlines
  have HG := Lib.hid hg
  have HM := Lib.hid hm
  have HFine := Lib.hid hfine
  clear hg hm hlines hfine
  have hmm := @run_makeMap Tryz.prog
  go_enter Tryz.func10, Tryz.ntmps10
  go_wp2_with (go_at_call 19; refine (HLn.out _ ((((Below.refl _ w).alloc (Nat.le_refl _) _).alloc (by show w.heap.size ≤ (w.heap.push _).size; simp) _).alloc (by show w.heap.size ≤ ((w.heap.push _).push _).size; simp; omega) _)).mono ?_; rintro e w2 ⟨v, rfl, hT, hb2⟩; obtain ⟨pT, cT, rfl⟩ := hT.shape)
  obtain ⟨hst, hs3, hb02⟩ := start_at w w2 hb2
  have HT := Lib.hid hT
  have HSt := Lib.hid hst
  have HB1 := Lib.hid hb2
  have hB1s : (((w.alloc (.map #[] 0)).alloc (.map #[] 0)).alloc (.cells #[.int .i64 0, .map (some w.heap.size), .map (some (w.heap.size + 1))] 43)).heap.size = w.heap.size + 3 := by show (((w.heap.push _).push _).push _).size = _; simp
  rw [hB1s] at HT
  clear hT hst hb2 hB1s
  go_loopw [16] (fun i wr => ∃ (k : Nat) (FF GG : ByteArray → Option Value), k ≤ T.length ∧ i = .int .i64 k ∧ TB w2.heap.size wr (w.heap.size + 1 + 1) w.heap.size (w.heap.size + 1) (rowsOf (T.take k)).length (addsOf (rowsOf (T.take k))) (namesAt (rowsOf (T.take k))) FF GG ∧ Out w2.heap.size w2 wr (w.heap.size + 1 + 1) w.heap.size (w.heap.size + 1)) (fun i _ => T.length - (intOf i).toNat)
  case atStart => exact ⟨0, _, _, Nat.zero_le _, rfl, HSt.out, Out.refl _ _ _ _ _⟩
  case round =>
    obtain ⟨k, FF, GG, hk, rfl, hTB, hOut⟩ := hrel
    by_cases hlt : k < T.length
    · obtain ⟨⟨no, ws⟩, hx⟩ : ∃ x, T[k]? = some x := ⟨_, List.getElem?_eq_getElem hlt⟩
      have hf := HFine.out (no, ws) (List.mem_of_getElem? hx)
      obtain ⟨g, cap, e, hcap, hcm, hBg, hrd⟩ := HT.out.read (by omega)
      cases e
      obtain ⟨hc0, pw, hc1, hstr⟩ := hrd k no ws hx
      have hgl : g < w2.heap.size := by
        unfold World.cell? at hc0
        split at hc0
        · rename_i hh; exact (Array.getElem?_eq_some_iff.1 hh).1
        · cases hc0
      have hgs : wr.heap[g]? = w2.heap[g]? := hOut.same g hgl (by omega) (by omega) (by omega)
      have hd0 : wr.cell? ⟨g, k * 2, none⟩ = some (.int .i64 (no : Int)) := by rw [Nat.mul_comm, cell_same hgs]; exact hc0
      have hd1 : wr.cell? ⟨g, k * 2 + 1, none⟩ = some (.slice pw ws.length ws.length) := by rw [Nat.mul_comm, cell_same hgs]; exact hc1
      obtain ⟨A, rfl, hAl, hwd⟩ := words_at hstr rfl (w' := wr) (fun j h1 h2 => hOut.same j h2 (by omega) (by omega) (by omega)) hOut.size hf.ne
      have hbw : Below w.heap.size w wr := hb02.trans (hOut.toBelow (by omega) (by omega) (Nat.le_refl _) (by omega))
      have HTk := Lib.hid (takeH hx)
      have HTB := Lib.hid hTB
      have HWd := Lib.hid hwd
      have HOut := Lib.hid hOut
      have hne := hf.ne
      have hfew := hf.few
      have HWz := Lib.hid hf.word
      clear hc0 hc1 hrd hstr hwd hTB hx hf
      obtain ⟨x, r, rfl⟩ : ∃ x r, ws = x :: r := by cases ws with | nil => exact absurd rfl hne | cons x r => exact ⟨x, r, rfl⟩
      have hcx := HWd.out 0 x rfl
      have hxz : x.length ≤ 512 := HWz.out x (by simp)
      have hbW : ∀ o, Below w.heap.size w (wr.alloc o) := fun o => hbw.alloc hbw.size o
      have HPA : Hid (∀ o, Calls Tryz.prog 20 #[.string ⟨x.toArray⟩] (wr.alloc o) (FourR (wr.alloc o) (parseP x))) := Lib.hid (fun o => paddr_any ⟨x.toArray⟩ (wr.alloc o) (by show x.toArray.size ≤ 100000; simp; omega) (HG.out.below (hbW o)))
      unfold FourR at HPA
      have HBA : ∀ o, Below wr.heap.size wr (wr.alloc o) := fun o => (Below.refl _ wr).alloc (Nat.le_refl _) o
      have HBa := Lib.hid HBA
      have HBw := Lib.hid hbw
      have HStep : Hid (rowsOf (T.take (k + 1)) = rowsOf (T.take k) ++ (rowOf (x :: r)).toList) := Lib.hid (by rw [HTk.out, rowsOf_snoc])
      clear HBA hbW
      cases hpa : parseP x with
      | none =>
        rw [hpa] at HPA
        have HNo : Hid (rowsOf (T.take (k + 1)) = rowsOf (T.take k)) := Lib.hid (by rw [HStep.out, rowOf_cons_none hpa]; simp)
        clear hpa HStep
        go_wp2_with (go_at_call 20; refine (HPA.out _).mono ?_; rintro e w5 ⟨rfl, hb5⟩)
        go_roundw
        case rel =>
          have hb := (HBa.out _).trans (hb5.mono (HBa.out _).size)
          exact ⟨k + 1, FF, GG, hlt, by go_num, by rw [HNo.out]; exact HTB.out.below hb, HOut.out.below HTB.out.size hb⟩
        case measure => simp [intOf]; omega
      | some pa =>
        rw [hpa] at HPA
        have hrl : r.length ≤ 512 := by simp at hfew; omega
        obtain ⟨a', ha', HTx⟩ : ∃ a' : Option Addr, (∀ W : World, (Instr.slice 32 (.slice (some ⟨A, 0, none⟩) (r.length + 1) (r.length + 1)) (some (.int .i64 1)) none none).run Tryz.prog W = .ok (.slice a' r.length r.length) W) ∧ Hid (TxAt wr a' r) := by
          have hel : Tryz.prog.elem 32 = 9 := by kernel_rfl
          refine ⟨if r.length = 0 then some ⟨A, 0, none⟩ else some ((⟨A, 0, none⟩ : Addr).add 1), fun W => ?_, Lib.hid ?_⟩
          · have := run_slice_l (P := Tryz.prog) (w := W) 32 (some ⟨A, 0, none⟩) (r.length + 1) (r.length + 1) (by rw [hel]; exact Tryz.underlying32) .i64 1 (by omega) (by omega)
            rw [this, hel, Tryz.sizeOf9]
            simp only [Result.andThen_ok, sliced]
            by_cases h0 : r.length = 0
            · rw [if_pos (by rw [h0]; rfl), if_pos h0, h0]; rfl
            · rw [if_neg (by show ¬ r.length + 1 = 1; omega), if_neg h0]
              rfl
          · intro j l hj
            have h0 : ¬ r.length = 0 := by have := (List.getElem?_eq_some_iff.1 hj).1; omega
            rw [if_neg h0]
            exact txAt_drop HWd.out hAl j l hj
        have HCl : Hid (∀ W, Below wr.heap.size wr W → Calls Tryz.prog 21 #[.slice a' r.length r.length] W fun e w' => ∃ v, e = .returned v ∧ StrC W.heap.size w' v (r.filterMap nm) ∧ Below W.heap.size W w') := Lib.hid (fun W hW => cleaned_any a' r.length r.length r W (HTx.out.below hW) rfl (Nat.le_refl _) (by omega) (by omega) (fun y hy => by have := HWz.out y (by simp [hy]); omega) (HM.out.below (HBw.out.trans (hW.mono HBw.out.size))))
        have hfl : (r.filterMap nm).length ≤ r.length := List.length_filterMap_le _ _
        by_cases hem : r.filterMap nm = []
        · have HNo : Hid (rowsOf (T.take (k + 1)) = rowsOf (T.take k)) := Lib.hid (by rw [HStep.out, rowOf_cons_some hpa, if_pos hem]; simp)
          clear hpa HStep hfl
          rw [hem] at HCl
          go_wp2_with (first | (go_at_call 20; refine (HPA.out _).mono ?_; rintro e w5 ⟨rfl, hb5⟩; have hb := (HBa.out _).trans (hb5.mono (HBa.out _).size); have hcl : w5.cell? ⟨wr.heap.size, 1, none⟩ = some (.slice (some ⟨A, 0, none⟩) (r.length + 1) (r.length + 1)) := (by rw [hb5.cell (p := ⟨wr.heap.size, 1, none⟩) (by show wr.heap.size < (Array.push _ _).size; simp)]; exact World.cell?_alloc_new ..)) | (go_at_call 21; refine (HCl.out _ hb).mono ?_; rintro e w6 ⟨v, rfl, hv6, hb6⟩; obtain ⟨p6, c6, rfl⟩ := hv6.shape))
          go_roundw
          case rel =>
            have hb2 := hb.trans (hb6.mono hb.size)
            exact ⟨k + 1, FF, GG, hlt, by go_num, by rw [HNo.out]; exact HTB.out.below hb2, HOut.out.below HTB.out.size hb2⟩
          case measure => simp [intOf]; omega
        · have HYes : Hid (rowsOf (T.take (k + 1)) = rowsOf (T.take k) ++ [(pa, r.filterMap nm)]) := Lib.hid (by rw [HStep.out, rowOf_cons_some hpa, if_neg hem]; simp)
          have hpos : 0 < (r.filterMap nm).length := List.length_pos_iff.2 hem
          have hpos' : ((r.filterMap nm).length : Int) > 0 := by omega
          have hpos2 : (0 : Int) < ((r.filterMap nm).length : Int) := by omega
          have hrn : (rowsOf (T.take k)).length ≤ 1000000 := by
            have h1 := rowsOf_few (T.take k)
            have h2 := List.length_take_le k T
            omega
          clear hpa HStep hem
          generalize r.filterMap nm = f at *
          go_wp2_with (first | (go_at_call 20; refine (HPA.out _).mono ?_; rintro e w5 ⟨rfl, hb5⟩; have hb := (HBa.out _).trans (hb5.mono (HBa.out _).size); have hcl : w5.cell? ⟨wr.heap.size, 1, none⟩ = some (.slice (some ⟨A, 0, none⟩) (r.length + 1) (r.length + 1)) := (by rw [hb5.cell (p := ⟨wr.heap.size, 1, none⟩) (by show wr.heap.size < (Array.push _ _).size; simp)]; exact World.cell?_alloc_new ..)) | (go_at_call 21; refine (HCl.out _ hb).mono ?_; rintro e w6 ⟨v, rfl, hv6, hb6⟩; obtain ⟨p6, c6, rfl⟩ := hv6.shape; have hb2 := hb.trans (hb6.mono hb.size)) | (go_at_call 22; refine (add_any _ _ _ _ _ _ _ FF GG _ ⟨pa.toArray⟩ _ f (HTB.out.below hb2) (lower hv6 (Nat.le_trans HTB.out.size hb.size)) ((HTB.out.below hb).apart hv6) hrn (fun q => addsOf_len _ q) (by omega)).mono ?_; rintro e w7 ⟨rfl, ⟨F7, G7, ht7⟩, ho7⟩))
          go_roundw
          case rel =>
            refine ⟨k + 1, F7, G7, hlt, by go_num, ?_, (HOut.out.below HTB.out.size hb2).trans ho7⟩
            rw [HYes.out, addsOf_fun_snoc, namesAt_fun_snoc, List.length_append]
            exact ht7
          case measure => simp [intOf]; omega
    · obtain rfl : k = T.length := by omega
      rw [List.take_length] at hTB
      have HTB := Lib.hid hTB
      clear hTB
      go_wp2
      go_ret
      exact ⟨_, rfl, ⟨_, _, _, _, _, by omega, by omega, HTB.out⟩, hb02.trans (hOut.toBelow (by omega) (by omega) (Nat.le_refl _) (by omega))⟩
theorem parse_any (a : Option Addr) (n c : Nat) (l : List UInt8) (w : World) (h : BA w a n c l) (hold : ∀ x, a = some x → x.block < w.heap.size) (hn : n ≤ 100000) (hg : GloAt w) (hm : MaxAt w) :
    Calls Tryz.prog 10 #[.slice a n c] w fun e w' => ∃ p, e = .returned (.pointer (some ⟨p, 0, none⟩)) ∧ Tab w.heap.size w' p (rowsOf (toldG 1 [] l)) ∧ Below w.heap.size w w' := by
  have hlen := h.len
  obtain ⟨hfine, hfew⟩ := toldG_fine l 1 []
  exact parse_core a n c (toldG 1 [] l) w hfine (by omega) (fun W (hb : Below w.heap.size w W) => lines_any a n c l W (h.below hb hold) (fun x hx => Nat.lt_of_lt_of_le (hold x hx) hb.size) (by omega)) hg hm
end Go.Proofs.YtdfapebggghfdaaGreatDoor

namespace Go.Tx
open Go.RowKit Go.Mp
/-- The addresses of a name. -/
def byNm (R : List (List UInt8 × List (List UInt8))) (l : List UInt8) : List (List UInt8) := if nameB (bare l) = true then addsOf R ((bare l).map low) else []
def byA (R : List (List UInt8 × List (List UInt8))) (a : List UInt8) : List (List UInt8) := (namesAt R a).getD []
end Go.Tx
namespace Go.Proofs.YtdfapebggghfdaaGreatDoor
open Go.RowKit Go.Lib Go.Tx Go.Mp
theorem clone_any {B : Nat} {v : Value} {T : List (List UInt8)} (w : World) (h : StrC B w v T) (hl : T.length ≤ 1000000) :
    Calls Tryz.prog 27 #[v] w fun e w' => ∃ v', e = .returned v' ∧ StrC w.heap.size w' v' T ∧ Below w.heap.size w w' := by
  obtain ⟨p, c, rfl, hc, hm, hr⟩ := h.read
  cases p with
  | none =>
    have h0 : T = [] := by
      cases T with
      | nil => rfl
      | cons x T => obtain ⟨g, e, _⟩ := hr 0 x rfl; cases e
    subst h0
    refine (Tryz.slices_Clone_string_nil 0 c w).mono ?_
    rintro e w' ⟨rfl, rfl⟩
    exact ⟨_, rfl, World.ownsRow_nil _ _ _ _, Below.refl _ _⟩
  | some ad =>
    by_cases h0 : T = []
    · subst h0
      refine (Tryz.slices_Clone_string_zero ad c w).mono ?_
      rintro e w' ⟨v', rfl, h1, _, h2⟩
      exact ⟨v', rfl, h1, h2⟩
    · have hpos : 0 < T.length := List.length_pos_iff.2 h0
      obtain ⟨g, e, hg, _⟩ := hr 0 T[0] (List.getElem?_eq_getElem hpos)
      cases e
      have hz : ((T.map fun l => (⟨l.toArray⟩ : ByteArray)).take T.length).map Value.string = T.map strV := by
        rw [List.take_of_length_le (by simp), List.map_map]; rfl
      refine (Tryz.slices_Clone_string g 0 T.length c (T.map fun l => ⟨l.toArray⟩) w (by simp) (by omega) fun j hj => ?_).mono ?_
      · rw [List.length_map] at hj
        obtain ⟨g', e, _, h3⟩ := hr j T[j] (List.getElem?_eq_getElem hj)
        cases e
        rw [Nat.zero_add, h3, List.getD_eq_getElem?_getD, List.getElem?_map, List.getElem?_eq_getElem hj]
        rfl
      · rintro e w' ⟨v', rfl, h1, _, h2⟩
        rw [hz] at h1
        exact ⟨v', rfl, h1, h2⟩
def TextsR (w : World) (T : List (List UInt8)) (e : Ending) (w' : World) : Prop := ∃ v, e = .returned v ∧ StrC w.heap.size w' v T ∧ Below w.heap.size w w'
set_option maxHeartbeats 1000000 in
set_option maxRecDepth 100000 in
theorem byName_any {B p : Nat} {R : List (List UInt8 × List (List UInt8))} (s : ByteArray) (w : World) (h : Tab B w p R) (hs : s.size ≤ maxLen) (hm : MaxAt w) :
    Calls Tryz.prog 14 #[.pointer (some ⟨p, 0, none⟩), .string s] w (TextsR w (byNm R s.data.toList)) := by
  have HC := Lib.hid (clean_any s w hs hm)
  have HT := Lib.hid h
  clear h
  rcases cleanV_cases s.data.toList with ⟨hnb, hcv⟩ | ⟨hnb, hcv⟩
  · have HX : Hid (byNm R s.data.toList = addsOf R ((bare s.data.toList).map low)) := Lib.hid (by unfold byNm; rw [if_pos hnb])
    rw [hcv] at HC
    generalize (bare s.data.toList).map low = q at *
    clear hcv hnb hs hm
    go_enter Tryz.func14, Tryz.ntmps14
    go_upto_region 2 with (go_at_call 26; refine HC.out.mono ?_; rintro e w2 ⟨rfl, hb⟩)
    obtain ⟨L, m1, m2, F, G, h1, h2, h3⟩ := HT.out.below hb
    obtain ⟨d0, d1, d2, _⟩ := h3.cells
    have hAk := h3.hF q
    obtain ⟨pa, ca, hva⟩ := hAk.shape
    rw [hva] at hAk
    have hlk : (Instr.lookup 41 (.map (some m1)) (.string ⟨q.toArray⟩) false).run Tryz.prog w2 = .ok (.slice pa (addsOf R q).length ca) w2 := by
      rw [MapAt.lookup h3.f Tryz.underlying41 Tryz.underlying9 (zeroS w2) ⟨q.toArray⟩]
      exact congrArg (fun z => Result.ok z w2) hva
    have hl32 := addsOf_len R q
    have HAk := Lib.hid hAk
    clear h3 hAk hva
    go_wp2_with (go_at_call 27; refine (clone_any _ HAk.out (by omega)).mono ?_; rintro e w3 ⟨v, rfl, hv, hb3⟩)
    go_ret
    exact ⟨_, rfl, by rw [HX.out]; exact lower hv hb.size, hb.trans (hb3.mono hb.size)⟩
  · have HX : Hid (byNm R s.data.toList = []) := Lib.hid (by unfold byNm; rw [if_neg (by rw [hnb]; decide)])
    rw [hcv] at HC
    clear hcv hnb hs hm
    go_enter Tryz.func14, Tryz.ntmps14
    go_wp2_with (go_at_call 26; refine HC.out.mono ?_; rintro e w2 ⟨rfl, hb⟩)
    go_ret
    exact ⟨_, rfl, by rw [HX.out]; exact World.ownsRow_nil _ _ _ _, hb⟩
set_option maxHeartbeats 1000000 in
set_option maxRecDepth 100000 in
theorem byAddr_any {B p : Nat} {R : List (List UInt8 × List (List UInt8))} (s : ByteArray) (w : World) (h : Tab B w p R) (hf : (byA R s.data.toList).length ≤ 1000000) :
    Calls Tryz.prog 16 #[.pointer (some ⟨p, 0, none⟩), .string s] w (TextsR w (byA R s.data.toList)) := by
  obtain ⟨L, m1, m2, F, G, h1, h2, h3⟩ := h
  obtain ⟨d0, d1, d2, _⟩ := h3.cells
  have hG := h3.hG s.data.toList
  rw [bk s] at hG
  have hv : ∃ v, (G s).getD nilV = v ∧ StrC L w v (byA R s.data.toList) := by
    unfold byA
    cases hc : namesAt R s.data.toList with
    | none =>
      rw [hc] at hG
      simp only at hG
      rw [hG]
      exact ⟨_, rfl, World.ownsRow_nil _ _ _ _⟩
    | some ws =>
      rw [hc] at hG
      obtain ⟨v, e, h⟩ := hG
      rw [e]
      exact ⟨v, rfl, h⟩
  obtain ⟨v, hva, hv⟩ := hv
  have hlk : (Instr.lookup 41 (.map (some m2)) (.string s) false).run Tryz.prog w = .ok v w := by
    rw [MapAt.lookup h3.g Tryz.underlying41 Tryz.underlying9 (zeroS w) s]
    exact congrArg (fun z => Result.ok z w) hva
  have HV := Lib.hid hv
  clear h3 hG hva hv
  go_enter Tryz.func16, Tryz.ntmps16
  go_wp2_with (go_at_call 27; refine (clone_any _ HV.out hf).mono ?_; rintro e w3 ⟨v, rfl, hv, hb3⟩)
  go_ret
  exact ⟨_, rfl, hv, hb3⟩
theorem len_any {B p : Nat} {R : List (List UInt8 × List (List UInt8))} (w : World) (h : Tab B w p R) :
    Calls Tryz.prog 12 #[.pointer (some ⟨p, 0, none⟩)] w fun e w' => e = .returned (.int .i64 (R.length : Int)) ∧ w = w' := by
  obtain ⟨L, m1, m2, F, G, h1, h2, h3⟩ := h
  obtain ⟨d0, d1, d2, _⟩ := h3.cells
  clear h3
  go_enter Tryz.func12, Tryz.ntmps12
  go_wp2
  go_ret
  exact ⟨rfl, rfl⟩
theorem byName_nil (s : ByteArray) (w : World) (hs : s.size ≤ maxLen) (hm : MaxAt w) :
    Calls Tryz.prog 14 #[.pointer none, .string s] w fun e w' => e = .returned (.slice none 0 0) ∧ Below w.heap.size w w' := by
  have HC := Lib.hid (clean_any s w hs hm)
  obtain ⟨b1, b2, q, hq⟩ : ∃ (b1 b2 : Bool) (q : ByteArray), cleanV s.data.toList = .tuple #[.string q, .bool b1, .bool b2] := by
    rcases cleanV_cases s.data.toList with ⟨_, h⟩ | ⟨_, h⟩ <;> exact ⟨_, _, _, h⟩
  rw [hq] at HC
  go_enter Tryz.func14, Tryz.ntmps14
  go_wp2_with (go_at_call 26; refine HC.out.mono ?_; rintro e w2 ⟨rfl, hb⟩)
  go_ret
  exact ⟨rfl, hb⟩
theorem byAddr_nil (s : ByteArray) (w : World) :
    Calls Tryz.prog 16 #[.pointer none, .string s] w fun e w' => e = .returned (.slice none 0 0) ∧ w = w' := by
  go_enter Tryz.func16, Tryz.ntmps16
  go_wp2
  go_ret
  exact ⟨rfl, rfl⟩
theorem len_nil (w : World) :
    Calls Tryz.prog 12 #[.pointer none] w fun e w' => e = .returned (.int .i64 0) ∧ w = w' := by
  go_enter Tryz.func12, Tryz.ntmps12
  go_wp2
  go_ret
  exact ⟨rfl, rfl⟩
end Go.Proofs.YtdfapebggghfdaaGreatDoor

namespace Go.Proofs.YtdfapebggghfdaaGreatDoor
open Go.RowKit Go.Lib Go.Tx Go.Mp
theorem mark_any {w : World} {b : Nat} {arr : Array Value} (h : w.heap[b]? = some (.cells arr 5 (0, 0))) (n c : Nat) :
    ∃ w' fr', (convert 22 22 (.slice (some ⟨b, 0, none⟩) n c)).run Tryz.prog w = .ok (.slice (some ⟨b, 0, none⟩) n c) w' ∧ w'.heap[b]? = some (.cells arr 5 fr') ∧ (∀ k, k ≠ b → w'.heap[k]? = w.heap[k]?) ∧ w'.heap.size = w.heap.size ∧ w'.os = w.os ∧ w'.tape = w.tape ∧ w'.output = w.output := by
  obtain ⟨w', fr', e1, e2, e3, e4, e5, e6, e7, e8⟩ := Go.Ev.freeze_at h ⟨fun i hi h => by simp only at h; omega, by simp⟩
  have hsh : w.shape? b = some (5, arr.size) := by unfold World.shape?; rw [h]
  refine ⟨w', fr', ?_, e3, e4, e5, e6, e7, e8⟩
  simp [convert, Go.Ev.run_und Tryz.underlying22, Go.Ev.run_und Tryz.underlying5, markStringish, hsh, e1]
theorem ba_lit {w : World} {b : Nat} {arr : Array Value} {fr : Nat × Nat} {l : List UInt8} (h : w.heap[b]? = some (.cells arr 5 fr)) (ha : arr = (l.map fun c => Value.int .u8 (c.toNat : Int)).toArray) (hl : l.length ≤ 9223372036854775807) : BA w (some ⟨b, 0, none⟩) l.length l.length l :=
  ⟨rfl, Nat.le_refl _, hl, (fun h => by cases h), fun x hx j c hj => by
    cases hx
    have e : (⟨b, 0, none⟩ : Addr).add j = ⟨b, j, none⟩ := by unfold Addr.add; split <;> simp_all
    rw [e]
    subst ha
    simp [World.cell?, h, hj]⟩
/-- Bytes written as a literal, marked: what a caller reads. -/
theorem lit_any (w : World) (arr : Array Value) (l : List UInt8) (ha : arr = (l.map fun c => Value.int .u8 (c.toNat : Int)).toArray) (hl : l.length ≤ 9223372036854775807) :
    ∃ w', (convert 22 22 (.slice (some ⟨w.heap.size, 0, none⟩) l.length l.length)).run Tryz.prog (w.alloc (.cells arr 5)) = .ok (.slice (some ⟨w.heap.size, 0, none⟩) l.length l.length) w' ∧ BA w' (some ⟨w.heap.size, 0, none⟩) l.length l.length l ∧ w.heap.size < w'.heap.size ∧ Below w.heap.size w w' := by
  obtain ⟨w', fr', h1, h2, h3, h4, h5, h6, h7⟩ := mark_any (heap_alloc_new w (.cells arr 5)) l.length l.length
  have hs : (w.alloc (.cells arr 5)).heap.size = w.heap.size + 1 := by show (w.heap.push _).size = _; simp
  refine ⟨w', h1, ba_lit h2 ha hl, by omega, h5, h6, h7, by omega, fun k hk => ?_⟩
  rw [h3 k (by omega)]
  exact heap_push_lt _ _ _ hk
def bytes0 : List UInt8 := [49, 48, 46, 48, 46, 48, 46, 49, 32, 97, 32, 66, 32, 35, 32, 99, 10, 58, 58, 49, 32, 97, 10]
theorem plain0 : (rowsOf (toldG 1 [] bytes0)).length = 2 ∧ (byNm (rowsOf (toldG 1 [] bytes0)) [65, 46]).length = 2 ∧ byA (rowsOf (toldG 1 [] bytes0)) [10, 0, 0, 1] = [[97], [98]] := by decide +kernel
set_option maxRecDepth 100000 in
theorem begun_any (w : World) (hg : GloAt w) (hm : MaxAt w) :
    Calls Tryz.prog 7 #[] w fun e w' => e = .returned (.bool true) ∧ Below w.heap.size w w' := by
  have HG := Lib.hid hg
  have HM := Lib.hid hm
  obtain ⟨h1, h2, h3⟩ := plain0
  obtain ⟨w1, hc, hba, hlt, hb1⟩ := lit_any w _ bytes0 rfl (by decide)
  have HP : Hid (Calls Tryz.prog 10 #[.slice (some ⟨w.heap.size, 0, none⟩) 23 23] w1 fun e w' => ∃ p, e = .returned (.pointer (some ⟨p, 0, none⟩)) ∧ Tab w1.heap.size w' p (rowsOf (toldG 1 [] bytes0)) ∧ Below w1.heap.size w1 w') := Lib.hid (parse_any _ _ _ _ w1 hba (fun x hx => by cases hx; exact hlt) (by decide) (hg.below hb1) (hm.below hb1))
  have hc2 : (convert 22 22 (.slice (some ⟨w.heap.size, 0, none⟩) 23 23)).run Tryz.prog (w.alloc (.cells #[.int .u8 49, .int .u8 48, .int .u8 46, .int .u8 48, .int .u8 46, .int .u8 48, .int .u8 46, .int .u8 49, .int .u8 32, .int .u8 97, .int .u8 32, .int .u8 66, .int .u8 32, .int .u8 35, .int .u8 32, .int .u8 99, .int .u8 10, .int .u8 58, .int .u8 58, .int .u8 49, .int .u8 32, .int .u8 97, .int .u8 10] 5)) = .ok (.slice (some ⟨w.heap.size, 0, none⟩) 23 23) w1 := hc
  generalize rowsOf (toldG 1 [] bytes0) = R at *
  have HN : Hid (∀ W p, Tab w1.heap.size W p R → MaxAt W → Calls Tryz.prog 14 #[.pointer (some ⟨p, 0, none⟩), .string ⟨#[65, 46]⟩] W fun e w' => (∃ q c, e = .returned (.slice q 2 c)) ∧ Below W.heap.size W w') := Lib.hid (fun W p hT hM => (byName_any ⟨#[65, 46]⟩ W hT (by decide) hM).mono (by
    rintro e w' ⟨v, rfl, hv, hb⟩
    obtain ⟨q, c, rfl⟩ := hv.shape
    have e2 : (byNm R (ByteArray.data ⟨#[65, 46]⟩).toList).length = 2 := h2
    rw [e2]
    exact ⟨⟨q, c, rfl⟩, hb⟩))
  have HA : Hid (∀ W p, Tab w1.heap.size W p R → Calls Tryz.prog 16 #[.pointer (some ⟨p, 0, none⟩), .string ⟨#[10, 0, 0, 1]⟩] W fun e w' => (∃ g c, e = .returned (.slice (some ⟨g, 0, none⟩) 2 c) ∧ 2 ≤ c ∧ w'.cell? ⟨g, 1, none⟩ = some (.string ⟨#[98]⟩)) ∧ Below W.heap.size W w') := Lib.hid (fun W p hT => by
    have e3 : byA R (ByteArray.data ⟨#[10, 0, 0, 1]⟩).toList = [[97], [98]] := h3
    have := byAddr_any ⟨#[10, 0, 0, 1]⟩ W hT (by rw [e3]; decide)
    rw [e3] at this
    refine this.mono ?_
    rintro e w' ⟨v, rfl, hv, hb⟩
    obtain ⟨q, c, rfl, hc, _, hr⟩ := hv.read
    obtain ⟨g, rfl, _, hcell⟩ := hr 1 [98] rfl
    exact ⟨⟨g, c, rfl, hc, hcell⟩, hb⟩)
  clear hg hm hc hba hlt h2 h3
  go_enter Tryz.func7, Tryz.ntmps7
  go_upto_region 4 with (go_at_call 10; refine HP.out.mono ?_; rintro e w2 ⟨p, rfl, hT, hb2⟩; have HT := Lib.hid hT; have hb := hb1.trans (hb2.mono hb1.size); clear hT)
  go_wp2_with (first | (go_at_call 14; refine (HN.out _ _ HT.out (HM.out.below hb)).mono ?_; rintro e w3 ⟨⟨q3, c3, rfl⟩, hb3⟩; have HT3 := Lib.hid (HT.out.below hb3)) | (go_at_call 16; refine (HA.out _ _ HT3.out).mono ?_; rintro e w4 ⟨⟨g4, c4, rfl, hc4, hcell4⟩, hb4⟩; have HT4 := Lib.hid (HT3.out.below hb4)) | (go_at_call 12; refine (len_any _ HT4.out).mono ?_; rw [h1]; rintro e w5 ⟨rfl, hw⟩; obtain rfl := hw))
  go_ret
  exact ⟨rfl, (hb.trans (hb3.mono hb.size)).trans (hb4.mono (Nat.le_trans hb.size hb3.size))⟩
end Go.Proofs.YtdfapebggghfdaaGreatDoor

namespace Go.Proofs.YtdfapebggghfdaaGreatDoor
open Go.RowKit Go.Lib Go.Tx Go.Ev Go.Fr Go.ChangeShapes
theorem maxAt (W : World) (hsh : W.ShapedOpen Tryz.prog) : ∃ m, W.cell? ⟨0, 0, none⟩ = some (.int .i64 m) :=
  cell_of_shapedOpen_int (P := Tryz.prog) (g := 0) (t := 3) (zero := #[.int .i64 0]) hsh (of_decide_eq_true (by kernel_rfl)) (by kernel_rfl) rfl (by kernel_rfl) (by kernel_rfl) Tryz.underlying3
theorem err_of {W : World} {g tp b o : Nat} {G : Nat → Option (List AV)} (hG : GloOK (Bas.of W) G) (h : G g = some [.iface tp (.glob b o)]) : ErrAt g W := by
  obtain ⟨_, arr, elem, fr, h1, vs, hv, hc⟩ := hG g _ h
  obtain ⟨v, hv1, hv2⟩ := hv.get 0 _ rfl
  have h3 := hc 0 v hv1
  refine ⟨v, ?_, ?_⟩
  · unfold World.cell?
    have h1' : W.heap[g]? = some (.cells arr elem fr) := h1
    rw [h1']
    simpa using h3
  · simp only [VR] at hv2
    obtain ⟨v', e, _⟩ := hv2
    exact .inr ⟨_, _, e⟩
theorem glo_only (W : World) (hL : laidMetH Tryz.prog laidL W) (hsh : W.ShapedOpen Tryz.prog) : GloAt W ∧ MaxAt W := by
  obtain ⟨b1, o1, b2, o2, hE⟩ := eok W hL hsh
  exact ⟨⟨maxAt W hsh, err_of hE.glo (b := b2) (o := o2) rfl, err_of hE.glo (b := b1) (o := o1) rfl⟩, maxAt W hsh⟩
end Go.Proofs.YtdfapebggghfdaaGreatDoor

namespace Go.Proofs.YtdfapebggghfdaaGreatDoor
open Go.ChangeShapes Go.WideShapes Go.ChangeAt Go.RowKit Go.Ev Go.Fr
open Go.Tx Go.Lib
theorem _root_.Go.Tx.BA.heap {w w' : World} {a : Option Addr} {n c : Nat} {l : List UInt8} (h : BA w a n c l) (e : w'.heap = w.heap) : BA w' a n c l :=
  ⟨h.len, h.cap, h.max, h.none, fun x hx j b hj => by rw [World.cell?_of_block (w := w) (by rw [e])]; exact h.cell x hx j b hj⟩
def rowF (k : Nat) : List UInt8 := [49, 48, 46, 48, 46, 48, 46, 49, 32, 110] ++ [UInt8.ofNat (97 + k)] ++ [32, 97, 108, 108, 10, 49, 48, 46, 48, 46, 49, 46] ++ [UInt8.ofNat (48 + k % 10)] ++ [32, 97, 108, 108, 10]
def textF : Nat → List UInt8
  | 0 => []
  | k + 1 => textF k ++ rowF k
theorem textF_len : ∀ k, (textF k).length = 29 * k
  | 0 => rfl
  | k + 1 => by unfold textF rowF; rw [List.length_append, textF_len k]; simp; omega
theorem plainF : ∀ n : Fin 21, 1 ≤ n.1 → byA (rowsOf (toldG 1 [] (textF n.1))) [10, 0, 0, 1] = [[110, 97], [97, 108, 108]] ∧ (byNm (rowsOf (toldG 1 [] (textF n.1))) [65, 76, 76]).length = min n.1 10 + 1 ∧ (byNm (rowsOf (toldG 1 [] (textF n.1))) [110, 98]).length = min (n.1 - 1) 1 := by decide +kernel
set_option maxHeartbeats 1000000 in
set_option maxRecDepth 100000 in
theorem hostFirst_walk (a0 : Int) (W : World) (w0 : (Lit.int .i64 a0).wf = true) (hL : laidMetH Tryz.prog laidL W) (hsh : W.ShapedOpen Tryz.prog) :
    Calls Tryz.prog 6 #[.int .i64 a0] W fun e w' => e = .returned (.bool true) ∧ Below W.heap.size W w' := by
  obtain ⟨hg, hm⟩ := glo_only W hL hsh
  have HB := Lib.hid (begun_any W hg hm)
  have HM := Lib.hid hm
  have HG := Lib.hid hg
  clear hg hm hL hsh w0
  by_cases hin : 1 ≤ a0 ∧ a0 ≤ 20
  · obtain ⟨h1, h20⟩ := hin
    obtain ⟨n, rfl⟩ : ∃ n : Nat, a0 = n := ⟨a0.toNat, by omega⟩
    obtain ⟨p1, p2, p3⟩ := plainF ⟨n, by omega⟩ (by show 1 ≤ n; omega)
    have hB1 : ∀ (W : World) (k : Nat), k < 20 → (convert 22 9 (.slice (some ⟨W.heap.size, 0, none⟩) 1 1)).run Tryz.prog (W.alloc (.cells #[.int .u8 (97 + (k : Int))] 5)) = .ok (.string ⟨#[UInt8.ofNat (97 + k)]⟩) (W.alloc (.cells #[.int .u8 (97 + (k : Int))] 5)) := fun W k hk => by
      have := byte_str W (UInt8.ofNat (97 + k))
      have e : ((UInt8.ofNat (97 + k)).toNat : Int) = 97 + (k : Int) := by rw [UInt8.toNat_ofNat_of_lt' (by show 97 + k < 256; omega)]; omega
      rw [e] at this
      exact this
    have hB2 : ∀ (W : World) (k : Nat), (convert 22 9 (.slice (some ⟨W.heap.size, 0, none⟩) 1 1)).run Tryz.prog (W.alloc (.cells #[.int .u8 (48 + (k : Int) % 10)] 5)) = .ok (.string ⟨#[UInt8.ofNat (48 + k % 10)]⟩) (W.alloc (.cells #[.int .u8 (48 + (k : Int) % 10)] 5)) := fun W k => by
      have := byte_str W (UInt8.ofNat (48 + k % 10))
      have e : ((UInt8.ofNat (48 + k % 10)).toNat : Int) = 48 + (k : Int) % 10 := by rw [UInt8.toNat_ofNat_of_lt' (by show 48 + k % 10 < 256; omega)]; omega
      rw [e] at this
      exact this
    have HB1 := Lib.hid hB1
    have HB2 := Lib.hid hB2
    clear hB1 hB2
    go_enter Tryz.func6, Tryz.ntmps6
    go_wp2_with (go_at_call 7; refine HB.out.mono ?_; rintro e w2 ⟨rfl, hb⟩)
    go_loopw [4, 5] (fun sv iv wr => ∃ (k : Nat) (S : ByteArray), k ≤ n ∧ iv = .int .i64 k ∧ sv = .string S ∧ S.data.toList = textF k ∧ Below W.heap.size W wr) (fun _ iv _ => n - (intOf iv).toNat)
    case atStart => exact ⟨0, _, Nat.zero_le _, rfl, rfl, rfl, hb⟩
    case round =>
      obtain ⟨k, S, hk, rfl, rfl, hS, hbr⟩ := hrel
      have hSz : S.size ≤ 600 := by
        have h2 := textF_len k
        rw [← hS] at h2
        have h3 : S.data.toList.length = S.size := rfl
        omega
      by_cases hlt : k < n
      · obtain ⟨x, hx⟩ : ∃ x, UInt8.ofNat (97 + k) = x := ⟨_, rfl⟩
        obtain ⟨y, hy⟩ : ∃ y, UInt8.ofNat (48 + k % 10) = y := ⟨_, rfl⟩
        have hc1 := HB1.out wr k (by omega)
        have hc2 : (convert 22 9 (.slice (some ⟨wr.heap.size + 1, 0, none⟩) 1 1)).run Tryz.prog ((wr.alloc (.cells #[.int .u8 (97 + (k : Int))] 5)).alloc (.cells #[.int .u8 (48 + (k : Int) % 10)] 5)) = .ok (.string ⟨#[y]⟩) ((wr.alloc (.cells #[.int .u8 (97 + (k : Int))] 5)).alloc (.cells #[.int .u8 (48 + (k : Int) % 10)] 5)) := by
          have := HB2.out (wr.alloc (.cells #[.int .u8 (97 + (k : Int))] 5)) k
          have e : (wr.alloc (.cells #[.int .u8 (97 + (k : Int))] 5)).heap.size = wr.heap.size + 1 := by show (wr.heap.push _).size = _; simp
          rw [e, hy] at this
          exact this
        rw [hx] at hc1
        have HX : Hid (textF (k + 1) = S.data.toList ++ ([49, 48, 46, 48, 46, 48, 46, 49, 32, 110] ++ [x] ++ [32, 97, 108, 108, 10, 49, 48, 46, 48, 46, 49, 46] ++ [y] ++ [32, 97, 108, 108, 10])) := Lib.hid (by rw [hS]; show textF k ++ rowF k = _; unfold rowF; rw [hx, hy])
        clear hx hy hS
        go_wp2
        go_roundw
        case rel =>
          refine ⟨k + 1, _, hlt, by go_num, rfl, ?_, (hbr.alloc hbr.size _).alloc (by have := hbr.size; show W.heap.size ≤ (wr.heap.push _).size; simp; omega) _⟩
          rw [HX.out]
          simp
        case measure => simp [intOf]; omega
      · obtain rfl : k = n := by omega
        have hlen := textF_len k
        rw [← hS] at p1 p2 p3 hlen
        have hSl : S.data.toList.length = S.size := rfl
        obtain ⟨cap, o, hconv, hcp, hcm, hrow⟩ := row_made (P := Tryz.prog) (src := 9) (dst := 22) S wr (by unfold maxLen; omega) Tryz.underlying9 Tryz.underlying22 Tryz.underlying5
        have hba : BA (wr.drew.alloc o) (some ⟨wr.heap.size, 0, none⟩) S.size cap S.data.toList := (ba_row hrow hcm).heap rfl
        have hb3 : Below W.heap.size W (wr.drew.alloc o) := hbr.drew.alloc hbr.size o
        have hls : wr.heap.size < (wr.drew.alloc o).heap.size := by show wr.heap.size < (Array.push _ _).size; simp
        have HP := Lib.hid (parse_any _ _ _ _ (wr.drew.alloc o) hba (fun x hx => by cases hx; exact hls) (by omega) (HG.out.below hb3) (HM.out.below hb3))
        generalize rowsOf (toldG 1 [] S.data.toList) = R at *
        have HN : ∀ r1 r2 : Nat, r1 = min k 10 + 1 → r2 = min (k - 1) 1 → Hid (∀ W p s r, Tab (wr.drew.alloc o).heap.size W p R → MaxAt W → (s = ⟨#[65, 76, 76]⟩ ∧ r = r1) ∨ (s = ⟨#[110, 98]⟩ ∧ r = r2) → Calls Tryz.prog 14 #[.pointer (some ⟨p, 0, none⟩), .string s] W fun e w' => (∃ q c, e = .returned (.slice q r c)) ∧ Below W.heap.size W w') := fun r1 r2 q1 q2 => Lib.hid (fun W p s r hT hM hs => (byName_any s W hT (by rcases hs with ⟨rfl, _⟩ | ⟨rfl, _⟩ <;> decide) hM).mono (by
          rintro e w' ⟨v, rfl, hv, hb⟩
          obtain ⟨q, c, rfl⟩ := hv.shape
          have e2 : (byNm R s.data.toList).length = r := by
            rcases hs with ⟨rfl, rfl⟩ | ⟨rfl, rfl⟩
            · rw [q1]; exact p2
            · rw [q2]; exact p3
          rw [e2]
          exact ⟨⟨q, c, rfl⟩, hb⟩))
        have HA : Hid (∀ W p, Tab (wr.drew.alloc o).heap.size W p R → Calls Tryz.prog 16 #[.pointer (some ⟨p, 0, none⟩), .string ⟨#[10, 0, 0, 1]⟩] W fun e w' => (∃ g c, e = .returned (.slice (some ⟨g, 0, none⟩) 2 c) ∧ 2 ≤ c ∧ g < w'.heap.size ∧ w'.cell? ⟨g, 0, none⟩ = some (.string ⟨#[110, 97]⟩) ∧ w'.cell? ⟨g, 1, none⟩ = some (.string ⟨#[97, 108, 108]⟩)) ∧ Below W.heap.size W w') := Lib.hid (fun W p hT => by
          have e3 : byA R (ByteArray.data ⟨#[10, 0, 0, 1]⟩).toList = [[110, 97], [97, 108, 108]] := p1
          have := byAddr_any ⟨#[10, 0, 0, 1]⟩ W hT (by rw [e3]; decide)
          rw [e3] at this
          refine this.mono ?_
          rintro e w' ⟨v, rfl, hv, hb⟩
          obtain ⟨q, c, rfl, hc, _, hr⟩ := hv.read
          obtain ⟨g, rfl, hg, hcell⟩ := hr 1 [97, 108, 108] rfl
          obtain ⟨g', e', _, hcell0⟩ := hr 0 [110, 97] rfl
          cases e'
          exact ⟨⟨g, c, rfl, hc, hg, hcell0, hcell⟩, hb⟩)
        have HB3 := Lib.hid hb3
        clear p1 p2 p3 hlen hSl hS hba hb3 hls hrow hcm hcp hSz
        go_upto_region 12 with (go_at_call 10; refine HP.out.mono ?_; rintro e w3 ⟨p, rfl, hT, hb4⟩; have HT := Lib.hid hT; have HBW := Lib.hid (HB3.out.trans (hb4.mono HB3.out.size)); clear hT hb4)
        by_cases hk10 : k ≤ 10
        · have hk10' : ¬ (10 : Int) < (k : Int) := by omega
          have e1 : min k 10 = k := by omega
          by_cases hk1 : k = 1
          · subst hk1
            have HN := HN 2 0 rfl rfl
            go_wp2_with (first | (go_at_call 16; refine (HA.out _ _ HT.out).mono ?_; rintro e w4 ⟨⟨g4, c4, rfl, hc4, hg4, hx4, hy4⟩, hb4⟩; have HT4 := Lib.hid (HT.out.below hb4); have HBW4 := Lib.hid (HBW.out.trans (hb4.mono HBW.out.size))) | (go_at_call 14; refine (HN.out _ _ _ _ (by first | exact HT5.out | exact HT4.out) (by first | exact HM.out.below HBW5.out | exact HM.out.below HBW4.out) (by first | exact .inl ⟨rfl, rfl⟩ | exact .inr ⟨rfl, rfl⟩)).mono ?_; rintro e w5 ⟨⟨q5, c5, rfl⟩, hb5⟩; have HT5 := Lib.hid ((by first | exact HT5.out | exact HT4.out : Tab _ _ _ _).below hb5); have HBW5 := Lib.hid ((by first | exact HBW5.out | exact HBW4.out : Below W.heap.size W _).trans (hb5.mono (by first | exact HBW5.out.size | exact HBW4.out.size)))))
            go_ret
            exact ⟨by simp <;> omega, HBW5.out⟩
          · have e2 : min (k - 1) 1 = 1 := by omega
            have e3 : (1 : Int) ≤ (k : Int) - 1 := by omega
            have HN := HN (k + 1) 1 (by omega) e2.symm
            go_wp2_with (first | (go_at_call 16; refine (HA.out _ _ HT.out).mono ?_; rintro e w4 ⟨⟨g4, c4, rfl, hc4, hg4, hx4, hy4⟩, hb4⟩; have HT4 := Lib.hid (HT.out.below hb4); have HBW4 := Lib.hid (HBW.out.trans (hb4.mono HBW.out.size))) | (go_at_call 14; refine (HN.out _ _ _ _ (by first | exact HT5.out | exact HT4.out) (by first | exact HM.out.below HBW5.out | exact HM.out.below HBW4.out) (by first | exact .inl ⟨rfl, rfl⟩ | exact .inr ⟨rfl, rfl⟩)).mono ?_; rintro e w5 ⟨⟨q5, c5, rfl⟩, hb5⟩; have HT5 := Lib.hid ((by first | exact HT5.out | exact HT4.out : Tab _ _ _ _).below hb5); have HBW5 := Lib.hid ((by first | exact HBW5.out | exact HBW4.out : Below W.heap.size W _).trans (hb5.mono (by first | exact HBW5.out.size | exact HBW4.out.size)))))
            go_ret
            exact ⟨by simp <;> omega, HBW5.out⟩
        · have hk10' : (10 : Int) < (k : Int) := by omega
          have e1 : min k 10 = 10 := by omega
          have e2 : min (k - 1) 1 = 1 := by omega
          have e3 : (1 : Int) ≤ (k : Int) - 1 := by omega
          have HN := HN 11 1 (by omega) e2.symm
          go_wp2_with (first | (go_at_call 16; refine (HA.out _ _ HT.out).mono ?_; rintro e w4 ⟨⟨g4, c4, rfl, hc4, hg4, hx4, hy4⟩, hb4⟩; have HT4 := Lib.hid (HT.out.below hb4); have HBW4 := Lib.hid (HBW.out.trans (hb4.mono HBW.out.size))) | (go_at_call 14; refine (HN.out _ _ _ _ (by first | exact HT5.out | exact HT4.out) (by first | exact HM.out.below HBW5.out | exact HM.out.below HBW4.out) (by first | exact .inl ⟨rfl, rfl⟩ | exact .inr ⟨rfl, rfl⟩)).mono ?_; rintro e w5 ⟨⟨q5, c5, rfl⟩, hb5⟩; have HT5 := Lib.hid ((by first | exact HT5.out | exact HT4.out : Tab _ _ _ _).below hb5); have HBW5 := Lib.hid ((by first | exact HBW5.out | exact HBW4.out : Below W.heap.size W _).trans (hb5.mono (by first | exact HBW5.out.size | exact HBW4.out.size)))))
          go_ret
          exact ⟨by simp <;> omega, HBW5.out⟩
  · by_cases hlo : a0 < 1
    · go_enter Tryz.func6, Tryz.ntmps6
      go_wp2_with (go_at_call 7; refine HB.out.mono ?_; rintro e w2 ⟨rfl, hb⟩)
      go_ret
      exact ⟨rfl, hb⟩
    · have hhi : 20 < a0 := by omega
      go_enter Tryz.func6, Tryz.ntmps6
      go_wp2_with (go_at_call 7; refine HB.out.mono ?_; rintro e w2 ⟨rfl, hb⟩)
      go_ret
      exact ⟨rfl, hb⟩
end Go.Proofs.YtdfapebggghfdaaGreatDoor

namespace Go.Tx
open Go.Lib
theorem told_line : ∀ (x : List UInt8) (no : Nat) (cur rest : List UInt8), (10 : UInt8) ∉ x → toldG no cur (x ++ 10 :: rest) = tell no (cur ++ x) ++ toldG (no + 1) [] rest
  | [], no, cur, rest, _ => by rw [List.append_nil]; simp [toldG]
  | c :: x, no, cur, rest, h => by
    have hc : ¬ c = 10 := fun e => h (by rw [e]; exact List.mem_cons_self)
    rw [List.cons_append, toldG, if_neg hc, told_line x no (cur ++ [c]) rest (fun e => h (List.mem_cons_of_mem _ e)), List.append_assoc]
    rfl
theorem rowsOf_tell (no : Nat) (x : List UInt8) : rowsOf (tell no x) = (rowOf (wordsOf x)).toList := by
  unfold tell
  split
  · rename_i h; rw [h]; rfl
  · unfold rowsOf
    cases h : rowOf (wordsOf x) <;> simp [h]
theorem rowsOf_append (T S : List (Nat × List (List UInt8))) : rowsOf (T ++ S) = rowsOf T ++ rowsOf S := List.filterMap_append ..
theorem rowsOf_lines : ∀ (L : List (List UInt8)) (no : Nat), (∀ x ∈ L, (10 : UInt8) ∉ x) → rowsOf (toldG no [] (L.map (· ++ [10])).flatten) = L.filterMap fun x => rowOf (wordsOf x)
  | [], no, _ => by
    show rowsOf (tell no []) = _
    rw [rowsOf_tell]; decide
  | x :: L, no, h => by
    have e : ((x :: L).map (· ++ [10])).flatten = x ++ 10 :: (L.map (· ++ [10])).flatten := by simp
    rw [e, told_line x no [] _ (h x List.mem_cons_self), rowsOf_append, rowsOf_tell, rowsOf_lines L (no + 1) (fun y hy => h y (List.mem_cons_of_mem _ hy)), List.nil_append, List.filterMap_cons]
    cases rowOf (wordsOf x) <;> simp
/-! ### One name, many addresses -/
def adI (i : Nat) : List UInt8 := [10, 0, 0, UInt8.ofNat i]
theorem adI_inj {i j : Nat} (hi : i < 256) (hj : j < 256) (h : adI i = adI j) : i = j := by
  unfold adI at h
  have h2 : UInt8.ofNat i = UInt8.ofNat j := by simpa using h
  have h3 := congrArg UInt8.toNat h2
  rwa [UInt8.toNat_ofNat_of_lt' hi, UInt8.toNat_ofNat_of_lt' hj] at h3
theorem adds_many (tw : Nat) (h1 : 1 ≤ tw) (h2 : tw ≤ 60) : ∀ n, addsOf ((List.range n).map fun i => (adI (i % tw), [[104]])) [104] = (List.range (min (min n tw) 32)).map adI
  | 0 => rfl
  | n + 1 => by
    rw [List.range_succ, List.map_append]
    show addsOf (_ ++ [(adI (n % tw), [[104]])]) [104] = _
    rw [addsOf_snoc, adds_many tw h1 h2 n]
    show put32 (adI (n % tw)) ((List.range (min (min n tw) 32)).map adI) = _
    have hm := Nat.mod_lt n (show tw > 0 by omega)
    unfold put32
    rw [List.length_map, List.length_range]
    by_cases hn : n < tw
    · rw [Nat.mod_eq_of_lt hn]
      by_cases h32 : n < 32
      · have e1 : min (min n tw) 32 = n := by omega
        have e2 : min (min (n + 1) tw) 32 = n + 1 := by omega
        rw [e1, e2, if_pos ⟨h32, fun hmem => by
          obtain ⟨j, hj, e⟩ := List.mem_map.1 hmem
          have hj := List.mem_range.1 hj
          have := adI_inj (by omega) (by omega) e
          omega⟩, List.range_succ, List.map_append]
        rfl
      · have e1 : min (min n tw) 32 = 32 := by omega
        have e2 : min (min (n + 1) tw) 32 = 32 := by omega
        rw [e1, e2, if_neg (fun h => by omega)]
    · by_cases h32 : tw < 32
      · have e1 : min (min n tw) 32 = tw := by omega
        have e2 : min (min (n + 1) tw) 32 = tw := by omega
        rw [e1, e2, if_neg (fun h => h.2 (List.mem_map.2 ⟨n % tw, List.mem_range.2 hm, rfl⟩))]
      · have e1 : min (min n tw) 32 = 32 := by omega
        have e2 : min (min (n + 1) tw) 32 = 32 := by omega
        rw [e1, e2, if_neg (fun h => by omega)]
/-! ### The text of the law -/
def lineM (d : Nat) : List UInt8 := [49, 48, 46, 48, 46, 48, 46] ++ decG d [] ++ [32, 104]
theorem lineM_all : ∀ d : Fin 60, (10 : UInt8) ∉ lineM d.1 ∧ rowOf (wordsOf (lineM d.1)) = some (adI d.1, [[104]]) ∧ (decG d.1 []).length ≤ 2 := by decide +kernel
def textM (tw : Nat) : Nat → List UInt8
  | 0 => []
  | n + 1 => textM tw n ++ (lineM (n % tw) ++ [10])
theorem textM_flat (tw : Nat) : ∀ n, textM tw n = (((List.range n).map fun i => lineM (i % tw)).map (· ++ [10])).flatten
  | 0 => rfl
  | n + 1 => by
    rw [textM, textM_flat tw n, List.range_succ]
    simp
theorem textM_len (tw : Nat) (h1 : 1 ≤ tw) (h2 : tw ≤ 60) : ∀ n, (textM tw n).length ≤ 12 * n
  | 0 => by simp [textM]
  | n + 1 => by
    have h3 := textM_len tw h1 h2 n
    have h4 := (lineM_all ⟨n % tw, by have := Nat.mod_lt n (show tw > 0 by omega); omega⟩).2.2
    simp only at h4
    rw [textM]
    simp only [List.length_append, lineM, List.length_cons, List.length_nil]
    omega
theorem rows_many (tw n : Nat) (h1 : 1 ≤ tw) (h2 : tw ≤ 60) : rowsOf (toldG 1 [] (textM tw n)) = (List.range n).map fun i => (adI (i % tw), [[104]]) := by
  have hm : ∀ i, i % tw < 60 := fun i => by have := Nat.mod_lt i (show tw > 0 by omega); omega
  rw [textM_flat, rowsOf_lines _ 1 (fun x hx => by
    obtain ⟨i, _, rfl⟩ := List.mem_map.1 hx
    exact (lineM_all ⟨i % tw, hm i⟩).1), List.filterMap_map]
  rw [show ((fun x => rowOf (wordsOf x)) ∘ fun i => lineM (i % tw)) = fun i => some (adI (i % tw), [[104]]) from funext fun i => (lineM_all ⟨i % tw, hm i⟩).2.1]
  rw [List.filterMap_eq_map']
end Go.Tx

namespace Go.Proofs.YtdfapebggghfdaaGreatDoor
open Go.ChangeShapes Go.WideShapes Go.ChangeAt Go.RowKit Go.Ev Go.Fr
open Go.Tx Go.Lib
set_option maxHeartbeats 2000000 in
set_option maxRecDepth 100000 in
theorem hostMany_walk (a0 a1 : Int) (W : World) (w0 : (Lit.int .i64 a0).wf = true) (w1 : (Lit.int .i64 a1).wf = true) (hL : laidMetH Tryz.prog laidL W) (hsh : W.ShapedOpen Tryz.prog) :
    Calls Tryz.prog 4 #[.int .i64 a0, .int .i64 a1] W fun e w' => e = .returned (.bool true) ∧ Below W.heap.size W w' := by
  obtain ⟨hg, hm⟩ := glo_only W hL hsh
  have HB := Lib.hid (begun_any W hg hm)
  have HM := Lib.hid hm
  have HG := Lib.hid hg
  clear hg hm hL hsh w0 w1
  by_cases hin : (0 ≤ a0 ∧ a0 ≤ 60) ∧ (1 ≤ a1 ∧ a1 ≤ 60)
  · obtain ⟨⟨h0, h60⟩, h1, h61⟩ := hin
    obtain ⟨n, rfl⟩ : ∃ n : Nat, a0 = n := ⟨a0.toNat, by omega⟩
    obtain ⟨tw, rfl⟩ : ∃ n : Nat, a1 = n := ⟨a1.toNat, by omega⟩
    have HR := Lib.hid (rows_many tw n (by omega) (by omega))
    have HAd := Lib.hid (adds_many tw (by omega) (by omega) n)
    have HDec : Hid (∀ (W : World) (k : Nat), Calls Tryz.prog 18 #[.int .i64 ((k : Int) % (tw : Int))] W fun e w' => (∃ D : ByteArray, e = .returned (.string D) ∧ D.data.toList = decG (k % tw) [] ∧ D.size ≤ 2) ∧ Below W.heap.size W w') := Lib.hid (fun W k => by
      have hlt := Nat.mod_lt k (show tw > 0 by omega)
      have e : ((k : Int) % (tw : Int)) = ((k % tw : Nat) : Int) := by omega
      rw [e]
      refine (dec_any (k % tw) W (by omega)).mono ?_
      rintro e w' ⟨rfl, hb⟩
      refine ⟨⟨_, rfl, rfl, ?_⟩, hb⟩
      have := (lineM_all ⟨k % tw, by omega⟩).2.2
      show (decG (k % tw) []).toArray.size ≤ 2
      simpa using this)
    have htw0 : ¬ (tw : Int) = 0 := by omega
    go_enter Tryz.func4, Tryz.ntmps4
    go_wp2_with (go_at_call 7; refine HB.out.mono ?_; rintro e w2 ⟨rfl, hb⟩)
    go_loopw [6, 7] (fun sv iv wr => ∃ (k : Nat) (S : ByteArray), k ≤ n ∧ iv = .int .i64 k ∧ sv = .string S ∧ S.data.toList = textM tw k ∧ Below W.heap.size W wr) (fun _ iv _ => n - (intOf iv).toNat)
    case atStart => exact ⟨0, _, Nat.zero_le _, rfl, rfl, rfl, hb⟩
    case round =>
      obtain ⟨k, S, hk, rfl, rfl, hS, hbr⟩ := hrel
      have hSz : S.size ≤ 800 := by
        have h2 := textM_len tw (by omega) (by omega) k
        rw [← hS] at h2
        have h3 : S.data.toList.length = S.size := rfl
        omega
      by_cases hlt : k < n
      · have HX : Hid (∀ D : ByteArray, D.data.toList = decG (k % tw) [] → textM tw (k + 1) = S.data.toList ++ ([49, 48, 46, 48, 46, 48, 46] ++ D.data.toList ++ [32, 104, 10])) := Lib.hid (fun D hD => by rw [hS, hD]; show textM tw k ++ (lineM (k % tw) ++ [10]) = _; unfold lineM; simp)
        clear hS
        go_wp2_with (go_at_call 18; refine (HDec.out _ k).mono ?_; rintro e w3 ⟨⟨D, rfl, hD, hDz⟩, hb3⟩; have HD := Lib.hid hD; clear hD)
        go_roundw
        case rel =>
          refine ⟨k + 1, _, hlt, by go_num, rfl, ?_, hbr.trans (hb3.mono hbr.size)⟩
          rw [HX.out D HD.out]
          simp
        case measure => simp [intOf]; omega
      · obtain rfl : k = n := by omega
        have hlen := textM_len tw (by omega) (by omega) k
        have HR2 := Lib.hid HR.out
        rw [← hS] at HR2 hlen
        have hSl : S.data.toList.length = S.size := rfl
        obtain ⟨cap, o, hconv, hcp, hcm, hrow⟩ := row_made (P := Tryz.prog) (src := 9) (dst := 22) S wr (by unfold maxLen; omega) Tryz.underlying9 Tryz.underlying22 Tryz.underlying5
        have hba : BA (wr.drew.alloc o) (some ⟨wr.heap.size, 0, none⟩) S.size cap S.data.toList := (ba_row hrow hcm).heap rfl
        have hb3 : Below W.heap.size W (wr.drew.alloc o) := hbr.drew.alloc hbr.size o
        have hls : wr.heap.size < (wr.drew.alloc o).heap.size := by show wr.heap.size < (Array.push _ _).size; simp
        have HP := Lib.hid (parse_any _ _ _ _ (wr.drew.alloc o) hba (fun x hx => by cases hx; exact hls) (by omega) (HG.out.below hb3) (HM.out.below hb3))
        rw [HR2.out] at HP
        have hRl : ((List.range k).map fun i => (adI (i % tw), [([104] : List UInt8)])).length = k := by simp
        have hNm : byNm ((List.range k).map fun i => (adI (i % tw), [([104] : List UInt8)])) (ByteArray.data ⟨#[104]⟩).toList = (List.range (min (min k tw) 32)).map adI := by
          have e1 : nameB (bare (ByteArray.data ⟨#[104]⟩).toList) = true := by decide +kernel
          have e2 : (bare (ByteArray.data ⟨#[104]⟩).toList).map low = [104] := by decide +kernel
          unfold byNm
          rw [if_pos e1, e2]
          exact HAd.out
        generalize ((List.range k).map fun i => (adI (i % tw), [([104] : List UInt8)])) = R at *
        obtain ⟨m, hm⟩ : ∃ m, min (min k tw) 32 = m := ⟨_, rfl⟩
        rw [hm] at hNm
        have HN : Hid (∀ W p, Tab (wr.drew.alloc o).heap.size W p R → MaxAt W → Calls Tryz.prog 14 #[.pointer (some ⟨p, 0, none⟩), .string ⟨#[104]⟩] W fun e w' => (∃ q c, e = .returned (.slice q m c) ∧ m ≤ c ∧ Hid (∀ j, j < m → ∃ g, q = some ⟨g, 0, none⟩ ∧ g < w'.heap.size ∧ w'.cell? ⟨g, j, none⟩ = some (.string ⟨(adI j).toArray⟩))) ∧ Below W.heap.size W w') := Lib.hid (fun W p hT hM => (byName_any ⟨#[104]⟩ W hT (by decide) hM).mono (by
          rintro e w' ⟨v, rfl, hv, hb⟩
          rw [hNm] at hv
          obtain ⟨q, c, rfl, hc, _, hr⟩ := hv.read
          have hml : ((List.range m).map adI).length = m := by simp
          rw [hml] at hc ⊢
          exact ⟨⟨q, c, rfl, hc, Lib.hid (fun j hj => hr j (adI j) (by rw [List.getElem?_map, List.getElem?_range hj]; rfl))⟩, hb⟩))
        have HLen : Hid (∀ W p, Tab (wr.drew.alloc o).heap.size W p R → Calls Tryz.prog 12 #[.pointer (some ⟨p, 0, none⟩)] W fun e w' => e = .returned (.int .i64 (k : Int)) ∧ W = w') := Lib.hid (fun W p hT => by
          have := len_any W hT
          rw [hRl] at this
          exact this)
        have HB3 := Lib.hid hb3
        clear hlen hSl hS hba hb3 hls hrow hcm hcp hSz hRl hNm HR HR2 HAd
        go_upto_region 12 with (go_at_call 10; refine HP.out.mono ?_; rintro e w3 ⟨p, rfl, hT, hb4⟩; have HT := Lib.hid hT; have HBW := Lib.hid (HB3.out.trans (hb4.mono HB3.out.size)); clear hT hb4)
        have hn32 : m ≤ 32 := by omega
        have hB1 : ∀ (W : World) (j : Nat), j < 32 → (convert 22 9 (.slice (some ⟨W.heap.size, 0, none⟩) 1 1)).run Tryz.prog (W.alloc (.cells #[.int .u8 (j : Int)] 5)) = .ok (.string ⟨#[UInt8.ofNat j]⟩) (W.alloc (.cells #[.int .u8 (j : Int)] 5)) := fun W j hj => by
          have := byte_str W (UInt8.ofNat j)
          rw [UInt8.toNat_ofNat_of_lt' (by show j < 256; omega)] at this
          exact this
        have HB1 := Lib.hid hB1
        clear hB1
        by_cases h1 : tw < k
        · have h1i : (tw : Int) < (k : Int) := by omega
          by_cases h2 : 32 < tw
          · have h2i : (32 : Int) < (tw : Int) := by omega
            have hwm : m = 32 := by omega
            go_wp2_with (go_at_call 14; refine (HN.out _ _ HT.out (HM.out.below HBW.out)).mono ?_; rintro e w4 ⟨⟨q4, c4, rfl, hc4, hr4⟩, hb4⟩; have HT4 := Lib.hid (HT.out.below hb4); have HBW4 := Lib.hid (HBW.out.trans (hb4.mono HBW.out.size)))
            go_loopw [11] (fun iv wq => ∃ j : Nat, j ≤ m ∧ iv = .int .i64 j ∧ Below w4.heap.size w4 wq) (fun iv _ => m - (intOf iv).toNat)
            case atStart => exact ⟨0, Nat.zero_le _, rfl, Below.refl _ _⟩
            case round =>
              obtain ⟨j, hj, rfl, hbq⟩ := hrel
              by_cases hlt : j < m
              · obtain ⟨g, rfl, hg, hcell4⟩ := hr4.out j hlt
                have hcell : wr.cell? ⟨g, j, none⟩ = some (.string ⟨(adI j).toArray⟩) := by rw [hbq.cell (p := ⟨g, j, none⟩) hg]; exact hcell4
                obtain ⟨x, hx⟩ : ∃ x, UInt8.ofNat j = x := ⟨_, rfl⟩
                have hc1 := HB1.out wr j (by omega)
                have hc2 := HB1.out wr.drew j (by omega)
                rw [hx] at hc1 hc2
                have hwr : IntKind.u8.wrap (j : Int) = (j : Int) := by simp [IntKind.wrap, IntKind.bits, IntKind.signed]; omega
                have hc3 : (convert 22 9 (.slice (some ⟨wr.heap.size, 0, none⟩) 1 1)).run Tryz.prog ((wr.alloc (.cells #[.int .u8 (IntKind.u8.wrap (j : Int))] 5)).drew) = .ok (.string ⟨#[x]⟩) ((wr.alloc (.cells #[.int .u8 (IntKind.u8.wrap (j : Int))] 5)).drew) := by rw [hwr]; exact hc2
                have hc4 : (convert 22 9 (.slice (some ⟨wr.heap.size, 0, none⟩) 1 1)).run Tryz.prog ((wr.alloc (.cells #[.int .u8 (j : Int)] 5)).drew) = .ok (.string ⟨#[x]⟩) ((wr.alloc (.cells #[.int .u8 (j : Int)] 5)).drew) := hc2
                clear hc1 hc2 hwr
                have hY : (⟨(adI j).toArray⟩ : ByteArray) = ⟨#[10, 0, 0]⟩ ++ ⟨#[x]⟩ := by unfold adI; rw [hx]; exact (bcat [10, 0, 0] #[x]).symm
                obtain ⟨Y, hYY⟩ : ∃ Y : ByteArray, (⟨(adI j).toArray⟩ : ByteArray) = Y := ⟨_, rfl⟩
                rw [hYY] at hcell hY
                have hgw : g < wr.heap.size := Nat.lt_of_lt_of_le hg hbq.size
                have hcA : (wr.alloc (.cells #[.int .u8 (j : Int)] 5)).cell? ⟨g, j, none⟩ = some (.string Y) := by rw [((Below.refl wr.heap.size wr).alloc (Nat.le_refl _) _).cell (p := ⟨g, j, none⟩) hgw]; exact hcell
                have hji : (0 : Int) ≤ (j : Int) := by omega
                have hji2 : (j : Int) < (m : Int) := by omega
                have hji3 : (j : Int) < 256 := by omega
                clear hcell4 hYY hx
                go_wp2
                go_region
                subst hY
                go_wp2
                go_roundw
                case rel => exact ⟨j + 1, hlt, by go_num, (hbq.alloc hbq.size _).drew⟩
                case measure => simp [intOf]; omega
              · obtain rfl : j = m := by omega
                go_wp2_with (go_at_call 12; refine (HLen.out _ _ (HT4.out.below hbq)).mono ?_; rintro e w5 ⟨rfl, hw⟩; obtain rfl := hw)
                go_ret
                exact ⟨by simp <;> omega, HBW4.out.trans (hbq.mono HBW4.out.size)⟩
          · have h2i : ¬ (32 : Int) < (tw : Int) := by omega
            have hwm : (m : Int) = (tw : Int) := by omega
            go_wp2_with (go_at_call 14; refine (HN.out _ _ HT.out (HM.out.below HBW.out)).mono ?_; rintro e w4 ⟨⟨q4, c4, rfl, hc4, hr4⟩, hb4⟩; have HT4 := Lib.hid (HT.out.below hb4); have HBW4 := Lib.hid (HBW.out.trans (hb4.mono HBW.out.size)))
            go_loopw [11] (fun iv wq => ∃ j : Nat, j ≤ m ∧ iv = .int .i64 j ∧ Below w4.heap.size w4 wq) (fun iv _ => m - (intOf iv).toNat)
            case atStart => exact ⟨0, Nat.zero_le _, rfl, Below.refl _ _⟩
            case round =>
              obtain ⟨j, hj, rfl, hbq⟩ := hrel
              by_cases hlt : j < m
              · obtain ⟨g, rfl, hg, hcell4⟩ := hr4.out j hlt
                have hcell : wr.cell? ⟨g, j, none⟩ = some (.string ⟨(adI j).toArray⟩) := by rw [hbq.cell (p := ⟨g, j, none⟩) hg]; exact hcell4
                obtain ⟨x, hx⟩ : ∃ x, UInt8.ofNat j = x := ⟨_, rfl⟩
                have hc1 := HB1.out wr j (by omega)
                have hc2 := HB1.out wr.drew j (by omega)
                rw [hx] at hc1 hc2
                have hwr : IntKind.u8.wrap (j : Int) = (j : Int) := by simp [IntKind.wrap, IntKind.bits, IntKind.signed]; omega
                have hc3 : (convert 22 9 (.slice (some ⟨wr.heap.size, 0, none⟩) 1 1)).run Tryz.prog ((wr.alloc (.cells #[.int .u8 (IntKind.u8.wrap (j : Int))] 5)).drew) = .ok (.string ⟨#[x]⟩) ((wr.alloc (.cells #[.int .u8 (IntKind.u8.wrap (j : Int))] 5)).drew) := by rw [hwr]; exact hc2
                have hc4 : (convert 22 9 (.slice (some ⟨wr.heap.size, 0, none⟩) 1 1)).run Tryz.prog ((wr.alloc (.cells #[.int .u8 (j : Int)] 5)).drew) = .ok (.string ⟨#[x]⟩) ((wr.alloc (.cells #[.int .u8 (j : Int)] 5)).drew) := hc2
                clear hc1 hc2 hwr
                have hY : (⟨(adI j).toArray⟩ : ByteArray) = ⟨#[10, 0, 0]⟩ ++ ⟨#[x]⟩ := by unfold adI; rw [hx]; exact (bcat [10, 0, 0] #[x]).symm
                obtain ⟨Y, hYY⟩ : ∃ Y : ByteArray, (⟨(adI j).toArray⟩ : ByteArray) = Y := ⟨_, rfl⟩
                rw [hYY] at hcell hY
                have hgw : g < wr.heap.size := Nat.lt_of_lt_of_le hg hbq.size
                have hcA : (wr.alloc (.cells #[.int .u8 (j : Int)] 5)).cell? ⟨g, j, none⟩ = some (.string Y) := by rw [((Below.refl wr.heap.size wr).alloc (Nat.le_refl _) _).cell (p := ⟨g, j, none⟩) hgw]; exact hcell
                have hji : (0 : Int) ≤ (j : Int) := by omega
                have hji2 : (j : Int) < (m : Int) := by omega
                have hji3 : (j : Int) < 256 := by omega
                clear hcell4 hYY hx
                go_wp2
                go_region
                subst hY
                go_wp2
                go_roundw
                case rel => exact ⟨j + 1, hlt, by go_num, (hbq.alloc hbq.size _).drew⟩
                case measure => simp [intOf]; omega
              · obtain rfl : j = m := by omega
                go_wp2_with (go_at_call 12; refine (HLen.out _ _ (HT4.out.below hbq)).mono ?_; rintro e w5 ⟨rfl, hw⟩; obtain rfl := hw)
                go_ret
                exact ⟨by simp <;> omega, HBW4.out.trans (hbq.mono HBW4.out.size)⟩
        · have h1i : ¬ (tw : Int) < (k : Int) := by omega
          by_cases h2 : 32 < k
          · have h2i : (32 : Int) < (k : Int) := by omega
            have hwm : m = 32 := by omega
            go_wp2_with (go_at_call 14; refine (HN.out _ _ HT.out (HM.out.below HBW.out)).mono ?_; rintro e w4 ⟨⟨q4, c4, rfl, hc4, hr4⟩, hb4⟩; have HT4 := Lib.hid (HT.out.below hb4); have HBW4 := Lib.hid (HBW.out.trans (hb4.mono HBW.out.size)))
            go_loopw [11] (fun iv wq => ∃ j : Nat, j ≤ m ∧ iv = .int .i64 j ∧ Below w4.heap.size w4 wq) (fun iv _ => m - (intOf iv).toNat)
            case atStart => exact ⟨0, Nat.zero_le _, rfl, Below.refl _ _⟩
            case round =>
              obtain ⟨j, hj, rfl, hbq⟩ := hrel
              by_cases hlt : j < m
              · obtain ⟨g, rfl, hg, hcell4⟩ := hr4.out j hlt
                have hcell : wr.cell? ⟨g, j, none⟩ = some (.string ⟨(adI j).toArray⟩) := by rw [hbq.cell (p := ⟨g, j, none⟩) hg]; exact hcell4
                obtain ⟨x, hx⟩ : ∃ x, UInt8.ofNat j = x := ⟨_, rfl⟩
                have hc1 := HB1.out wr j (by omega)
                have hc2 := HB1.out wr.drew j (by omega)
                rw [hx] at hc1 hc2
                have hwr : IntKind.u8.wrap (j : Int) = (j : Int) := by simp [IntKind.wrap, IntKind.bits, IntKind.signed]; omega
                have hc3 : (convert 22 9 (.slice (some ⟨wr.heap.size, 0, none⟩) 1 1)).run Tryz.prog ((wr.alloc (.cells #[.int .u8 (IntKind.u8.wrap (j : Int))] 5)).drew) = .ok (.string ⟨#[x]⟩) ((wr.alloc (.cells #[.int .u8 (IntKind.u8.wrap (j : Int))] 5)).drew) := by rw [hwr]; exact hc2
                have hc4 : (convert 22 9 (.slice (some ⟨wr.heap.size, 0, none⟩) 1 1)).run Tryz.prog ((wr.alloc (.cells #[.int .u8 (j : Int)] 5)).drew) = .ok (.string ⟨#[x]⟩) ((wr.alloc (.cells #[.int .u8 (j : Int)] 5)).drew) := hc2
                clear hc1 hc2 hwr
                have hY : (⟨(adI j).toArray⟩ : ByteArray) = ⟨#[10, 0, 0]⟩ ++ ⟨#[x]⟩ := by unfold adI; rw [hx]; exact (bcat [10, 0, 0] #[x]).symm
                obtain ⟨Y, hYY⟩ : ∃ Y : ByteArray, (⟨(adI j).toArray⟩ : ByteArray) = Y := ⟨_, rfl⟩
                rw [hYY] at hcell hY
                have hgw : g < wr.heap.size := Nat.lt_of_lt_of_le hg hbq.size
                have hcA : (wr.alloc (.cells #[.int .u8 (j : Int)] 5)).cell? ⟨g, j, none⟩ = some (.string Y) := by rw [((Below.refl wr.heap.size wr).alloc (Nat.le_refl _) _).cell (p := ⟨g, j, none⟩) hgw]; exact hcell
                have hji : (0 : Int) ≤ (j : Int) := by omega
                have hji2 : (j : Int) < (m : Int) := by omega
                have hji3 : (j : Int) < 256 := by omega
                clear hcell4 hYY hx
                go_wp2
                go_region
                subst hY
                go_wp2
                go_roundw
                case rel => exact ⟨j + 1, hlt, by go_num, (hbq.alloc hbq.size _).drew⟩
                case measure => simp [intOf]; omega
              · obtain rfl : j = m := by omega
                go_wp2_with (go_at_call 12; refine (HLen.out _ _ (HT4.out.below hbq)).mono ?_; rintro e w5 ⟨rfl, hw⟩; obtain rfl := hw)
                go_ret
                exact ⟨by simp <;> omega, HBW4.out.trans (hbq.mono HBW4.out.size)⟩
          · have h2i : ¬ (32 : Int) < (k : Int) := by omega
            have hwm : (m : Int) = (k : Int) := by omega
            go_wp2_with (go_at_call 14; refine (HN.out _ _ HT.out (HM.out.below HBW.out)).mono ?_; rintro e w4 ⟨⟨q4, c4, rfl, hc4, hr4⟩, hb4⟩; have HT4 := Lib.hid (HT.out.below hb4); have HBW4 := Lib.hid (HBW.out.trans (hb4.mono HBW.out.size)))
            go_loopw [11] (fun iv wq => ∃ j : Nat, j ≤ m ∧ iv = .int .i64 j ∧ Below w4.heap.size w4 wq) (fun iv _ => m - (intOf iv).toNat)
            case atStart => exact ⟨0, Nat.zero_le _, rfl, Below.refl _ _⟩
            case round =>
              obtain ⟨j, hj, rfl, hbq⟩ := hrel
              by_cases hlt : j < m
              · obtain ⟨g, rfl, hg, hcell4⟩ := hr4.out j hlt
                have hcell : wr.cell? ⟨g, j, none⟩ = some (.string ⟨(adI j).toArray⟩) := by rw [hbq.cell (p := ⟨g, j, none⟩) hg]; exact hcell4
                obtain ⟨x, hx⟩ : ∃ x, UInt8.ofNat j = x := ⟨_, rfl⟩
                have hc1 := HB1.out wr j (by omega)
                have hc2 := HB1.out wr.drew j (by omega)
                rw [hx] at hc1 hc2
                have hwr : IntKind.u8.wrap (j : Int) = (j : Int) := by simp [IntKind.wrap, IntKind.bits, IntKind.signed]; omega
                have hc3 : (convert 22 9 (.slice (some ⟨wr.heap.size, 0, none⟩) 1 1)).run Tryz.prog ((wr.alloc (.cells #[.int .u8 (IntKind.u8.wrap (j : Int))] 5)).drew) = .ok (.string ⟨#[x]⟩) ((wr.alloc (.cells #[.int .u8 (IntKind.u8.wrap (j : Int))] 5)).drew) := by rw [hwr]; exact hc2
                have hc4 : (convert 22 9 (.slice (some ⟨wr.heap.size, 0, none⟩) 1 1)).run Tryz.prog ((wr.alloc (.cells #[.int .u8 (j : Int)] 5)).drew) = .ok (.string ⟨#[x]⟩) ((wr.alloc (.cells #[.int .u8 (j : Int)] 5)).drew) := hc2
                clear hc1 hc2 hwr
                have hY : (⟨(adI j).toArray⟩ : ByteArray) = ⟨#[10, 0, 0]⟩ ++ ⟨#[x]⟩ := by unfold adI; rw [hx]; exact (bcat [10, 0, 0] #[x]).symm
                obtain ⟨Y, hYY⟩ : ∃ Y : ByteArray, (⟨(adI j).toArray⟩ : ByteArray) = Y := ⟨_, rfl⟩
                rw [hYY] at hcell hY
                have hgw : g < wr.heap.size := Nat.lt_of_lt_of_le hg hbq.size
                have hcA : (wr.alloc (.cells #[.int .u8 (j : Int)] 5)).cell? ⟨g, j, none⟩ = some (.string Y) := by rw [((Below.refl wr.heap.size wr).alloc (Nat.le_refl _) _).cell (p := ⟨g, j, none⟩) hgw]; exact hcell
                have hji : (0 : Int) ≤ (j : Int) := by omega
                have hji2 : (j : Int) < (m : Int) := by omega
                have hji3 : (j : Int) < 256 := by omega
                clear hcell4 hYY hx
                go_wp2
                go_region
                subst hY
                go_wp2
                go_roundw
                case rel => exact ⟨j + 1, hlt, by go_num, (hbq.alloc hbq.size _).drew⟩
                case measure => simp [intOf]; omega
              · obtain rfl : j = m := by omega
                go_wp2_with (go_at_call 12; refine (HLen.out _ _ (HT4.out.below hbq)).mono ?_; rintro e w5 ⟨rfl, hw⟩; obtain rfl := hw)
                go_ret
                exact ⟨by simp <;> omega, HBW4.out.trans (hbq.mono HBW4.out.size)⟩
  · by_cases h0 : a0 < 0
    · go_enter Tryz.func4, Tryz.ntmps4
      go_wp2_with (go_at_call 7; refine HB.out.mono ?_; rintro e w2 ⟨rfl, hb⟩)
      go_ret
      exact ⟨rfl, hb⟩
    · by_cases h60 : 60 < a0
      · go_enter Tryz.func4, Tryz.ntmps4
        go_wp2_with (go_at_call 7; refine HB.out.mono ?_; rintro e w2 ⟨rfl, hb⟩)
        go_ret
        exact ⟨rfl, hb⟩
      · by_cases h1 : a1 < 1
        · go_enter Tryz.func4, Tryz.ntmps4
          go_wp2_with (go_at_call 7; refine HB.out.mono ?_; rintro e w2 ⟨rfl, hb⟩)
          go_ret
          exact ⟨rfl, hb⟩
        · have h61 : 60 < a1 := by omega
          go_enter Tryz.func4, Tryz.ntmps4
          go_wp2_with (go_at_call 7; refine HB.out.mono ?_; rintro e w2 ⟨rfl, hb⟩)
          go_ret
          exact ⟨rfl, hb⟩
end Go.Proofs.YtdfapebggghfdaaGreatDoor

