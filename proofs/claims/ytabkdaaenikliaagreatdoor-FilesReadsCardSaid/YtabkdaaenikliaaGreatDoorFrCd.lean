/- Contracts and plain facts that the law leans on. -/
import Derived.Test.YtabkdaaenikliaaGreatDoorFrCc
import Derived.Test.YtabkdaaenikliaaGreatDoorShelfP
import Derived.LoopTactic
import Derived.Test.YtabkdaaenikliaaGreatDoorFrCb
import Derived.Laws.EntriesVeiled
import Derived.Laws.ResultCell
import Derived.Laws.Rows
import Derived.Deep.RegionHeld3
import Derived.Deep.RegionLaw
import Derived.Stop.Asserts
import Derived.Lib.Bytes
import Derived.Test.YtabkdaaenikliaaGreatDoorFrCa
import Derived.IntWalk
namespace Go.Proofs.YtabkdaaenikliaaGreatDoor
open Go.RowKit Go.Lib Go.Tx Go.Rb
/-- The library's two errors are what errors are. -/
def ErrAt (g : Nat) (w : World) : Prop := ∃ ev, w.cell? ⟨g, 0, none⟩ = some ev ∧ (ev = .nilIface ∨ ∃ te pe, ev = .iface te pe)
theorem ErrAt.below {g : Nat} {w w' : World} (h : ErrAt g w) (hb : Below w.heap.size w w') : ErrAt g w' := by
  obtain ⟨ev, h1, h2⟩ := h
  refine ⟨ev, ?_, h2⟩
  have hlt : g < w.heap.size := by
    unfold World.cell? at h1
    split at h1
    · rename_i hh
      exact (Array.getElem?_eq_some_iff.1 hh).1
    · cases h1
  rw [hb.cell (p := ⟨g, 0, none⟩) hlt]
  exact h1
def PubR (r : Option Int) (w : World) (e : Ending) (w' : World) : Prop :=
  Below w.heap.size w w' ∧ match r with
    | some n => e = .returned (.tuple #[.int .u64 n, .nilIface])
    | none => ∃ (x : Int) (g : Nat), e = .returned (.tuple #[.int .u64 x, .iface 171 (.pointer (some ⟨g, 0, none⟩))])
theorem pub16_any (s : ByteArray) (w : World) (hs : s.size ≤ 1000000) (h1 : ErrAt 1 w) (h2 : ErrAt 2 w) :
    Calls Tryz.prog 63 #[.string s, .int .i64 16, .int .i64 16] w (PubR (if hex16 s.data.toList = true then some (hexA s.data.toList) else none) w) := by
  have HP := Lib.hid (pu16_any s w hs)
  have HT1 : Hid (∀ w2 : World, Below w.heap.size w w2 → Calls Tryz.prog 88 #[.string ⟨#[80, 97, 114, 115, 101, 85, 105, 110, 116]⟩, .string s, .int .i64 16, .int .i64 16, .iface 169 (.int .i64 2)] w2 fun e w' => ∃ N, e = .returned (.iface 171 (.pointer (some ⟨N, 0, none⟩))) ∧ Below w2.heap.size w2 w') := Lib.hid (fun w2 hb => by
    obtain ⟨ev, e1, e2⟩ := h1.below hb
    exact (Tryz.strconv_toError_syntax _ s 16 16 ev w2 (by omega) e1 e2).mono fun e w' ⟨N, a, _, _, b⟩ => ⟨N, a, b⟩)
  have HT2 : Hid (∀ w2 : World, Below w.heap.size w w2 → Calls Tryz.prog 88 #[.string ⟨#[80, 97, 114, 115, 101, 85, 105, 110, 116]⟩, .string s, .int .i64 16, .int .i64 16, .iface 169 (.int .i64 1)] w2 fun e w' => ∃ N, e = .returned (.iface 171 (.pointer (some ⟨N, 0, none⟩))) ∧ Below w2.heap.size w2 w') := Lib.hid (fun w2 hb => by
    obtain ⟨ev, e1, e2⟩ := h2.below hb
    exact (Tryz.strconv_toError_range _ s 16 16 ev w2 (by omega) e1 e2).mono fun e w' ⟨N, a, _, _, b⟩ => ⟨N, a, b⟩)
  have HT : Hid (∀ w2 : World, Below w.heap.size w w2 → ∀ n : Int, (n = 1 ∨ n = 2) → Calls Tryz.prog 88 #[.string ⟨#[80, 97, 114, 115, 101, 85, 105, 110, 116]⟩, .string s, .int .i64 16, .int .i64 16, .iface 169 (.int .i64 n)] w2 fun e w' => ∃ N, e = .returned (.iface 171 (.pointer (some ⟨N, 0, none⟩))) ∧ Below w2.heap.size w2 w') := Lib.hid (fun w2 hb n hn => by
    rcases hn with rfl | rfl
    · exact HT2.out w2 hb
    · exact HT1.out w2 hb)
  clear HT1 HT2
  cases hx : hex16 s.data.toList with
  | true =>
    have HX := Lib.hid hx
    clear hx
    go_enter Tryz.func63, Tryz.ntmps63
    go_wp2_with (go_at_call 87; refine HP.out.mono ?_; rintro e w2 ⟨hb, h⟩; rw [if_pos HX.out] at h; subst h)
    go_ret2
    exact ⟨hb, rfl⟩
  | false =>
    have HX := Lib.hid hx
    clear hx
    go_enter Tryz.func63, Tryz.ntmps63
    go_wp2_with (first | (go_at_call 87; refine HP.out.mono ?_; rintro e w2 ⟨hb, h⟩; rw [if_neg (by rw [HX.out]; decide)] at h; obtain ⟨x, n, hn, rfl⟩ := h; have HNn := Lib.hid hn; clear hn) | (go_at_call 88; refine (HT.out _ hb _ HNn.out).mono ?_; rintro e w3 ⟨g, rfl, hb3⟩))
    all_goals (go_ret2; exact ⟨hb.trans (hb3.mono hb.size), _, g, rfl⟩)
end Go.Proofs.YtabkdaaenikliaaGreatDoor

namespace Go.Proofs.YtabkdaaenikliaaGreatDoor
open Go.RowKit Go.Lib Go.Tx Go.Rb
/-- An array that is being filled: its first k cells hold what f says. -/
structure Arr (w : World) (b n k : Nat) (f : Nat → Value) : Prop where
  lt : b < w.heap.size
  free : ∀ j, j < n → w.frozen? ⟨b, j, none⟩ = false
  held : ∀ j, j < n → ∃ v, w.cell? ⟨b, j, none⟩ = some v
  told : ∀ j, j < k → w.cell? ⟨b, j, none⟩ = some (f j)
theorem Arr.below {w w' : World} {b n k : Nat} {f : Nat → Value} (h : Arr w b n k f) (hb : Below w.heap.size w w') : Arr w' b n k f :=
  ⟨Nat.lt_of_lt_of_le h.lt hb.size, fun j hj => by rw [World.frozen?_of_block (w := w) (hb.block b h.lt)]; exact h.free j hj, fun j hj => by rw [hb.cell (p := ⟨b, j, none⟩) h.lt]; exact h.held j hj,
    fun j hj => by rw [hb.cell (p := ⟨b, j, none⟩) h.lt]; exact h.told j hj⟩
theorem Arr.new (w : World) (arr : Array Value) (e : TypeId) (n : Nat) (h : arr.size = n) (f : Nat → Value) : Arr (w.alloc (.cells arr e)) w.heap.size n 0 f :=
  ⟨by show w.heap.size < (w.heap.push _).size; simp, fun j hj => World.frozen?_alloc_at arr e _ j rfl, fun j hj => by rw [World.cell?_alloc_new]; exact ⟨arr[j], by simp [h, hj]⟩, fun j hj => by omega⟩
theorem Arr.step {w : World} {b n k : Nat} {f : Nat → Value} {v : Value} (h : Arr w b n k f) (hk : k < n) (hv : f k = v) : Arr (w.setCell ⟨b, k, none⟩ v) b n (k + 1) f := by
  subst hv
  have hne : ∀ j, j ≠ k → (⟨b, k, none⟩ : Addr) ≠ ⟨b, j, none⟩ := fun j hj e => by cases e; exact hj rfl
  obtain ⟨u, hu⟩ := h.held k hk
  refine ⟨by simpa using h.lt, fun j hj => by simpa using h.free j hj, fun j hj => ?_, fun j hj => ?_⟩
  · by_cases e : j = k
    · subst e; exact ⟨_, World.cell?_setCell_same w _ _ hu⟩
    · rw [World.cell?_setCell_other w _ _ _ (hne j e)]; exact h.held j hj
  · by_cases e : j = k
    · subst e
      exact World.cell?_setCell_same w _ _ hu
    · rw [World.cell?_setCell_other w _ _ _ (hne j e)]; exact h.told j (by omega)
/-- What the library's variables hold. -/
structure GloAt (w : World) : Prop where
  len : ∃ m, w.cell? ⟨0, 0, none⟩ = some (.int .i64 m)
  syn : ErrAt 1 w
  rng : ErrAt 2 w
theorem GloAt.below {w w' : World} (h : GloAt w) (hb : Below w.heap.size w w') : GloAt w' := by
  refine ⟨?_, h.syn.below hb, h.rng.below hb⟩
  obtain ⟨m, hm⟩ := h.len
  have hlt : 0 < w.heap.size := by
    unfold World.cell? at hm
    split at hm
    · rename_i hh
      exact (Array.getElem?_eq_some_iff.1 hh).1
    · cases hm
  exact ⟨m, by rw [hb.cell (p := ⟨0, 0, none⟩) hlt]; exact hm⟩
def SplitN (w : World) (P : List (List UInt8)) (e : Ending) (w' : World) : Prop :=
  ∃ cap, e = .returned (.slice (some ⟨w.heap.size, 0, none⟩) P.length cap) ∧ P.length ≤ cap ∧ cap ≤ 9223372036854775807 ∧ w.heap.size < w'.heap.size ∧
    (∀ (i : Nat) l, P[i]? = some l → w'.cell? ⟨w.heap.size, i, none⟩ = some (.string ⟨l.toArray⟩)) ∧ Below w.heap.size w w'
theorem splitN_any (s : ByteArray) (c : UInt8) (n : Nat) (w : World) (hs : s.size ≤ 1000000) (h1 : 1 ≤ n) (hn : n ≤ 1000) (hg : GloAt w) :
    Calls Tryz.prog 61 #[.string s, .string ⟨#[c]⟩, .int .i64 n] w (SplitN w (cutN c n s.data.toList)) := by
  obtain ⟨m, hm⟩ := hg.len
  refine (Tryz.strings_SplitN s ⟨#[c]⟩ n m w (by omega) hm (Nat.le_refl 1) h1 (by omega)).mono ?_
  rintro e w' ⟨rfl, rfl⟩
  have hd := splitB_data ⟨#[c]⟩ 0 (min n (s.size + 1) - 1) s
  have he : (splitB ⟨#[c]⟩ 0 (min n (s.size + 1) - 1) s).map (·.data.toList) = cutN c n s.data.toList := hd
  have hlen : (cutN c n s.data.toList).length = (splitB ⟨#[c]⟩ 0 (min n (s.size + 1) - 1) s).length := by rw [← he, List.length_map]
  have hcap := splitB_length_le ⟨#[c]⟩ 0 (min n (s.size + 1) - 1) s
  refine ⟨min n (s.size + 1), by rw [hlen], by omega, by omega, by show w.heap.size < (w.heap.push _).size; simp, fun i l hi => ?_, (Below.refl _ _).alloc (Nat.le_refl _) _⟩
  rw [World.cell?_alloc_new]
  rw [← he, List.getElem?_map] at hi
  obtain ⟨x, hx, rfl⟩ := Option.map_eq_some_iff.1 hi
  have hlt := (List.getElem?_eq_some_iff.1 hx).1
  unfold cellsOf
  rw [List.getElem?_toArray, List.getElem?_append_left (by simpa using hlt), List.getElem?_map, hx]
  rfl
theorem pub8_any (s : ByteArray) (w : World) (hs : s.size ≤ 1000000) (hg : GloAt w) :
    Calls Tryz.prog 63 #[.string s, .int .i64 10, .int .i64 8] w (PubR ((short8 s.data.toList).map fun u => (u : Int)) w) := by
  unfold short8
  cases h : parseUintB 8 s.data.toList
  case ok u =>
    refine (Tryz.strconv_ParseUint_10_at8_ok s (by omega) u h w).mono ?_
    rintro e w' ⟨rfl, h2⟩
    refine ⟨?_, rfl⟩
    rcases h2 with rfl | rfl
    · exact Below.refl _ _
    · exact Lib.bytesWorld_below _ _ _
  case range =>
    obtain ⟨ev, e1, e2⟩ := hg.rng
    refine (Tryz.strconv_ParseUint_10_at8_range s (by omega) h ev w e1 e2).mono ?_
    rintro e w' ⟨N, rfl, _, _, hb⟩
    exact ⟨hb, _, N, rfl⟩
  all_goals
    obtain ⟨ev, e1, e2⟩ := hg.syn
    refine (Any.strconv_ParseUint_10_at8_syntax Tryz.laysPu14 s (by omega) h ev w e1 e2).mono ?_
    rintro e w' ⟨N, rfl, _, _, hb⟩
    exact ⟨hb, _, N, rfl⟩
theorem pub8_some (s : ByteArray) (u : Nat) (w : World) (hs : s.size ≤ 1000000) (hg : GloAt w) (h : short8 s.data.toList = some u) :
    Calls Tryz.prog 63 #[.string s, .int .i64 10, .int .i64 8] w fun e w' => e = .returned (.tuple #[.int .u64 (u : Int), .nilIface]) ∧ Below w.heap.size w w' := by
  refine (pub8_any s w hs hg).mono ?_
  rintro e w' ⟨hb, h2⟩
  rw [h] at h2
  exact ⟨h2, hb⟩
theorem pub8_none (s : ByteArray) (w : World) (hs : s.size ≤ 1000000) (hg : GloAt w) (h : short8 s.data.toList = none) :
    Calls Tryz.prog 63 #[.string s, .int .i64 10, .int .i64 8] w fun e w' => (∃ (x : Int) (g : Nat), e = .returned (.tuple #[.int .u64 x, .iface 171 (.pointer (some ⟨g, 0, none⟩))])) ∧ Below w.heap.size w w' := by
  refine (pub8_any s w hs hg).mono ?_
  rintro e w' ⟨hb, h2⟩
  rw [h] at h2
  exact ⟨h2, hb⟩
theorem prefix48 (q : ByteArray) (b : Bool) (w : World) (h : [48].isPrefixOf q.data.toList = b) : Calls Tryz.prog 62 #[.string q, .string ⟨#[48]⟩] w fun e w' => e = .returned (.bool b) ∧ w = w' := by
  refine (Tryz.strings_HasPrefix q ⟨#[48]⟩ w).mono ?_
  rintro e w' ⟨rfl, rfl⟩
  exact ⟨by rw [← h]; rfl, rfl⟩
theorem fourP_all {P : List (List UInt8)} (h4 : P.length = 4) (h : (P.take 4).all okN = true) : fourP P = some (P.map byN) := by
  rw [List.take_of_length_le (by omega)] at h
  unfold fourP
  rw [if_pos ⟨h4, h⟩]
/-- What the cells of the array say. -/
def byV (P : List (List UInt8)) (j : Nat) : Value := .int .u8 ((byN (P.getD j [])).toNat : Int)
set_option maxHeartbeats 2000000 in
set_option maxRecDepth 100000 in
theorem pshort_any (s : ByteArray) (w : World) (hs : s.size ≤ 100000) (hg : GloAt w) :
    Calls Tryz.prog 44 #[.string s] w (FourR w (fourP (splitL 46 s.data.toList))) := by
  have hS := splitN_any s 46 5 w (by omega) (by omega) (by omega) hg
  obtain ⟨P, hP⟩ : ∃ P, cutN 46 5 s.data.toList = P := ⟨_, rfl⟩
  by_cases h4 : P.length = 4
  · have hPs : splitL 46 s.data.toList = P := by rw [← cutN_four _ (by rw [hP]; exact h4)]; exact hP
    have hpl : ∀ l ∈ P, l.length ≤ 100000 := fun l hl => by
      rw [← hPs] at hl
      have := splitG_mem 46 s.data.toList [] l hl
      have e : s.data.toList.length = s.size := rfl
      simp only [List.length_nil] at this
      omega
    rw [hPs]
    rw [hP] at hS
    have HS := Lib.hid hS
    have H4 := Lib.hid h4
    have HPL := Lib.hid hpl
    have HG := Lib.hid hg
    clear hS hpl hP hPs hg
    go_enter Tryz.func44, Tryz.ntmps44
    go_wp2_with (go_at_call 61; refine HS.out.mono ?_; rintro e w2 ⟨cap, rfl, hc1, hc2, hlt2, hrd, hb⟩; rw [H4.out] at hc1 ⊢; have HRD := Lib.hid hrd; clear hrd)
    have HB := Lib.hid hb
    have hws := hb.size
    go_loopw [17] (fun i wr => ∃ k : Nat, k ≤ 4 ∧ i = .int .i64 k ∧ Hid (Arr wr w2.heap.size 4 k (byV P)) ∧ Hid ((P.take k).all okN = true) ∧ Below w2.heap.size w2 wr) (fun i _ => 4 - (RowKit.intOf i).toNat)
    case atStart => exact ⟨0, Nat.zero_le _, rfl, Lib.hid (Arr.new _ _ _ _ rfl _), Lib.hid rfl, (Below.refl _ _).alloc (Nat.le_refl _) _⟩
    case round =>
      obtain ⟨k, hk, rfl, hA, hall, hbw⟩ := hrel
      have hws2 := hbw.size
      have hG2 : Hid (GloAt wr) := Lib.hid ((HG.out.below HB.out).below hbw)
      by_cases hlt : k < 4
      · obtain ⟨l, hl⟩ : ∃ l, P[k]? = some l := ⟨_, List.getElem?_eq_getElem (by rw [H4.out]; exact hlt)⟩
        have hcell : wr.cell? ⟨w.heap.size, k, none⟩ = some (.string ⟨l.toArray⟩) := (hbw.cell (p := ⟨w.heap.size, k, none⟩) hlt2).trans (HRD.out k l hl)
        obtain ⟨q, hq⟩ : ∃ q : ByteArray, (⟨l.toArray⟩ : ByteArray) = q := ⟨_, rfl⟩
        have hql : q.data.toList = l := by rw [← hq]
        have hqs : q.size ≤ 1000000 := by
          have := HPL.out l (List.mem_of_getElem? hl)
          have e : q.data.toList.length = q.size := rfl
          rw [hql] at e
          omega
        rw [hq] at hcell
        have HL := Lib.hid hl
        have HQL := Lib.hid hql
        clear hl hq hql
        by_cases hz : l.head? = some 48 ∧ 1 < l.length
        · have HP : Hid ([48].isPrefixOf q.data.toList = true) := Lib.hid (by
            rw [HQL.out]
            cases l with
            | nil => cases hz.1
            | cons c r => have := hz.1; simp at this; subst this; rfl)
          have hne : (q.toList == [48]) = false := by
            rw [toList_data, HQL.out, beq_eq_false_iff_ne]
            rintro rfl
            exact absurd hz.2 (by decide)
          have HN := Lib.hid (fourP_no HL.out (okN_zero hz.1 hz.2))
          clear hz
          go_wp2_with (go_at_call 62; refine (prefix48 q true _ HP.out).mono ?_; rintro e w' ⟨rfl, rfl⟩)
          go_ret2
          exact ⟨by rw [HN.out]; rfl, HB.out.trans (hbw.mono HB.out.size)⟩
        · have hnz : ¬ (q.data.toList.head? = some 48 ∧ 1 < q.data.toList.length) := by rw [HQL.out]; exact hz
          have HZ := Lib.hid hz
          clear hz
          have hpre : ∃ b c : Bool, Hid ([48].isPrefixOf q.data.toList = b) ∧ Hid ((q.toList == [48]) = c) ∧ (b = false ∨ (b = true ∧ c = true)) := by
            rw [toList_data]
            cases hq : q.data.toList with
            | nil => exact ⟨false, _, Lib.hid rfl, Lib.hid rfl, .inl rfl⟩
            | cons c r =>
              by_cases e : c = 48
              · subst e
                have hr : r = [] := by
                  cases r with
                  | nil => rfl
                  | cons d r => exact absurd ⟨by rw [hq]; rfl, by rw [hq]; simp⟩ hnz
                subst hr
                exact ⟨true, true, Lib.hid rfl, Lib.hid rfl, .inr ⟨rfl, rfl⟩⟩
              · have e2 : (48 == c) = false := by rw [beq_eq_false_iff_ne]; exact fun x => e x.symm
                exact ⟨false, _, Lib.hid (by simp [List.isPrefixOf, e2]), Lib.hid rfl, .inl rfl⟩
          clear hnz
          obtain ⟨b, c, HPB, HPC, hbc⟩ := hpre
          cases hu : short8 q.data.toList with
          | none =>
            have HU := Lib.hid hu
            have HN := Lib.hid (fourP_no HL.out (by rw [← HQL.out]; exact short8_none hu))
            clear hu
            rcases hbc with rfl | ⟨rfl, rfl⟩
            · go_wp2_with (first | (go_at_call 62; refine (prefix48 q _ _ HPB.out).mono ?_; rintro e w' ⟨rfl, rfl⟩) | (go_at_call 63; refine (pub8_none q _ hqs hG2.out HU.out).mono ?_; rintro e w4 ⟨⟨x, g, rfl⟩, hb4⟩))
              go_ret2
              exact ⟨by rw [HN.out]; rfl, HB.out.trans ((hbw.trans (hb4.mono hbw.size)).mono HB.out.size)⟩
            · have hne := HPC.out
              go_wp2_with (first | (go_at_call 62; refine (prefix48 q _ _ HPB.out).mono ?_; rintro e w' ⟨rfl, rfl⟩) | (go_at_call 63; refine (pub8_none q _ hqs hG2.out HU.out).mono ?_; rintro e w4 ⟨⟨x, g, rfl⟩, hb4⟩))
              go_ret2
              exact ⟨by rw [HN.out]; rfl, HB.out.trans ((hbw.trans (hb4.mono hbw.size)).mono HB.out.size)⟩
          | some u =>
            have HU := Lib.hid hu
            obtain ⟨ho, hby, hub⟩ := short8_ok hu (by rw [HQL.out]; exact HZ.out)
            rw [HQL.out] at ho hby
            have HO := Lib.hid ho
            have HBV : Hid (byV P k = .int .u8 (u : Int)) := Lib.hid (by
              unfold byV
              rw [List.getD_eq_getElem?_getD, HL.out, Option.getD_some, hby])
            clear hu ho hby
            rcases hbc with rfl | ⟨rfl, rfl⟩
            · go_wp2_with (first | (go_at_call 62; refine (prefix48 q _ _ HPB.out).mono ?_; rintro e w' ⟨rfl, rfl⟩) | (go_at_call 63; refine (pub8_some q u _ hqs hG2.out HU.out).mono ?_; rintro e w4 ⟨rfl, hb4⟩; have hA4 := hA.out.below hb4; obtain ⟨u', hcell4⟩ := hA4.held k hlt; have hfree := hA4.free k hlt; have HA4 := Lib.hid hA4; clear hA4))
              go_roundw
              case rel => exact ⟨k + 1, hlt, by go_num, Lib.hid (HA4.out.step hlt HBV.out), Lib.hid (all_push HL.out hall.out HO.out), (hbw.trans (hb4.mono hbw.size)).setCell (Nat.le_refl _) _⟩
              case measure => simp [RowKit.intOf]; omega
            · have hne := HPC.out
              go_wp2_with (first | (go_at_call 62; refine (prefix48 q _ _ HPB.out).mono ?_; rintro e w' ⟨rfl, rfl⟩) | (go_at_call 63; refine (pub8_some q u _ hqs hG2.out HU.out).mono ?_; rintro e w4 ⟨rfl, hb4⟩; have hA4 := hA.out.below hb4; obtain ⟨u', hcell4⟩ := hA4.held k hlt; have hfree := hA4.free k hlt; have HA4 := Lib.hid hA4; clear hA4))
              go_roundw
              case rel => exact ⟨k + 1, hlt, by go_num, Lib.hid (HA4.out.step hlt HBV.out), Lib.hid (all_push HL.out hall.out HO.out), (hbw.trans (hb4.mono hbw.size)).setCell (Nat.le_refl _) _⟩
              case measure => simp [RowKit.intOf]; omega
      · obtain rfl : k = 4 := by omega
        have HF := Lib.hid (fourP_all H4.out hall.out)
        have hstr : (convert 41 9 (.slice (some ⟨w2.heap.size, 0, none⟩) 4 4)).run Tryz.prog wr = .ok (.string ⟨(P.map byN).toArray⟩) wr := by
          have hl4 : (P.map byN).length = 4 := by rw [List.length_map]; exact H4.out
          have := run_convert_bytes_back (P := Tryz.prog) wr 41 9 5 ⟨w2.heap.size, 0, none⟩ 4 (P.map byN) Tryz.underlying41 Tryz.underlying5 Tryz.underlying9 (fun j hj => by
            have ha : (⟨w2.heap.size, 0, none⟩ : Addr).add j = ⟨w2.heap.size, j, none⟩ := by unfold Addr.add; split <;> simp_all
            rw [ha, hA.out.told j (by omega)]
            have hj' : j < P.length := by rw [List.length_map] at hj; exact hj
            unfold byV
            rw [List.getD_eq_getElem?_getD, List.getElem?_eq_getElem hj', Option.getD_some, List.getElem_map])
          rw [hl4] at this
          exact this
        go_wp2
        go_ret2
        exact ⟨by rw [HF.out]; rfl, HB.out.trans (hbw.mono HB.out.size)⟩
  · have HF : Hid (fourP (splitL 46 s.data.toList) = none) := Lib.hid (cutN_notfour _ (by rw [hP]; exact h4))
    have hlen := cutN_len 46 5 s.data.toList (by omega)
    rw [hP] at hS hlen
    have HS := Lib.hid hS
    have h4' : ((P.length : Int) != 4) = true := by simp; omega
    clear hS hP
    go_enter Tryz.func44, Tryz.ntmps44
    go_wp2_with (go_at_call 61; refine HS.out.mono ?_; rintro e w2 ⟨cap, rfl, hc1, hc2, hlt2, hrd, hb⟩; clear hrd)
    go_ret2
    exact ⟨by rw [HF.out]; rfl, hb⟩
end Go.Proofs.YtabkdaaenikliaaGreatDoor

namespace Go.Proofs.YtabkdaaenikliaaGreatDoor
open Go.RowKit Go.Lib Go.Tx Go.Rb Go.Ev
theorem pub16_some (s : ByteArray) (m : Nat) (w : World) (hs : s.size ≤ 1000000) (hg : GloAt w) (h : hex16 s.data.toList = true) (hm : hexA s.data.toList = m) :
    Calls Tryz.prog 63 #[.string s, .int .i64 16, .int .i64 16] w fun e w' => e = .returned (.tuple #[.int .u64 (m : Int), .nilIface]) ∧ Below w.heap.size w w' := by
  refine (pub16_any s w hs hg.syn hg.rng).mono ?_
  rintro e w' ⟨hb, h2⟩
  rw [if_pos h, hm] at h2
  exact ⟨h2, hb⟩
theorem pub16_none (s : ByteArray) (w : World) (hs : s.size ≤ 1000000) (hg : GloAt w) (h : hex16 s.data.toList = false) :
    Calls Tryz.prog 63 #[.string s, .int .i64 16, .int .i64 16] w fun e w' => (∃ (x : Int) (g : Nat), e = .returned (.tuple #[.int .u64 x, .iface 171 (.pointer (some ⟨g, 0, none⟩))])) ∧ Below w.heap.size w w' := by
  refine (pub16_any s w hs hg.syn hg.rng).mono ?_
  rintro e w' ⟨hb, h2⟩
  rw [if_neg (by rw [h]; decide)] at h2
  exact ⟨h2, hb⟩
theorem pgroups_nil (s : ByteArray) (w : World) (h : s.data.toList = []) :
    Calls Tryz.prog 59 #[.string s] w (FourR w (pgP s.data.toList)) := by
  have HG : Hid (pgP s.data.toList = some []) := Lib.hid (by unfold pgP; rw [if_pos h])
  have e1 : s = ⟨#[]⟩ := by apply ByteArray.ext; apply Array.ext'; exact h
  subst e1
  clear h
  go_enter Tryz.func59, Tryz.ntmps59
  go_wp2
  go_ret2
  exact ⟨by rw [HG.out]; rfl, Below.refl _ _⟩
theorem four_or (r : Option (List UInt8)) : (∃ f, r = some f) ∨ r = none := by cases r with
  | none => exact .inr rfl
  | some f => exact .inl ⟨f, rfl⟩
theorem hex16_bd {l : List UInt8} (h : hex16 l = true) : ∃ m : Nat, hexA l = m ∧ m ≤ 65535 := by
  unfold hex16 at h
  simp only [Bool.and_eq_true, decide_eq_true_eq] at h
  have h0 : 0 ≤ hexA l := hexA_from l 0 (fun c hc => by
    have := h.1.2
    unfold hexOk at this
    rw [List.all_eq_true] at this
    simpa using this c hc) (by omega)
  exact ⟨(hexA l).toNat, by omega, by omega⟩
theorem join_str (a f : List UInt8) : (⟨a.toArray⟩ : ByteArray) ++ ⟨f.toArray⟩ = ⟨(a ++ f).toArray⟩ := by
  apply ByteArray.ext
  apply Array.ext'
  simp
set_option maxHeartbeats 4000000 in
set_option maxRecDepth 100000 in
theorem pgroups_yes (s : ByteArray) (w : World) (hs : s.size ≤ 100000) (hg : GloAt w) (h0 : s.data.toList ≠ []) (P : List (List UInt8)) (N : Nat) (hP : cutN 58 9 s.data.toList = P) (hN : P.length = N + 1) (lst : List UInt8) (hlst : P[N]? = some lst) (f : List UInt8) (hf : fourP (splitL 46 lst) = some f) (hpl : ∀ l ∈ P, l.length ≤ 100000) :
    Calls Tryz.prog 59 #[.string s] w (FourR w (pgP s.data.toList)) := by
  obtain ⟨i5, hi, hz0, hz1, hz2⟩ := info_parts info5
  have hS := splitN_any s 58 9 w (by omega) (by omega) (by omega) hg
  have hlen := cutN_len 58 9 s.data.toList (by omega)
  rw [hP] at hS hlen
  rw [hN] at hlen
  have hl2 : P.getLastD [] = lst := by
    rw [List.getLastD_eq_getLast?, List.getLast?_eq_getElem?, hN, Nat.add_sub_cancel, hlst]; rfl
  have hpg : pgP s.data.toList = (hexAll (P.take N)).map (· ++ f) := by
    unfold pgP
    rw [if_neg h0, hP, hl2, hf, List.dropLast_eq_take, hN]; rfl
  have HE : Hid (∀ a, hexAll (P.take N) = some a → pgP s.data.toList = some (a ++ f)) := Lib.hid (fun a h => by rw [hpg, h]; rfl)
  have HK : Hid (∀ l ∈ P.take N, hexG l = none → pgP s.data.toList = none) := Lib.hid (fun l hl h => by rw [hpg, hexAll_no hl h]; rfl)
  have hf4 := fourP_len hf
  have HS := Lib.hid hS
  have HN := Lib.hid hN
  have HL := Lib.hid hlst
  have HPL := Lib.hid hpl
  have HG := Lib.hid hg
  have hll := hpl lst (List.mem_of_getElem? hlst)
  obtain ⟨ql, hq⟩ : ∃ q : ByteArray, (⟨lst.toArray⟩ : ByteArray) = q := ⟨_, rfl⟩
  have hqs : ql.size ≤ 100000 := by
    rw [← hq]
    show lst.toArray.size ≤ _
    simpa using hll
  have hqf : fourP (splitL 46 ql.data.toList) = some f := by rw [← hq]; exact hf
  have HQF := Lib.hid hqf
  have HQ := Lib.hid hq
  have e1 : ¬ s.toList = [] := by rw [toList_data]; exact h0
  have e2 : s.toList.isEmpty = false := by cases hh : s.toList with | nil => exact absurd hh e1 | cons x y => rfl
  clear hS hN hlst hpl hg hf hP hpg hl2 hq hqf h0 hll
  go_enter Tryz.func59, Tryz.ntmps59
  go_wp2_with (first | (go_at_call 61; refine HS.out.mono ?_; rintro e w2 ⟨cap, rfl, hc1, hc2, hlt2, hrd, hb⟩; rw [HN.out] at hc1 ⊢; have hlc := hrd N lst HL.out; rw [HQ.out] at hlc; have HRD := Lib.hid hrd; have HB := Lib.hid hb; have hbs := hb.size; clear hrd hb) | (go_at_call 44; refine (pshort_any ql _ hqs (HG.out.below HB.out)).mono ?_; rw [HQF.out]; rintro e w3 ⟨rfl, hb3⟩; simp only [Option.getD_some, Option.getD_none, Option.isSome_some, Option.isSome_none]; have HB3 := Lib.hid hb3; have hbs3 := hb3.size; clear hb3))
  go_loopw [8, 36] (fun av i wr => ∃ (k : Nat) (a : List UInt8), k ≤ N ∧ i = .int .i64 k ∧ Hid (RB w3.heap.size wr av a) ∧ Hid (hexAll (P.take k) = some a) ∧ Hid (a.length = 2 * k) ∧ Below w3.heap.size w3 wr) (fun _ i _ => N - (RowKit.intOf i).toNat)
  case atStart => exact ⟨0, [], Nat.zero_le _, rfl, Lib.hid (RB.nil _ _), Lib.hid rfl, Lib.hid rfl, Below.refl _ _⟩
  case round =>
    obtain ⟨k, a, hk, rfl, hO, hall, hal, hbw⟩ := hrel
    have hws := hbw.size
    have hal2 : a.length ≤ 1000 := by have := hal.out; omega
    obtain ⟨pa, ca, rfl, hca1, hca2⟩ := hO.out.shape
    have hG2 : Hid (GloAt wr) := Lib.hid (((HG.out.below HB.out).below HB3.out).below hbw)
    by_cases hlt : k < N
    · obtain ⟨l, hl⟩ : ∃ l, P[k]? = some l := ⟨_, List.getElem?_eq_getElem (by rw [HN.out]; omega)⟩
      have hcell : wr.cell? ⟨w.heap.size, k, none⟩ = some (.string ⟨l.toArray⟩) := (hbw.cell (p := ⟨w.heap.size, k, none⟩) (by show w.heap.size < _; omega)).trans ((HB3.out.cell (p := ⟨w.heap.size, k, none⟩) hlt2).trans (HRD.out k l hl))
      obtain ⟨q, hq⟩ : ∃ q : ByteArray, (⟨l.toArray⟩ : ByteArray) = q := ⟨_, rfl⟩
      have hql : q.data.toList = l := by rw [← hq]
      have hqs : q.size ≤ 1000000 := by
        have := HPL.out l (List.mem_of_getElem? hl)
        have e : q.data.toList.length = q.size := rfl
        rw [hql] at e
        omega
      rw [hq] at hcell
      have HL := Lib.hid hl
      have HQL := Lib.hid hql
      have HKl : Hid (hexG l = none → pgP s.data.toList = none) := Lib.hid (HK.out l (by
        have := List.getElem?_take_of_lt (l := P) (i := k) (j := N) hlt
        rw [hl] at this
        exact List.mem_of_getElem? this))
      have hqz : q.data.toList.length = q.size := rfl
      rw [hql] at hqz
      have HQZ := Lib.hid hqz
      clear hl hq hql hqz
      cases hx : hex16 q.data.toList with
      | false =>
        have HX := Lib.hid hx
        have HY := Lib.hid (HKl.out (hexG_no16 (by rw [← HQL.out]; exact hx)))
        clear hx
        go_wp2_with (go_at_call 63; refine (pub16_none q _ hqs hG2.out HX.out).mono ?_; rintro e w4 ⟨⟨x, g, rfl⟩, hb4⟩)
        go_ret2
        exact ⟨by rw [HY.out]; rfl, HB.out.trans ((HB3.out.trans ((hbw.trans (hb4.mono hbw.size)).mono HB3.out.size)).mono HB.out.size)⟩
      | true =>
        obtain ⟨m, hm, hm2⟩ := hex16_bd hx
        have HX := Lib.hid hx
        have HM := Lib.hid hm
        by_cases h4 : 4 < q.size
        · have HY := Lib.hid (HKl.out (hexG_long (by rw [HQZ.out]; exact h4)))
          clear hx hm
          go_wp2_with (go_at_call 63; refine (pub16_some q m _ hqs hG2.out HX.out HM.out).mono ?_; rintro e w4 ⟨rfl, hb4⟩)
          go_ret2
          exact ⟨by rw [HY.out]; rfl, HB.out.trans ((HB3.out.trans ((hbw.trans (hb4.mono hbw.size)).mono HB3.out.size)).mono HB.out.size)⟩
        · have h4' : q.size ≤ 4 := by omega
          have HY : Hid (hexG l = some [UInt8.ofNat (m / 256), UInt8.ofNat (m % 256)]) := Lib.hid (by
            have := hexG_16 hx (by rw [HQL.out, HQZ.out]; exact h4')
            rw [hm, HQL.out] at this
            exact this)
          clear hx hm h4
          go_wp2_with (first | (go_at_call 63; refine (pub16_some q m _ hqs hG2.out HX.out HM.out).mono ?_; rintro e w4 ⟨rfl, hb4⟩; have HO4 := Lib.hid (hO.out.below hb4); have hbs4 := hb4.size) | (at_builtin; refine wpList_append_rb rfl _ _ 41 41 rfl Tryz.underlying41 Tryz.underlying41 (by intro k h; cases h) hi hz0 hz1 hz2 (B := w3.heap.size) (l := a) (m := [UInt8.ofNat (m / 256), UInt8.ofNat (m % 256)]) rfl rfl (HO4.out.alloc _) (lit2 _ () (by simp; omega) (by simp)) (Nat.le_trans (Nat.le_trans hws hbs4) (Nat.le_of_lt (by simp))) (by simp; omega) ?_; intro s' w5 hO5 hb5))
          go_roundw
          case rel => exact ⟨k + 1, a ++ [UInt8.ofNat (m / 256), UInt8.ofNat (m % 256)], hlt, by go_num, Lib.hid hO5, Lib.hid (hexAll_step HL.out hall.out HY.out), Lib.hid (by have := hal.out; simp; omega), ((hbw.trans (hb4.mono hws)).alloc (Nat.le_trans hws hbs4) _).trans hb5⟩
          case measure => simp [RowKit.intOf]; omega
    · obtain rfl : k = N := by omega
      have HF := Lib.hid (HE.out a hall.out)
      have hstr := hO.out.str (P := Tryz.prog) (src := 41) (dst := 9) Tryz.underlying41 Tryz.underlying5 Tryz.underlying9
      have hX : (⟨a.toArray⟩ : ByteArray).size ≤ 1000 := by show a.toArray.size ≤ _; simp; omega
      have hX2 : (⟨f.toArray⟩ : ByteArray).size ≤ 1000 := by show f.toArray.size ≤ _; simp; omega
      go_wp2
      go_ret2
      exact ⟨by rw [HF.out]; simp only [Option.getD_some, Option.isSome_some, ← join_str]; rfl, HB.out.trans ((HB3.out.trans (hbw.mono HB3.out.size)).mono HB.out.size)⟩
set_option maxHeartbeats 4000000 in
set_option maxRecDepth 100000 in
theorem pgroups_no (s : ByteArray) (w : World) (hs : s.size ≤ 100000) (hg : GloAt w) (h0 : s.data.toList ≠ []) (P : List (List UInt8)) (N : Nat) (hP : cutN 58 9 s.data.toList = P) (hN : P.length = N + 1) (lst : List UInt8) (hlst : P[N]? = some lst) (hf : fourP (splitL 46 lst) = none) (hpl : ∀ l ∈ P, l.length ≤ 100000) :
    Calls Tryz.prog 59 #[.string s] w (FourR w (pgP s.data.toList)) := by
  obtain ⟨i5, hi, hz0, hz1, hz2⟩ := info_parts info5
  have hS := splitN_any s 58 9 w (by omega) (by omega) (by omega) hg
  have hlen := cutN_len 58 9 s.data.toList (by omega)
  rw [hP] at hS hlen
  rw [hN] at hlen
  have hl2 : P.getLastD [] = lst := by
    rw [List.getLastD_eq_getLast?, List.getLast?_eq_getElem?, hN, Nat.add_sub_cancel, hlst]; rfl
  have hpg : pgP s.data.toList = hexAll P := by
    unfold pgP
    rw [if_neg h0, hP, hl2, hf]
  have htk : P.take (N + 1) = P := List.take_of_length_le (by omega)
  have HE : Hid (∀ a, hexAll (P.take (N + 1)) = some a → pgP s.data.toList = some (a ++ [])) := Lib.hid (fun a h => by rw [htk] at h; rw [hpg, h, List.append_nil])
  have HK : Hid (∀ l ∈ P.take (N + 1), hexG l = none → pgP s.data.toList = none) := Lib.hid (fun l hl h => by rw [htk] at hl; rw [hpg, hexAll_no hl h])
  clear htk
  have HS := Lib.hid hS
  have HN := Lib.hid hN
  have HL := Lib.hid hlst
  have HPL := Lib.hid hpl
  have HG := Lib.hid hg
  have hll := hpl lst (List.mem_of_getElem? hlst)
  obtain ⟨ql, hq⟩ : ∃ q : ByteArray, (⟨lst.toArray⟩ : ByteArray) = q := ⟨_, rfl⟩
  have hqs : ql.size ≤ 100000 := by
    rw [← hq]
    show lst.toArray.size ≤ _
    simpa using hll
  have hqf : fourP (splitL 46 ql.data.toList) = none := by rw [← hq]; exact hf
  have HQF := Lib.hid hqf
  have HQ := Lib.hid hq
  have e1 : ¬ s.toList = [] := by rw [toList_data]; exact h0
  have e2 : s.toList.isEmpty = false := by cases hh : s.toList with | nil => exact absurd hh e1 | cons x y => rfl
  clear hS hN hlst hpl hg hf hP hpg hl2 hq hqf h0 hll
  go_enter Tryz.func59, Tryz.ntmps59
  go_wp2_with (first | (go_at_call 61; refine HS.out.mono ?_; rintro e w2 ⟨cap, rfl, hc1, hc2, hlt2, hrd, hb⟩; rw [HN.out] at hc1 ⊢; have hlc := hrd N lst HL.out; rw [HQ.out] at hlc; have HRD := Lib.hid hrd; have HB := Lib.hid hb; have hbs := hb.size; clear hrd hb) | (go_at_call 44; refine (pshort_any ql _ hqs (HG.out.below HB.out)).mono ?_; rw [HQF.out]; rintro e w3 ⟨rfl, hb3⟩; simp only [Option.getD_some, Option.getD_none, Option.isSome_some, Option.isSome_none]; have HB3 := Lib.hid hb3; have hbs3 := hb3.size; clear hb3))
  go_loopw [8, 36] (fun av i wr => ∃ (k : Nat) (a : List UInt8), k ≤ (N + 1) ∧ i = .int .i64 k ∧ Hid (RB w3.heap.size wr av a) ∧ Hid (hexAll (P.take k) = some a) ∧ Hid (a.length = 2 * k) ∧ Below w3.heap.size w3 wr) (fun _ i _ => (N + 1) - (RowKit.intOf i).toNat)
  case atStart => exact ⟨0, [], Nat.zero_le _, rfl, Lib.hid (RB.nil _ _), Lib.hid rfl, Lib.hid rfl, Below.refl _ _⟩
  case round =>
    obtain ⟨k, a, hk, rfl, hO, hall, hal, hbw⟩ := hrel
    have hws := hbw.size
    have hal2 : a.length ≤ 1000 := by have := hal.out; omega
    obtain ⟨pa, ca, rfl, hca1, hca2⟩ := hO.out.shape
    have hG2 : Hid (GloAt wr) := Lib.hid (((HG.out.below HB.out).below HB3.out).below hbw)
    by_cases hlt : k < (N + 1)
    · obtain ⟨l, hl⟩ : ∃ l, P[k]? = some l := ⟨_, List.getElem?_eq_getElem (by rw [HN.out]; omega)⟩
      have hcell : wr.cell? ⟨w.heap.size, k, none⟩ = some (.string ⟨l.toArray⟩) := (hbw.cell (p := ⟨w.heap.size, k, none⟩) (by show w.heap.size < _; omega)).trans ((HB3.out.cell (p := ⟨w.heap.size, k, none⟩) hlt2).trans (HRD.out k l hl))
      obtain ⟨q, hq⟩ : ∃ q : ByteArray, (⟨l.toArray⟩ : ByteArray) = q := ⟨_, rfl⟩
      have hql : q.data.toList = l := by rw [← hq]
      have hqs : q.size ≤ 1000000 := by
        have := HPL.out l (List.mem_of_getElem? hl)
        have e : q.data.toList.length = q.size := rfl
        rw [hql] at e
        omega
      rw [hq] at hcell
      have HL := Lib.hid hl
      have HQL := Lib.hid hql
      have HKl : Hid (hexG l = none → pgP s.data.toList = none) := Lib.hid (HK.out l (by
        have := List.getElem?_take_of_lt (l := P) (i := k) (j := (N + 1)) hlt
        rw [hl] at this
        exact List.mem_of_getElem? this))
      have hqz : q.data.toList.length = q.size := rfl
      rw [hql] at hqz
      have HQZ := Lib.hid hqz
      clear hl hq hql hqz
      cases hx : hex16 q.data.toList with
      | false =>
        have HX := Lib.hid hx
        have HY := Lib.hid (HKl.out (hexG_no16 (by rw [← HQL.out]; exact hx)))
        clear hx
        go_wp2_with (go_at_call 63; refine (pub16_none q _ hqs hG2.out HX.out).mono ?_; rintro e w4 ⟨⟨x, g, rfl⟩, hb4⟩)
        go_ret2
        exact ⟨by rw [HY.out]; rfl, HB.out.trans ((HB3.out.trans ((hbw.trans (hb4.mono hbw.size)).mono HB3.out.size)).mono HB.out.size)⟩
      | true =>
        obtain ⟨m, hm, hm2⟩ := hex16_bd hx
        have HX := Lib.hid hx
        have HM := Lib.hid hm
        by_cases h4 : 4 < q.size
        · have HY := Lib.hid (HKl.out (hexG_long (by rw [HQZ.out]; exact h4)))
          clear hx hm
          go_wp2_with (go_at_call 63; refine (pub16_some q m _ hqs hG2.out HX.out HM.out).mono ?_; rintro e w4 ⟨rfl, hb4⟩)
          go_ret2
          exact ⟨by rw [HY.out]; rfl, HB.out.trans ((HB3.out.trans ((hbw.trans (hb4.mono hbw.size)).mono HB3.out.size)).mono HB.out.size)⟩
        · have h4' : q.size ≤ 4 := by omega
          have HY : Hid (hexG l = some [UInt8.ofNat (m / 256), UInt8.ofNat (m % 256)]) := Lib.hid (by
            have := hexG_16 hx (by rw [HQL.out, HQZ.out]; exact h4')
            rw [hm, HQL.out] at this
            exact this)
          clear hx hm h4
          go_wp2_with (first | (go_at_call 63; refine (pub16_some q m _ hqs hG2.out HX.out HM.out).mono ?_; rintro e w4 ⟨rfl, hb4⟩; have HO4 := Lib.hid (hO.out.below hb4); have hbs4 := hb4.size) | (at_builtin; refine wpList_append_rb rfl _ _ 41 41 rfl Tryz.underlying41 Tryz.underlying41 (by intro k h; cases h) hi hz0 hz1 hz2 (B := w3.heap.size) (l := a) (m := [UInt8.ofNat (m / 256), UInt8.ofNat (m % 256)]) rfl rfl (HO4.out.alloc _) (lit2 _ () (by simp; omega) (by simp)) (Nat.le_trans (Nat.le_trans hws hbs4) (Nat.le_of_lt (by simp))) (by simp; omega) ?_; intro s' w5 hO5 hb5))
          go_roundw
          case rel => exact ⟨k + 1, a ++ [UInt8.ofNat (m / 256), UInt8.ofNat (m % 256)], hlt, by go_num, Lib.hid hO5, Lib.hid (hexAll_step HL.out hall.out HY.out), Lib.hid (by have := hal.out; simp; omega), ((hbw.trans (hb4.mono hws)).alloc (Nat.le_trans hws hbs4) _).trans hb5⟩
          case measure => simp [RowKit.intOf]; omega
    · obtain rfl : k = (N + 1) := by omega
      have HF := Lib.hid (HE.out a hall.out)
      have hstr := hO.out.str (P := Tryz.prog) (src := 41) (dst := 9) Tryz.underlying41 Tryz.underlying5 Tryz.underlying9
      have hX : (⟨a.toArray⟩ : ByteArray).size ≤ 1000 := by show a.toArray.size ≤ _; simp; omega
      go_wp2
      go_ret2
      exact ⟨by rw [HF.out]; simp only [Option.getD_some, Option.isSome_some, ← join_str]; rfl, HB.out.trans ((HB3.out.trans (hbw.mono HB3.out.size)).mono HB.out.size)⟩
theorem pgroups_any (s : ByteArray) (w : World) (hs : s.size ≤ 100000) (hg : GloAt w) :
    Calls Tryz.prog 59 #[.string s] w (FourR w (pgP s.data.toList)) := by
  by_cases h0 : s.data.toList = []
  · exact pgroups_nil s w h0
  have hlen := cutN_len 58 9 s.data.toList (by omega)
  obtain ⟨P, hP⟩ : ∃ P, cutN 58 9 s.data.toList = P := ⟨_, rfl⟩
  rw [hP] at hlen
  obtain ⟨N, hN⟩ : ∃ N, P.length = N + 1 := ⟨P.length - 1, by omega⟩
  obtain ⟨lst, hlst⟩ : ∃ l, P[N]? = some l := ⟨_, List.getElem?_eq_getElem (by omega)⟩
  have hpl : ∀ l ∈ P, l.length ≤ 100000 := fun l hl => by
    rw [← hP] at hl
    have := cutN_mem hl
    have e : s.data.toList.length = s.size := rfl
    omega
  rcases four_or (fourP (splitL 46 lst)) with ⟨f, hf⟩ | hf
  · exact pgroups_yes s w hs hg h0 P N hP hN lst hlst f hf hpl
  · exact pgroups_no s w hs hg h0 P N hP hN lst hlst hf hpl
end Go.Proofs.YtabkdaaenikliaaGreatDoor

namespace Go.Proofs.YtabkdaaenikliaaGreatDoor
open Go.RowKit Go.Lib Go.Tx Go.Rb Go.Ev
theorem below_drewN (w : World) : ∀ n, Below w.heap.size w (w.drewN n)
  | 0 => Below.refl _ _
  | n + 1 => (below_drewN w n).drew
theorem idx_mem (l : List UInt8) (c : UInt8) : decide (0 ≤ Lib.indexByte l c) = decide (c ∈ l) := by
  have h := Lib.indexByte_ge l c
  by_cases h1 : Lib.indexByte l c = -1
  · have := Lib.indexByte_none h1
    have hn : ¬ c ∈ l := fun hm => by
      obtain ⟨k, hk, e⟩ := List.getElem_of_mem hm
      exact this k (by rw [List.getElem?_eq_getElem hk, e])
    rw [h1]; simp [hn]
  · obtain ⟨o, ho⟩ : ∃ o : Nat, Lib.indexByte l c = o := ⟨(Lib.indexByte l c).toNat, by omega⟩
    have := (Lib.indexByte_some ho).1
    have hm := List.mem_of_getElem? this
    rw [ho]; simp [hm]
theorem contains_is (s : ByteArray) (c : UInt8) (b : Bool) (w : World) (h : decide (c ∈ s.data.toList) = b) : Calls Tryz.prog 42 #[.string s, .string ⟨#[c]⟩] w fun e w' => e = .returned (.bool b) ∧ w = w' := by
  refine (Tryz.strings_Contains_one s c w).mono ?_
  rintro e w' ⟨rfl, rfl⟩
  exact ⟨by rw [idx_mem, h], rfl⟩
theorem cut_is (s : ByteArray) (w : World) (hs : s.size ≤ 100000) (hg : GloAt w) (A B : List UInt8) (b : Bool) (h : Lib.cut s.data.toList [58, 58] = (A, B, b)) :
    Calls Tryz.prog 49 #[.string s, .string ⟨#[58, 58]⟩] w fun e w' => e = .returned (.tuple #[.string ⟨A.toArray⟩, .string ⟨B.toArray⟩, .bool b]) ∧ Below w.heap.size w w' := by
  obtain ⟨m, hm⟩ := hg.len
  refine (Tryz.strings_Cut s ⟨#[58, 58]⟩ m w (by omega) hm).mono ?_
  rintro e w' ⟨rfl, n, rfl⟩
  have h' : Lib.cut s.data.toList (ByteArray.data ⟨#[58, 58]⟩).toList = (A, B, b) := h
  rw [h']
  exact ⟨rfl, below_drewN w n⟩
theorem cut_len (l sep : List UInt8) : (Lib.cut l sep).1.length ≤ l.length ∧ (Lib.cut l sep).2.1.length ≤ l.length := by
  unfold Lib.cut
  split
  · simp; omega
  · simp
theorem pgP_len {s a : List UInt8} (h : pgP s = some a) : a.length ≤ 22 := by
  unfold pgP at h
  have hl := cutN_len 58 9 s (by omega)
  split at h
  · cases h; simp
  · split at h
    · rename_i f hf
      have := fourP_len hf
      cases hx : hexAll (cutN 58 9 s).dropLast with
      | none => rw [hx] at h; cases h
      | some x =>
        rw [hx] at h
        cases h
        have h2 := hexAll_len hx
        rw [List.length_dropLast] at h2
        simp
        omega
    · have := hexAll_len h
      omega
theorem pg_call (l : List UInt8) (w : World) (hl : l.length ≤ 100000) (hg : GloAt w) (r : Option (List UInt8)) (hr : pgP l = r) : Calls Tryz.prog 59 #[.string ⟨l.toArray⟩] w (FourR w r) := by
  have := pgroups_any ⟨l.toArray⟩ w (by show l.toArray.size ≤ _; simpa using hl) hg
  rw [← hr]
  exact this
theorem strings_zero (z : Nat) (w : World) (hz : z ≤ 16) : Calls Tryz.prog 60 #[.string ⟨#[0]⟩, .int .i64 z] w fun e w' => e = .returned (.string ⟨(List.replicate z (0 : UInt8)).toArray⟩) ∧ Below w.heap.size w w' := by
  refine (Tryz.strings_Repeat ⟨#[0]⟩ z w (by omega) (by show 1 * z ≤ _; omega)).mono ?_
  rintro e w' ⟨rfl, hb⟩
  refine ⟨?_, hb⟩
  have h1 : repeatL (ByteArray.data ⟨#[0]⟩).toList z = List.replicate z (0 : UInt8) := by
    have h2 := repeatL_replicate (0 : UInt8) 1 z
    rw [Nat.mul_one] at h2
    exact h2
  rw [h1]
/-- No ::. -/
theorem plong_plain (s : ByteArray) (w : World) (hs : s.size ≤ 100000) (hg : GloAt w) (A B : List UInt8) (hc : Lib.cut s.data.toList [58, 58] = (A, B, false)) :
    Calls Tryz.prog 43 #[.string s] w (FourR w (longP s.data.toList)) := by
  obtain ⟨r, hr⟩ : ∃ r, pgP s.data.toList = r := ⟨_, rfl⟩
  have HX : Hid (longP s.data.toList = full16 r) := Lib.hid (by unfold longP; rw [hc, hr]; rfl)
  have HC := Lib.hid (cut_is s w hs hg A B false hc)
  have HG := Lib.hid hg
  have HP : Hid (∀ W, GloAt W → Calls Tryz.prog 59 #[.string s] W (FourR W r)) := Lib.hid (fun W h => by have := pgroups_any s W hs h; rw [hr] at this; exact this)
  clear hc hr hg
  cases r with
  | none =>
    go_enter Tryz.func43, Tryz.ntmps43
    go_wp2_with (first | (go_at_call 49; refine HC.out.mono ?_; rintro e w2 ⟨rfl, hb2⟩; have HB2 := Lib.hid hb2; clear hb2) | (go_at_call 59; refine (HP.out _ (HG.out.below HB2.out)).mono ?_; rintro e w3 ⟨rfl, hb3⟩; simp only [Option.getD_none, Option.isSome_none]))
    go_ret2
    exact ⟨by rw [HX.out]; rfl, HB2.out.trans (hb3.mono HB2.out.size)⟩
  | some b =>
    by_cases h16 : b.length = 16
    · have e16 : ((b.length : Int) != 16) = false := by simp; omega
      have H16 := Lib.hid h16
      clear h16
      go_enter Tryz.func43, Tryz.ntmps43
      go_wp2_with (first | (go_at_call 49; refine HC.out.mono ?_; rintro e w2 ⟨rfl, hb2⟩; have HB2 := Lib.hid hb2; clear hb2) | (go_at_call 59; refine (HP.out _ (HG.out.below HB2.out)).mono ?_; rintro e w3 ⟨rfl, hb3⟩; simp only [Option.getD_some, Option.isSome_some]))
      go_ret2
      exact ⟨by rw [HX.out]; simp only [full16, if_pos H16.out]; rfl, HB2.out.trans (hb3.mono HB2.out.size)⟩
    · have e16 : ((b.length : Int) != 16) = true := by simp; omega
      have H16 := Lib.hid h16
      clear h16
      go_enter Tryz.func43, Tryz.ntmps43
      go_wp2_with (first | (go_at_call 49; refine HC.out.mono ?_; rintro e w2 ⟨rfl, hb2⟩; have HB2 := Lib.hid hb2; clear hb2) | (go_at_call 59; refine (HP.out _ (HG.out.below HB2.out)).mono ?_; rintro e w3 ⟨rfl, hb3⟩; simp only [Option.getD_some, Option.isSome_some]))
      go_ret2
      exact ⟨by rw [HX.out]; simp only [full16, if_neg H16.out]; rfl, HB2.out.trans (hb3.mono HB2.out.size)⟩
set_option maxHeartbeats 2000000 in
theorem plong_cut (s : ByteArray) (w : World) (hs : s.size ≤ 100000) (hg : GloAt w) (A B : List UInt8) (hc : Lib.cut s.data.toList [58, 58] = (A, B, true)) :
    Calls Tryz.prog 43 #[.string s] w (FourR w (longP s.data.toList)) := by
  have HC := Lib.hid (cut_is s w hs hg A B true hc)
  have hln := cut_len s.data.toList [58, 58]
  rw [hc] at hln
  have hsz : s.data.toList.length = s.size := rfl
  simp only [hsz] at hln
  have HA : Hid (A.length ≤ 100000) := Lib.hid (by omega)
  have HB : Hid (B.length ≤ 100000) := Lib.hid (by omega)
  have HG := Lib.hid hg
  obtain ⟨qa, hqa⟩ : ∃ q : ByteArray, (⟨A.toArray⟩ : ByteArray) = q := ⟨_, rfl⟩
  obtain ⟨qb, hqb⟩ : ∃ q : ByteArray, (⟨B.toArray⟩ : ByteArray) = q := ⟨_, rfl⟩
  rw [hqa, hqb] at HC
  by_cases hd : 46 ∈ A
  · have HX : Hid (longP s.data.toList = none) := Lib.hid (by unfold longP; rw [hc, if_pos rfl, if_pos hd])
    have HD : Hid (decide (46 ∈ (⟨A.toArray⟩ : ByteArray).data.toList) = true) := Lib.hid (by simpa using hd)
    rw [hqa] at HD
    clear hc hg hd hln hsz
    go_enter Tryz.func43, Tryz.ntmps43
    go_wp2_with (first | (go_at_call 49; refine HC.out.mono ?_; rintro e w2 ⟨rfl, hb2⟩; have HB2 := Lib.hid hb2; clear hb2) | (go_at_call 42; refine (contains_is _ _ _ _ HD.out).mono ?_; rintro e w3 ⟨rfl, rfl⟩))
    go_ret2
    exact ⟨by rw [HX.out]; rfl, HB2.out⟩
  · have HD : Hid (decide (46 ∈ (⟨A.toArray⟩ : ByteArray).data.toList) = false) := Lib.hid (by simpa using hd)
    obtain ⟨r1, h1⟩ : ∃ r, pgP A = r := ⟨_, rfl⟩
    obtain ⟨r2, h2⟩ : ∃ r, pgP B = r := ⟨_, rfl⟩
    have HX : Hid (longP s.data.toList = bothP r1 r2) := Lib.hid (by unfold longP; rw [hc, if_pos rfl, if_neg hd, h1, h2])
    obtain ⟨x1, hx1⟩ : ∃ q : ByteArray, (⟨(r1.getD []).toArray⟩ : ByteArray) = q := ⟨_, rfl⟩
    obtain ⟨x2, hx2⟩ : ∃ q : ByteArray, (⟨(r2.getD []).toArray⟩ : ByteArray) = q := ⟨_, rfl⟩
    obtain ⟨b1, hb1⟩ : ∃ b, r1.isSome = b := ⟨_, rfl⟩
    obtain ⟨b2, hb2⟩ : ∃ b, r2.isSome = b := ⟨_, rfl⟩
    have HP : Hid (∀ W q, GloAt W → ∀ x b, ((q = qa ∧ x = x1 ∧ b = b1) ∨ (q = qb ∧ x = x2 ∧ b = b2)) → Calls Tryz.prog 59 #[.string q] W fun e w' => e = .returned (.tuple #[.string x, .bool b]) ∧ Below W.heap.size W w') := Lib.hid (fun W q h x b hh => by
      rcases hh with ⟨rfl, rfl, rfl⟩ | ⟨rfl, rfl, rfl⟩
      · rw [← hx1, ← hb1, ← hqa]; exact pg_call A W HA.out h r1 h1
      · rw [← hx2, ← hb2, ← hqb]; exact pg_call B W HB.out h r2 h2)
    have hs1 : x1.size ≤ 22 := by
      rw [← hx1]
      cases r1 with
      | none => exact Nat.zero_le _
      | some a => have := pgP_len h1; show a.toArray.size ≤ _; simpa using this
    have hs2 : x2.size ≤ 22 := by
      rw [← hx2]
      cases r2 with
      | none => exact Nat.zero_le _
      | some a => have := pgP_len h2; show a.toArray.size ≤ _; simpa using this
    rw [hqa] at HD
    cases b1 with
    | false =>
      have HF : Hid (bothP r1 r2 = none) := Lib.hid (by cases r1 with
        | none => cases r2 <;> rfl
        | some a => cases hb1)
      clear hc hg hd hln hsz h1 h2 hqa hqb hx1 hx2 hb1 hb2
      go_enter Tryz.func43, Tryz.ntmps43
      go_wp2_with (first | (go_at_call 49; refine HC.out.mono ?_; rintro e w2 ⟨rfl, hb2⟩; have HB2 := Lib.hid hb2; clear hb2) | (go_at_call 42; refine (contains_is _ _ _ _ HD.out).mono ?_; rintro e w3 ⟨rfl, rfl⟩) | (go_at_call 59; refine (HP.out _ _ (HG.out.below HB2.out) _ _ (by first | exact .inl ⟨rfl, rfl, rfl⟩ | exact .inr ⟨rfl, rfl, rfl⟩)).mono ?_; rintro e w3 ⟨rfl, hb3⟩; have HB2 := Lib.hid (HB2.out.trans (hb3.mono HB2.out.size)); clear hb3))
      go_ret2
      exact ⟨by rw [HX.out, HF.out]; rfl, HB2.out⟩
    | true =>
      cases b2 with
      | false =>
        have HF : Hid (bothP r1 r2 = none) := Lib.hid (by cases r2 with
          | none => cases r1 <;> rfl
          | some a => cases hb2)
        clear hc hg hd hln hsz h1 h2 hqa hqb hx1 hx2 hb1 hb2
        go_enter Tryz.func43, Tryz.ntmps43
        go_wp2_with (first | (go_at_call 49; refine HC.out.mono ?_; rintro e w2 ⟨rfl, hb2⟩; have HB2 := Lib.hid hb2; clear hb2) | (go_at_call 42; refine (contains_is _ _ _ _ HD.out).mono ?_; rintro e w3 ⟨rfl, rfl⟩) | (go_at_call 59; refine (HP.out _ _ (HG.out.below HB2.out) _ _ (by first | exact .inl ⟨rfl, rfl, rfl⟩ | exact .inr ⟨rfl, rfl, rfl⟩)).mono ?_; rintro e w3 ⟨rfl, hb3⟩; have HB2 := Lib.hid (HB2.out.trans (hb3.mono HB2.out.size)); clear hb3))
        go_ret2
        exact ⟨by rw [HX.out, HF.out]; rfl, HB2.out⟩
      | true =>
        obtain ⟨a, rfl⟩ : ∃ a, r1 = some a := Option.isSome_iff_exists.1 hb1
        obtain ⟨b, rfl⟩ : ∃ a, r2 = some a := Option.isSome_iff_exists.1 hb2
        have hl1 : x1.size = a.length := by rw [← hx1]; show a.toArray.size = _; simp
        have hl2 : x2.size = b.length := by rw [← hx2]; show b.toArray.size = _; simp
        by_cases h14 : 14 < x1.size + x2.size
        · have HF : Hid (bothP (some a) (some b) = none) := Lib.hid (by unfold bothP; simp only; rw [if_pos (by omega)])
          clear hc hg hd hln hsz h1 h2 hqa hqb hx1 hx2 hb1 hb2 hl1 hl2
          go_enter Tryz.func43, Tryz.ntmps43
          go_wp2_with (first | (go_at_call 49; refine HC.out.mono ?_; rintro e w2 ⟨rfl, hb2⟩; have HB2 := Lib.hid hb2; clear hb2) | (go_at_call 42; refine (contains_is _ _ _ _ HD.out).mono ?_; rintro e w3 ⟨rfl, rfl⟩) | (go_at_call 59; refine (HP.out _ _ (HG.out.below HB2.out) _ _ (by first | exact .inl ⟨rfl, rfl, rfl⟩ | exact .inr ⟨rfl, rfl, rfl⟩)).mono ?_; rintro e w3 ⟨rfl, hb3⟩; have HB2 := Lib.hid (HB2.out.trans (hb3.mono HB2.out.size)); clear hb3))
          go_ret2
          exact ⟨by rw [HX.out, HF.out]; rfl, HB2.out⟩
        · obtain ⟨z, hz⟩ : ∃ z, 16 - x1.size - x2.size = z := ⟨_, rfl⟩
          have HF : Hid (bothP (some a) (some b) = some (a ++ List.replicate z 0 ++ b)) := Lib.hid (by unfold bothP; simp only; rw [if_neg (by omega), ← hl1, ← hl2, hz])
          have HX1 := Lib.hid hx1
          have HX2 := Lib.hid hx2
          have hzi : (16 : Int) - x1.size - x2.size = z := by omega
          have hz2 : 2 ≤ z := by omega
          have hz16 : z ≤ 16 := by omega
          obtain ⟨x3, hx3⟩ : ∃ q : ByteArray, (⟨(List.replicate z (0 : UInt8)).toArray⟩ : ByteArray) = q := ⟨_, rfl⟩
          have HX3 := Lib.hid hx3
          have hs3 : x3.size ≤ 22 := by rw [← hx3]; show (List.replicate z (0 : UInt8)).toArray.size ≤ _; simp; omega
          have HZ : Hid (∀ W, Calls Tryz.prog 60 #[.string ⟨#[0]⟩, .int .i64 z] W fun e w' => e = .returned (.string x3) ∧ Below W.heap.size W w') := Lib.hid (fun W => by rw [← hx3]; exact strings_zero z W hz16)
          clear hc hg hd hln hsz h1 h2 hqa hqb hx1 hx2 hb1 hb2 hl1 hl2 hz h14 hx3
          go_enter Tryz.func43, Tryz.ntmps43
          go_wp2_with (first | (go_at_call 49; refine HC.out.mono ?_; rintro e w2 ⟨rfl, hb2⟩; have HB2 := Lib.hid hb2; clear hb2) | (go_at_call 42; refine (contains_is _ _ _ _ HD.out).mono ?_; rintro e w3 ⟨rfl, rfl⟩) | (go_at_call 59; refine (HP.out _ _ (HG.out.below HB2.out) _ _ (by first | exact .inl ⟨rfl, rfl, rfl⟩ | exact .inr ⟨rfl, rfl, rfl⟩)).mono ?_; rintro e w3 ⟨rfl, hb3⟩; have HB2 := Lib.hid (HB2.out.trans (hb3.mono HB2.out.size)); clear hb3) | (go_at_call 60; refine (HZ.out _).mono ?_; rintro e w5 ⟨rfl, hb5⟩))
          go_ret2
          exact ⟨by rw [HX.out, HF.out, ← HX1.out, ← HX2.out, ← HX3.out]; simp only [Option.getD_some, Option.isSome_some, ← join_str]; rfl, HB2.out.trans (hb5.mono HB2.out.size)⟩
theorem paddr_any (s : ByteArray) (w : World) (hs : s.size ≤ 100000) (hg : GloAt w) :
    Calls Tryz.prog 31 #[.string s] w (FourR w (parseP s.data.toList)) := by
  rw [← addrP_parse]
  by_cases h : 58 ∈ s.data.toList
  · have HX : Hid (addrP s.data.toList = longP s.data.toList) := Lib.hid (by unfold addrP; rw [if_pos h])
    have HD : Hid (decide (58 ∈ s.data.toList) = true) := Lib.hid (by simpa using h)
    have HL : Hid (Calls Tryz.prog 43 #[.string s] w (FourR w (longP s.data.toList))) := Lib.hid (by
      obtain ⟨A, B, b, hc⟩ : ∃ A B b, Lib.cut s.data.toList [58, 58] = (A, B, b) := ⟨_, _, _, rfl⟩
      cases b with
      | false => exact plong_plain s w hs hg A B hc
      | true => exact plong_cut s w hs hg A B hc)
    rw [HX.out]
    generalize longP s.data.toList = R at *
    clear h hg
    go_enter Tryz.func31, Tryz.ntmps31
    go_wp2_with (first | (go_at_call 42; refine (contains_is _ _ _ _ HD.out).mono ?_; rintro e w3 ⟨rfl, rfl⟩) | (go_at_call 43; refine HL.out.mono ?_; rintro e w3 ⟨rfl, hb3⟩))
    go_ret2
    exact ⟨rfl, hb3⟩
  · have HX : Hid (addrP s.data.toList = fourP (splitL 46 s.data.toList)) := Lib.hid (by unfold addrP; rw [if_neg h])
    have HD : Hid (decide (58 ∈ s.data.toList) = false) := Lib.hid (by simpa using h)
    have HL := Lib.hid (pshort_any s w hs hg)
    rw [HX.out]
    generalize fourP (splitL 46 s.data.toList) = R at *
    clear h hg
    go_enter Tryz.func31, Tryz.ntmps31
    go_wp2_with (first | (go_at_call 42; refine (contains_is _ _ _ _ HD.out).mono ?_; rintro e w3 ⟨rfl, rfl⟩) | (go_at_call 44; refine HL.out.mono ?_; rintro e w3 ⟨rfl, hb3⟩))
    go_ret2
    exact ⟨rfl, hb3⟩
end Go.Proofs.YtabkdaaenikliaaGreatDoor

namespace Go.Tx
open Go.RowKit Go.Mp
theorem Out.toBelow {L B : Nat} {w w' : World} {p m1 m2 : Nat} (h : Out L w w' p m1 m2) (hL : B ≤ L) (h1 : B ≤ p) (h2 : B ≤ m1) (h3 : B ≤ m2) : Below B w w' :=
  ⟨h.os, h.tape, h.output, h.size, fun j hj => h.same j (by omega) (by omega) (by omega) (by omega)⟩
theorem cell_same {w w' : World} {b k : Nat} (h : w'.heap[b]? = w.heap[b]?) : w'.cell? ⟨b, k, none⟩ = w.cell? ⟨b, k, none⟩ := World.cell?_of_block (a := ⟨b, k, none⟩) h
/-- The words of a line, read at a later world. -/
theorem words_at {B : Nat} {w w' : World} {pw : Option Addr} {m : Nat} {ws : List (List UInt8)} (h : Strs B w (.slice pw m m) ws) (hm : m = ws.length) (hsame : ∀ j, B ≤ j → j < w.heap.size → w'.heap[j]? = w.heap[j]?) (hs : w.heap.size ≤ w'.heap.size) (h0 : ws ≠ []) :
    ∃ A, pw = some ⟨A, 0, none⟩ ∧ A < w'.heap.size ∧ ∀ (j : Nat) l, ws[j]? = some l → w'.cell? ⟨A, j, none⟩ = some (.string ⟨l.toArray⟩) := by
  rcases h with ⟨h, h2⟩ | ⟨A, h1, h2, h3⟩
  · exact absurd h2 h0
  · cases h1
    have hlt := (World.ownsRow.lt h3 A rfl).2
    refine ⟨A, rfl, by omega, fun j l hj => ?_⟩
    have hjl := (List.getElem?_eq_some_iff.1 hj).1
    rw [cell_same (hsame A h2 hlt), World.ownsRow.cellAt h3 j (by omega), List.getElem?_map, hj]
    rfl
theorem txAt_drop {w : World} {A : Nat} {ws : List (List UInt8)} (h : ∀ (j : Nat) l, ws[j]? = some l → w.cell? ⟨A, j, none⟩ = some (.string ⟨l.toArray⟩)) (hA : A < w.heap.size) : TxAt w (some ((⟨A, 0, none⟩ : Addr).add 1)) (ws.drop 1) := fun j l hj => by
  refine ⟨_, rfl, by rw [add_block]; exact hA, ?_⟩
  have ha : ((⟨A, 0, none⟩ : Addr).add 1).add j = ⟨A, 1 + j, none⟩ := by rw [Addr.add_add]; unfold Addr.add; split <;> simp_all
  rw [ha]
  rw [List.getElem?_drop] at hj
  exact h (1 + j) l hj
theorem rowOf_cons_none {x : List UInt8} {r : List (List UInt8)} (h : parseP x = none) : rowOf (x :: r) = none := by simp [rowOf, h]
theorem rowOf_cons_some {x a : List UInt8} {r : List (List UInt8)} (h : parseP x = some a) : rowOf (x :: r) = if r.filterMap nm = [] then none else some (a, r.filterMap nm) := by simp only [rowOf, h]
theorem addsOf_fun_snoc (R : List (List UInt8 × List (List UInt8))) (a : List UInt8) (f : List (List UInt8)) : addsOf (R ++ [(a, f)]) = fun k => putN a k (addsOf R k) f := funext fun k => addsOf_snoc R (a, f) k
theorem namesAt_fun_snoc (R : List (List UInt8 × List (List UInt8))) (a : List UInt8) (f : List (List UInt8)) : namesAt (R ++ [(a, f)]) = setC (namesAt R) a f := funext fun k => by
  rw [namesAt_snoc]; rfl
theorem rowsOf_few (T : List (Nat × List (List UInt8))) : (rowsOf T).length ≤ T.length := List.length_filterMap_le _ _
theorem TB.start {w : World} {p m1 m2 : Nat} (hp : p < w.heap.size) (h1 : m1 < w.heap.size) (h2 : m2 < w.heap.size) (n1 : p ≠ m1) (n2 : p ≠ m2) (n12 : m1 ≠ m2)
    (hb : w.heap[p]? = some (.cells #[.int .i64 0, .map (some m1), .map (some m2)] 91 (0, 0))) (hf : MapAt w m1 fun _ => none) (hg : MapAt w m2 fun _ => none) :
    TB w.heap.size w p m1 m2 0 (addsOf []) (namesAt []) (fun _ => none) (fun _ => none) where
  pl := hp
  l1 := h1
  l2 := h2
  n1 := n1
  n2 := n2
  n12 := n12
  size := Nat.le_refl _
  blk := hb
  f := hf
  g := hg
  hF := fun k => World.ownsRow_nil _ _ _ _
  hG := fun k => rfl
  dF := fun k k' b h => by cases h
  dG := fun k k' b h => by cases h
theorem TB.apart {L : Nat} {w : World} {p m1 m2 n : Nat} {A : List UInt8 → List (List UInt8)} {C : List UInt8 → Option (List (List UInt8))} {F G : ByteArray → Option Value} (h : TB L w p m1 m2 n A C F G) {w' : World} {v : Value} {f : List (List UInt8)} (hv : StrC w.heap.size w' v f) : Apart F v := fun b hb k e => by
  have h1 := (h.lt e).2
  have h2 := (World.ownsRow.lt hv b hb).1
  omega
theorem heap_push_lt (w : World) (o : Obj) (j : Nat) (h : j < w.heap.size) : (w.alloc o).heap[j]? = w.heap[j]? := by
  show (w.heap.push o)[j]? = _
  rw [Array.getElem?_push, if_neg (by omega)]
theorem start_at (w w2 : World) (hb : Below (((w.alloc (.map #[] 0)).alloc (.map #[] 0)).alloc (.cells #[.int .i64 0, .map (some w.heap.size), .map (some (w.heap.size + 1))] 91)).heap.size (((w.alloc (.map #[] 0)).alloc (.map #[] 0)).alloc (.cells #[.int .i64 0, .map (some w.heap.size), .map (some (w.heap.size + 1))] 91)) w2) :
    TB w2.heap.size w2 (w.heap.size + 1 + 1) w.heap.size (w.heap.size + 1) 0 (addsOf []) (namesAt []) (fun _ => none) (fun _ => none) ∧ w.heap.size + 3 ≤ w2.heap.size ∧ Below w.heap.size w w2 := by
  have s1 : (w.alloc (.map #[] 0)).heap.size = w.heap.size + 1 := by show (w.heap.push _).size = _; simp
  have s2 : ((w.alloc (.map #[] 0)).alloc (.map #[] 0)).heap.size = w.heap.size + 1 + 1 := by show ((w.heap.push _).push _).size = _; simp
  generalize hw1 : (((w.alloc (.map #[] 0)).alloc (.map #[] 0)).alloc (.cells #[.int .i64 0, .map (some w.heap.size), .map (some (w.heap.size + 1))] 91)) = w1 at *
  have s3 : w1.heap.size = w.heap.size + 3 := by rw [← hw1]; show (((w.heap.push _).push _).push _).size = _; simp
  have e1 : w1.heap[w.heap.size]? = some (.map #[] 0) := by
    rw [← hw1, heap_push_lt _ _ _ (by omega), heap_push_lt _ _ _ (by omega)]; exact heap_alloc_new w _
  have e2 : w1.heap[w.heap.size + 1]? = some (.map #[] 0) := by
    rw [← hw1, heap_push_lt _ _ _ (by omega)]
    have := heap_alloc_new (w.alloc (.map #[] 0)) (.map #[] 0)
    rw [s1] at this; exact this
  have e3 : w1.heap[w.heap.size + 1 + 1]? = some (.cells #[.int .i64 0, .map (some w.heap.size), .map (some (w.heap.size + 1))] 91 (0, 0)) := by
    rw [← hw1]
    have := heap_alloc_new ((w.alloc (.map #[] 0)).alloc (.map #[] 0)) (.cells #[.int .i64 0, .map (some w.heap.size), .map (some (w.heap.size + 1))] 91)
    rw [s2] at this; exact this
  have hz := hb.size
  refine ⟨TB.start (by omega) (by omega) (by omega) (by omega) (by omega) (by omega) (by rw [hb.block _ (by omega)]; exact e3) ⟨#[], 0, by rw [hb.block _ (by omega)]; exact e1, (fun e he => by cases he), fun _ => rfl⟩ ⟨#[], 0, by rw [hb.block _ (by omega)]; exact e2, (fun e he => by cases he), fun _ => rfl⟩, by omega, ?_⟩
  have hb0 : Below w.heap.size w w1 := by
    rw [← hw1]
    exact (((Below.refl _ w).alloc (Nat.le_refl _) _).alloc (by omega) _).alloc (by omega) _
  exact hb0.trans (hb.mono (by omega))
theorem lower {B B' : Nat} {w : World} {v : Value} {f : List (List UInt8)} (h : StrC B w v f) (hB : B' ≤ B) : StrC B' w v f := own_base h hB
end Go.Tx
namespace Go.Proofs.YtabkdaaenikliaaGreatDoor
open Go.RowKit Go.Lib Go.Tx Go.Mp
/-- A table that is read: where it lies, what it holds. -/
def Tab (B : Nat) (w : World) (p : Nat) (R : List (List UInt8 × List (List UInt8))) : Prop :=
  ∃ L m1 m2 F G, (B ≤ p ∧ B ≤ m1 ∧ B ≤ m2) ∧ B ≤ L ∧ TB L w p m1 m2 R.length (addsOf R) (namesAt R) F G
theorem Tab.below {B p : Nat} {w w' : World} {R : List (List UInt8 × List (List UInt8))} (h : Tab B w p R) (hb : Below w.heap.size w w') : Tab B w' p R := by
  obtain ⟨L, m1, m2, F, G, h1, h2, h3⟩ := h
  exact ⟨L, m1, m2, F, G, h1, h2, h3.below hb⟩
set_option maxHeartbeats 2000000 in
set_option maxRecDepth 100000 in
theorem parse_core (a : Option Addr) (n c : Nat) (T : List (Nat × List (List UInt8))) (w : World) (hfine : ∀ t ∈ T, FineL t.2) (hfew2 : T.length ≤ 100001) (hlines : ∀ W, Below w.heap.size w W → Calls Tryz.prog 30 #[.slice a n c] W (LinesR W T)) (hg : GloAt w) (hm : MaxAt w) :
    Calls Tryz.prog 22 #[.slice a n c] w fun e w' => ∃ p, e = .returned (.pointer (some ⟨p, 0, none⟩)) ∧ Tab w.heap.size w' p (rowsOf T) ∧ Below w.heap.size w w' := by
  have HLn := Lib.hid hlines
  have HG := Lib.hid hg
  have HM := Lib.hid hm
  have HFine := Lib.hid hfine
  clear hg hm hlines hfine
  have hmm := @run_makeMap Tryz.prog
  go_enter Tryz.func22, Tryz.ntmps22
  go_wp2_with (go_at_call 30; refine (HLn.out _ ((((Below.refl _ w).alloc (Nat.le_refl _) _).alloc (by show w.heap.size ≤ (w.heap.push _).size; simp) _).alloc (by show w.heap.size ≤ ((w.heap.push _).push _).size; simp; omega) _)).mono ?_; rintro e w2 ⟨v, rfl, hT, hb2⟩; obtain ⟨pT, cT, rfl⟩ := hT.shape)
  obtain ⟨hst, hs3, hb02⟩ := start_at w w2 hb2
  have HT := Lib.hid hT
  have HSt := Lib.hid hst
  have HB1 := Lib.hid hb2
  have hB1s : (((w.alloc (.map #[] 0)).alloc (.map #[] 0)).alloc (.cells #[.int .i64 0, .map (some w.heap.size), .map (some (w.heap.size + 1))] 91)).heap.size = w.heap.size + 3 := by show (((w.heap.push _).push _).push _).size = _; simp
  rw [hB1s] at HT
  clear hT hst hb2 hB1s
  go_loopw [16] (fun i wr => ∃ (k : Nat) (FF GG : ByteArray → Option Value), k ≤ T.length ∧ i = .int .i64 k ∧ TB w2.heap.size wr (w.heap.size + 1 + 1) w.heap.size (w.heap.size + 1) (rowsOf (T.take k)).length (addsOf (rowsOf (T.take k))) (namesAt (rowsOf (T.take k))) FF GG ∧ Out w2.heap.size w2 wr (w.heap.size + 1 + 1) w.heap.size (w.heap.size + 1)) (fun i _ => T.length - (intOf i).toNat)
  case atStart => exact ⟨0, _, _, Nat.zero_le _, rfl, HSt.out, Out.refl _ _ _ _ _⟩
  case round =>
    obtain ⟨k, FF, GG, hk, rfl, hTB, hOut⟩ := hrel
    by_cases hlt : k < T.length
    · obtain ⟨⟨no, ws⟩, hx⟩ : ∃ x, T[k]? = some x := ⟨_, List.getElem?_eq_getElem hlt⟩
      have hf := HFine.out (no, ws) (List.mem_of_getElem? hx)
      obtain ⟨g, cap, e, hcap, hcm, hBg, hrd⟩ := HT.out.read (by omega)
      cases e
      obtain ⟨hc0, pw, hc1, hstr⟩ := hrd k no ws hx
      have hgl : g < w2.heap.size := by
        unfold World.cell? at hc0
        split at hc0
        · rename_i hh; exact (Array.getElem?_eq_some_iff.1 hh).1
        · cases hc0
      have hgs : wr.heap[g]? = w2.heap[g]? := hOut.same g hgl (by omega) (by omega) (by omega)
      have hd0 : wr.cell? ⟨g, k * 2, none⟩ = some (.int .i64 (no : Int)) := by rw [Nat.mul_comm, cell_same hgs]; exact hc0
      have hd1 : wr.cell? ⟨g, k * 2 + 1, none⟩ = some (.slice pw ws.length ws.length) := by rw [Nat.mul_comm, cell_same hgs]; exact hc1
      obtain ⟨A, rfl, hAl, hwd⟩ := words_at hstr rfl (w' := wr) (fun j h1 h2 => hOut.same j h2 (by omega) (by omega) (by omega)) hOut.size hf.ne
      have hbw : Below w.heap.size w wr := hb02.trans (hOut.toBelow (by omega) (by omega) (Nat.le_refl _) (by omega))
      have HTk := Lib.hid (takeH hx)
      have HTB := Lib.hid hTB
      have HWd := Lib.hid hwd
      have HOut := Lib.hid hOut
      have hne := hf.ne
      have hfew := hf.few
      have HWz := Lib.hid hf.word
      clear hc0 hc1 hrd hstr hwd hTB hx hf
      obtain ⟨x, r, rfl⟩ : ∃ x r, ws = x :: r := by cases ws with | nil => exact absurd rfl hne | cons x r => exact ⟨x, r, rfl⟩
      have hcx := HWd.out 0 x rfl
      have hxz : x.length ≤ 512 := HWz.out x (by simp)
      have hbW : ∀ o, Below w.heap.size w (wr.alloc o) := fun o => hbw.alloc hbw.size o
      have HPA : Hid (∀ o, Calls Tryz.prog 31 #[.string ⟨x.toArray⟩] (wr.alloc o) (FourR (wr.alloc o) (parseP x))) := Lib.hid (fun o => paddr_any ⟨x.toArray⟩ (wr.alloc o) (by show x.toArray.size ≤ 100000; simp; omega) (HG.out.below (hbW o)))
      unfold FourR at HPA
      have HBA : ∀ o, Below wr.heap.size wr (wr.alloc o) := fun o => (Below.refl _ wr).alloc (Nat.le_refl _) o
      have HBa := Lib.hid HBA
      have HBw := Lib.hid hbw
      have HStep : Hid (rowsOf (T.take (k + 1)) = rowsOf (T.take k) ++ (rowOf (x :: r)).toList) := Lib.hid (by rw [HTk.out, rowsOf_snoc])
      clear HBA hbW
      cases hpa : parseP x with
      | none =>
        rw [hpa] at HPA
        have HNo : Hid (rowsOf (T.take (k + 1)) = rowsOf (T.take k)) := Lib.hid (by rw [HStep.out, rowOf_cons_none hpa]; simp)
        clear hpa HStep
        go_wp2_with (go_at_call 31; refine (HPA.out _).mono ?_; rintro e w5 ⟨rfl, hb5⟩)
        go_roundw
        case rel =>
          have hb := (HBa.out _).trans (hb5.mono (HBa.out _).size)
          exact ⟨k + 1, FF, GG, hlt, by go_num, by rw [HNo.out]; exact HTB.out.below hb, HOut.out.below HTB.out.size hb⟩
        case measure => simp [intOf]; omega
      | some pa =>
        rw [hpa] at HPA
        have hrl : r.length ≤ 512 := by simp at hfew; omega
        obtain ⟨a', ha', HTx⟩ : ∃ a' : Option Addr, (∀ W : World, (Instr.slice 23 (.slice (some ⟨A, 0, none⟩) (r.length + 1) (r.length + 1)) (some (.int .i64 1)) none none).run Tryz.prog W = .ok (.slice a' r.length r.length) W) ∧ Hid (TxAt wr a' r) := by
          have hel : Tryz.prog.elem 23 = 9 := by kernel_rfl
          refine ⟨if r.length = 0 then some ⟨A, 0, none⟩ else some ((⟨A, 0, none⟩ : Addr).add 1), fun W => ?_, Lib.hid ?_⟩
          · have := run_slice_l (P := Tryz.prog) (w := W) 23 (some ⟨A, 0, none⟩) (r.length + 1) (r.length + 1) (by rw [hel]; exact Tryz.underlying23) .i64 1 (by omega) (by omega)
            rw [this, hel, Tryz.sizeOf9]
            simp only [Result.andThen_ok, sliced]
            by_cases h0 : r.length = 0
            · rw [if_pos (by rw [h0]; rfl), if_pos h0, h0]; rfl
            · rw [if_neg (by show ¬ r.length + 1 = 1; omega), if_neg h0]
              rfl
          · intro j l hj
            have h0 : ¬ r.length = 0 := by have := (List.getElem?_eq_some_iff.1 hj).1; omega
            rw [if_neg h0]
            exact txAt_drop HWd.out hAl j l hj
        have HCl : Hid (∀ W, Below wr.heap.size wr W → Calls Tryz.prog 32 #[.slice a' r.length r.length] W fun e w' => ∃ v, e = .returned v ∧ StrC W.heap.size w' v (r.filterMap nm) ∧ Below W.heap.size W w') := Lib.hid (fun W hW => cleaned_any a' r.length r.length r W (HTx.out.below hW) rfl (Nat.le_refl _) (by omega) (by omega) (fun y hy => by have := HWz.out y (by simp [hy]); omega) (HM.out.below (HBw.out.trans (hW.mono HBw.out.size))))
        have hfl : (r.filterMap nm).length ≤ r.length := List.length_filterMap_le _ _
        by_cases hem : r.filterMap nm = []
        · have HNo : Hid (rowsOf (T.take (k + 1)) = rowsOf (T.take k)) := Lib.hid (by rw [HStep.out, rowOf_cons_some hpa, if_pos hem]; simp)
          clear hpa HStep hfl
          rw [hem] at HCl
          go_wp2_with (first | (go_at_call 31; refine (HPA.out _).mono ?_; rintro e w5 ⟨rfl, hb5⟩; have hb := (HBa.out _).trans (hb5.mono (HBa.out _).size); have hcl : w5.cell? ⟨wr.heap.size, 1, none⟩ = some (.slice (some ⟨A, 0, none⟩) (r.length + 1) (r.length + 1)) := (by rw [hb5.cell (p := ⟨wr.heap.size, 1, none⟩) (by show wr.heap.size < (Array.push _ _).size; simp)]; exact World.cell?_alloc_new ..)) | (go_at_call 32; refine (HCl.out _ hb).mono ?_; rintro e w6 ⟨v, rfl, hv6, hb6⟩; obtain ⟨p6, c6, rfl⟩ := hv6.shape))
          go_roundw
          case rel =>
            have hb2 := hb.trans (hb6.mono hb.size)
            exact ⟨k + 1, FF, GG, hlt, by go_num, by rw [HNo.out]; exact HTB.out.below hb2, HOut.out.below HTB.out.size hb2⟩
          case measure => simp [intOf]; omega
        · have HYes : Hid (rowsOf (T.take (k + 1)) = rowsOf (T.take k) ++ [(pa, r.filterMap nm)]) := Lib.hid (by rw [HStep.out, rowOf_cons_some hpa, if_neg hem]; simp)
          have hpos : 0 < (r.filterMap nm).length := List.length_pos_iff.2 hem
          have hpos' : ((r.filterMap nm).length : Int) > 0 := by omega
          have hpos2 : (0 : Int) < ((r.filterMap nm).length : Int) := by omega
          have hrn : (rowsOf (T.take k)).length ≤ 1000000 := by
            have h1 := rowsOf_few (T.take k)
            have h2 := List.length_take_le k T
            omega
          clear hpa HStep hem
          generalize r.filterMap nm = f at *
          go_wp2_with (first | (go_at_call 31; refine (HPA.out _).mono ?_; rintro e w5 ⟨rfl, hb5⟩; have hb := (HBa.out _).trans (hb5.mono (HBa.out _).size); have hcl : w5.cell? ⟨wr.heap.size, 1, none⟩ = some (.slice (some ⟨A, 0, none⟩) (r.length + 1) (r.length + 1)) := (by rw [hb5.cell (p := ⟨wr.heap.size, 1, none⟩) (by show wr.heap.size < (Array.push _ _).size; simp)]; exact World.cell?_alloc_new ..)) | (go_at_call 32; refine (HCl.out _ hb).mono ?_; rintro e w6 ⟨v, rfl, hv6, hb6⟩; obtain ⟨p6, c6, rfl⟩ := hv6.shape; have hb2 := hb.trans (hb6.mono hb.size)) | (go_at_call 33; refine (add_any _ _ _ _ _ _ _ FF GG _ ⟨pa.toArray⟩ _ f (HTB.out.below hb2) (lower hv6 (Nat.le_trans HTB.out.size hb.size)) ((HTB.out.below hb).apart hv6) hrn (fun q => addsOf_len _ q) (by omega)).mono ?_; rintro e w7 ⟨rfl, ⟨F7, G7, ht7⟩, ho7⟩))
          go_roundw
          case rel =>
            refine ⟨k + 1, F7, G7, hlt, by go_num, ?_, (HOut.out.below HTB.out.size hb2).trans ho7⟩
            rw [HYes.out, addsOf_fun_snoc, namesAt_fun_snoc, List.length_append]
            exact ht7
          case measure => simp [intOf]; omega
    · obtain rfl : k = T.length := by omega
      rw [List.take_length] at hTB
      have HTB := Lib.hid hTB
      clear hTB
      go_wp2
      go_ret
      exact ⟨_, rfl, ⟨_, _, _, _, _, ⟨by omega, by omega, by omega⟩, by omega, HTB.out⟩, hb02.trans (hOut.toBelow (by omega) (by omega) (Nat.le_refl _) (by omega))⟩
theorem parse_any (a : Option Addr) (n c : Nat) (l : List UInt8) (w : World) (h : BA w a n c l) (hold : ∀ x, a = some x → x.block < w.heap.size) (hn : n ≤ 100000) (hg : GloAt w) (hm : MaxAt w) :
    Calls Tryz.prog 22 #[.slice a n c] w fun e w' => ∃ p, e = .returned (.pointer (some ⟨p, 0, none⟩)) ∧ Tab w.heap.size w' p (rowsOf (toldG 1 [] l)) ∧ Below w.heap.size w w' := by
  have hlen := h.len
  obtain ⟨hfine, hfew⟩ := toldG_fine l 1 []
  exact parse_core a n c (toldG 1 [] l) w hfine (by omega) (fun W (hb : Below w.heap.size w W) => lines_any a n c l W (h.below hb hold) (fun x hx => Nat.lt_of_lt_of_le (hold x hx) hb.size) (by omega)) hg hm
end Go.Proofs.YtabkdaaenikliaaGreatDoor

namespace Go.Tx
open Go.RowKit Go.Mp
/-- The addresses of a name. -/
def byNm (R : List (List UInt8 × List (List UInt8))) (l : List UInt8) : List (List UInt8) := if nameB (bare l) = true then addsOf R ((bare l).map low) else []
def byA (R : List (List UInt8 × List (List UInt8))) (a : List UInt8) : List (List UInt8) := (namesAt R a).getD []
end Go.Tx
namespace Go.Proofs.YtabkdaaenikliaaGreatDoor
open Go.RowKit Go.Lib Go.Tx Go.Mp
theorem clone_any {B : Nat} {v : Value} {T : List (List UInt8)} (w : World) (h : StrC B w v T) (hl : T.length ≤ 1000000) :
    Calls Tryz.prog 35 #[v] w fun e w' => ∃ v', e = .returned v' ∧ StrC w.heap.size w' v' T ∧ Below w.heap.size w w' := by
  obtain ⟨p, c, rfl, hc, hm, hr⟩ := h.read
  cases p with
  | none =>
    have h0 : T = [] := by
      cases T with
      | nil => rfl
      | cons x T => obtain ⟨g, e, _⟩ := hr 0 x rfl; cases e
    subst h0
    refine (Tryz.slices_Clone_string_nil 0 c w).mono ?_
    rintro e w' ⟨rfl, rfl⟩
    exact ⟨_, rfl, World.ownsRow_nil _ _ _ _, Below.refl _ _⟩
  | some ad =>
    by_cases h0 : T = []
    · subst h0
      refine (Tryz.slices_Clone_string_zero ad c w).mono ?_
      rintro e w' ⟨v', rfl, h1, _, h2⟩
      exact ⟨v', rfl, h1, h2⟩
    · have hpos : 0 < T.length := List.length_pos_iff.2 h0
      obtain ⟨g, e, hg, _⟩ := hr 0 T[0] (List.getElem?_eq_getElem hpos)
      cases e
      have hz : ((T.map fun l => (⟨l.toArray⟩ : ByteArray)).take T.length).map Value.string = T.map strV := by
        rw [List.take_of_length_le (by simp), List.map_map]; rfl
      refine (Tryz.slices_Clone_string g 0 T.length c (T.map fun l => ⟨l.toArray⟩) w (by simp) (by omega) fun j hj => ?_).mono ?_
      · rw [List.length_map] at hj
        obtain ⟨g', e, _, h3⟩ := hr j T[j] (List.getElem?_eq_getElem hj)
        cases e
        rw [Nat.zero_add, h3, List.getD_eq_getElem?_getD, List.getElem?_map, List.getElem?_eq_getElem hj]
        rfl
      · rintro e w' ⟨v', rfl, h1, _, h2⟩
        rw [hz] at h1
        exact ⟨v', rfl, h1, h2⟩
def TextsR (w : World) (T : List (List UInt8)) (e : Ending) (w' : World) : Prop := ∃ v, e = .returned v ∧ StrC w.heap.size w' v T ∧ Below w.heap.size w w'
set_option maxHeartbeats 1000000 in
set_option maxRecDepth 100000 in
theorem byName_any {B p : Nat} {R : List (List UInt8 × List (List UInt8))} (s : ByteArray) (w : World) (h : Tab B w p R) (hs : s.size ≤ maxLen) (hm : MaxAt w) :
    Calls Tryz.prog 24 #[.pointer (some ⟨p, 0, none⟩), .string s] w (TextsR w (byNm R s.data.toList)) := by
  have HC := Lib.hid (clean_any s w hs hm)
  have HT := Lib.hid h
  clear h
  rcases cleanV_cases s.data.toList with ⟨hnb, hcv⟩ | ⟨hnb, hcv⟩
  · have HX : Hid (byNm R s.data.toList = addsOf R ((bare s.data.toList).map low)) := Lib.hid (by unfold byNm; rw [if_pos hnb])
    rw [hcv] at HC
    generalize (bare s.data.toList).map low = q at *
    clear hcv hnb hs hm
    go_enter Tryz.func24, Tryz.ntmps24
    go_upto_region 2 with (go_at_call 34; refine HC.out.mono ?_; rintro e w2 ⟨rfl, hb⟩)
    obtain ⟨L, m1, m2, F, G, h1, h2, h3⟩ := HT.out.below hb
    obtain ⟨d0, d1, d2, _⟩ := h3.cells
    have hAk := h3.hF q
    obtain ⟨pa, ca, hva⟩ := hAk.shape
    rw [hva] at hAk
    have hlk : (Instr.lookup 89 (.map (some m1)) (.string ⟨q.toArray⟩) false).run Tryz.prog w2 = .ok (.slice pa (addsOf R q).length ca) w2 := by
      rw [MapAt.lookup h3.f Tryz.underlying89 Tryz.underlying9 (zeroS w2) ⟨q.toArray⟩]
      exact congrArg (fun z => Result.ok z w2) hva
    have hl32 := addsOf_len R q
    have HAk := Lib.hid hAk
    clear h3 hAk hva
    go_wp2_with (go_at_call 35; refine (clone_any _ HAk.out (by omega)).mono ?_; rintro e w3 ⟨v, rfl, hv, hb3⟩)
    go_ret
    exact ⟨_, rfl, by rw [HX.out]; exact lower hv hb.size, hb.trans (hb3.mono hb.size)⟩
  · have HX : Hid (byNm R s.data.toList = []) := Lib.hid (by unfold byNm; rw [if_neg (by rw [hnb]; decide)])
    rw [hcv] at HC
    clear hcv hnb hs hm
    go_enter Tryz.func24, Tryz.ntmps24
    go_wp2_with (go_at_call 34; refine HC.out.mono ?_; rintro e w2 ⟨rfl, hb⟩)
    go_ret
    exact ⟨_, rfl, by rw [HX.out]; exact World.ownsRow_nil _ _ _ _, hb⟩
set_option maxHeartbeats 1000000 in
set_option maxRecDepth 100000 in
theorem byAddr_any {B p : Nat} {R : List (List UInt8 × List (List UInt8))} (s : ByteArray) (w : World) (h : Tab B w p R) (hf : (byA R s.data.toList).length ≤ 1000000) :
    Calls Tryz.prog 25 #[.pointer (some ⟨p, 0, none⟩), .string s] w (TextsR w (byA R s.data.toList)) := by
  obtain ⟨L, m1, m2, F, G, h1, h2, h3⟩ := h
  obtain ⟨d0, d1, d2, _⟩ := h3.cells
  have hG := h3.hG s.data.toList
  rw [bk s] at hG
  have hv : ∃ v, (G s).getD nilV = v ∧ StrC L w v (byA R s.data.toList) := by
    unfold byA
    cases hc : namesAt R s.data.toList with
    | none =>
      rw [hc] at hG
      simp only at hG
      rw [hG]
      exact ⟨_, rfl, World.ownsRow_nil _ _ _ _⟩
    | some ws =>
      rw [hc] at hG
      obtain ⟨v, e, h⟩ := hG
      rw [e]
      exact ⟨v, rfl, h⟩
  obtain ⟨v, hva, hv⟩ := hv
  have hlk : (Instr.lookup 89 (.map (some m2)) (.string s) false).run Tryz.prog w = .ok v w := by
    rw [MapAt.lookup h3.g Tryz.underlying89 Tryz.underlying9 (zeroS w) s]
    exact congrArg (fun z => Result.ok z w) hva
  have HV := Lib.hid hv
  clear h3 hG hva hv
  go_enter Tryz.func25, Tryz.ntmps25
  go_wp2_with (go_at_call 35; refine (clone_any _ HV.out hf).mono ?_; rintro e w3 ⟨v, rfl, hv, hb3⟩)
  go_ret
  exact ⟨_, rfl, hv, hb3⟩
theorem byName_nil (s : ByteArray) (w : World) (hs : s.size ≤ maxLen) (hm : MaxAt w) :
    Calls Tryz.prog 24 #[.pointer none, .string s] w fun e w' => e = .returned (.slice none 0 0) ∧ Below w.heap.size w w' := by
  have HC := Lib.hid (clean_any s w hs hm)
  obtain ⟨b1, b2, q, hq⟩ : ∃ (b1 b2 : Bool) (q : ByteArray), cleanV s.data.toList = .tuple #[.string q, .bool b1, .bool b2] := by
    rcases cleanV_cases s.data.toList with ⟨_, h⟩ | ⟨_, h⟩ <;> exact ⟨_, _, _, h⟩
  rw [hq] at HC
  go_enter Tryz.func24, Tryz.ntmps24
  go_wp2_with (go_at_call 34; refine HC.out.mono ?_; rintro e w2 ⟨rfl, hb⟩)
  go_ret
  exact ⟨rfl, hb⟩
theorem byAddr_nil (s : ByteArray) (w : World) :
    Calls Tryz.prog 25 #[.pointer none, .string s] w fun e w' => e = .returned (.slice none 0 0) ∧ w = w' := by
  go_enter Tryz.func25, Tryz.ntmps25
  go_wp2
  go_ret
  exact ⟨rfl, rfl⟩
end Go.Proofs.YtabkdaaenikliaaGreatDoor

namespace Go.Fd
open Go.RowKit Go.Tx Go.Mp Go.Rb
/-- Of what was there nothing has changed but block d. -/
structure Kp (d : Nat) (w w' : World) : Prop where
  os : w'.os = w.os
  tape : w'.tape = w.tape
  output : w'.output = w.output
  size : w.heap.size ≤ w'.heap.size
  block : ∀ k, k < w.heap.size → k ≠ d → w'.heap[k]? = w.heap[k]?
theorem Kp.refl (d : Nat) (w : World) : Kp d w w := ⟨rfl, rfl, rfl, Nat.le_refl _, fun _ _ _ => rfl⟩
theorem Kp.trans {d : Nat} {a b c : World} (h : Kp d a b) (k : Kp d b c) : Kp d a c :=
  ⟨k.os.trans h.os, k.tape.trans h.tape, k.output.trans h.output, Nat.le_trans h.size k.size, fun j hj hd => (k.block j (Nat.lt_of_lt_of_le hj h.size) hd).trans (h.block j hj hd)⟩
theorem Kp.of {d : Nat} {w w' : World} (h : Below w.heap.size w w') : Kp d w w' := ⟨h.os, h.tape, h.output, h.size, fun k hk _ => h.block k hk⟩
theorem Kp.below {d B : Nat} {w w' : World} (h : Kp d w w') (hB : B ≤ d) (hs : B ≤ w.heap.size) : Below B w w' := ⟨h.os, h.tape, h.output, h.size, fun k hk => h.block k (by omega) (by omega)⟩
theorem Kp.set {d : Nat} {w : World} {k : Nat} {v : Value} : Kp d w (w.setCell ⟨d, k, none⟩ v) := by
  refine ⟨rfl, rfl, rfl, ?_, fun j hj hd => ?_⟩
  · show w.heap.size ≤ (w.heap.modify _ _).size; simp
  · show (w.heap.modify d _)[j]? = _
    rw [Array.getElem?_modify, if_neg (fun e => hd e.symm)]
/-- From block D on all that was there is as it was. -/
structure Keep (D : Nat) (w w' : World) : Prop where
  size : w.heap.size ≤ w'.heap.size
  same : ∀ j, D ≤ j → j < w.heap.size → w'.heap[j]? = w.heap[j]?
theorem own_keep {B D : Nat} {e : TypeId} {size n : Nat} {v : Value} {xs : List Value} {w w' : World} (h : w.ownsRow B e size v n xs) (hk : Keep D w w') (hd : D ≤ B) : w'.ownsRow B e size v n xs := by
  refine ⟨h.1, ?_⟩
  rcases h.2 with h | ⟨g, cap, cur, h1, h2, h3, h4⟩
  · exact .inl h
  · exact .inr ⟨g, cap, cur, h1, h2, by rw [hk.same g (by omega) (Array.getElem?_eq_some_iff.1 h3).1]; exact h3, h4⟩
theorem TB.keep {L D : Nat} {w w' : World} {p m1 m2 n : Nat} {A : List UInt8 → List (List UInt8)} {C : List UInt8 → Option (List (List UInt8))} {F G : ByteArray → Option Value} (h : TB L w p m1 m2 n A C F G) (hk : Keep D w w') (hp : D ≤ p) (h1 : D ≤ m1) (h2 : D ≤ m2) (hL : D ≤ L) : TB L w' p m1 m2 n A C F G where
  pl := h.pl
  l1 := h.l1
  l2 := h.l2
  n1 := h.n1
  n2 := h.n2
  n12 := h.n12
  size := Nat.le_trans h.size hk.size
  blk := by rw [hk.same p hp (Nat.lt_of_lt_of_le h.pl h.size)]; exact h.blk
  f := h.f.same (hk.same m1 h1 (Nat.lt_of_lt_of_le h.l1 h.size))
  g := h.g.same (hk.same m2 h2 (Nat.lt_of_lt_of_le h.l2 h.size))
  hF := fun k => own_keep (h.hF k) hk hL
  hG := fun k => by
    have := h.hG k
    split
    · rename_i e; rw [e] at this; exact this
    · rename_i ws e
      rw [e] at this
      obtain ⟨v, h1, h2⟩ := this
      exact ⟨v, h1, own_keep h2 hk hL⟩
  dF := h.dF
  dG := h.dG
end Go.Fd
namespace Go.Proofs.YtabkdaaenikliaaGreatDoor
open Go.RowKit Go.Lib Go.Tx Go.Mp Go.Rb Go.Ev Go.Fd
theorem Tab.keep {B D p : Nat} {w w' : World} {R : List (List UInt8 × List (List UInt8))} (h : Tab B w p R) (hd : D ≤ B) (hk : Keep D w w') : Tab B w' p R := by
  obtain ⟨L, m1, m2, F, G, ⟨h0, h1, h2⟩, h3, h4⟩ := h
  exact ⟨L, m1, m2, F, G, ⟨h0, h1, h2⟩, h3, TB.keep h4 hk (by omega) (by omega) (by omega) (by omega)⟩
theorem WS.kp {w w' : World} {d b : Nat} {st : Int} {mp : Option Nat} {F : ByteArray → Option Value} (h : WS w b st mp F) (hk : Kp d w w') (hb : b ≠ d) (hm : mp ≠ some d) : WS w' b st mp F := by
  obtain ⟨⟨c0, c3, c4, c5, c6, c7, hh⟩, hF⟩ := h
  refine ⟨⟨c0, c3, c4, c5, c6, c7, by rw [hk.block b (Array.getElem?_eq_some_iff.1 hh).1 hb]; exact hh⟩, ?_⟩
  cases mp with
  | none => exact hF
  | some m => exact ⟨hF.1, hF.2.same (hk.block m hF.2.lt (fun e => hm (by rw [e])))⟩
theorem rowB_kp {w w' : World} {d g c : Nat} {l : List UInt8} (h : RowB 5 w g c l) (hk : Kp d w w') (hg : g ≠ d) : RowB 5 w' g c l := rowB_same h (hk.block g (rowB_lt h) hg)
/-- Block d is a DB of the world b: how often it read, the stamp that its host table was read at, and that table's finder. -/
def DS (w : World) (d b : Nat) (r st : Int) (fv : Value) : Prop :=
  w.heap[d]? = some (.cells #[.pointer (some ⟨b, 0, none⟩), .int .i64 r, .int .i64 st, fv, .int .i64 0, .nilFunc] 53 (0, 0))
theorem DS.lt {w : World} {d b : Nat} {r st : Int} {fv : Value} (h : DS w d b r st fv) : d < w.heap.size := (Array.getElem?_eq_some_iff.1 h).1
theorem DS.same {w w' : World} {d b : Nat} {r st : Int} {fv : Value} (h : DS w d b r st fv) (hh : w'.heap[d]? = w.heap[d]?) : DS w' d b r st fv := hh.trans h
theorem DS.below {w w' : World} {d b : Nat} {r st : Int} {fv : Value} (h : DS w d b r st fv) (hb : Below w.heap.size w w') : DS w' d b r st fv := h.same (hb.block d h.lt)
/-- A function value that finds in the table R; all that it leans on lies from block D on. -/
def FindAt (D : Nat) (w : World) (fv : Value) (R : List (List UInt8 × List (List UInt8))) : Prop :=
  ∃ q p B, fv = .func (.func 23) #[] #[.pointer (some ⟨q, 0, none⟩)] ∧ D ≤ q ∧ q < w.heap.size ∧ w.cell? ⟨q, 0, none⟩ = some (.pointer (some ⟨p, 0, none⟩)) ∧ D ≤ B ∧ Tab B w p R
theorem FindAt.keep {D D' : Nat} {w w' : World} {fv : Value} {R : List (List UInt8 × List (List UInt8))} (h : FindAt D w fv R) (hD : D' ≤ D) (hk : Keep D w w') : FindAt D' w' fv R := by
  obtain ⟨q, p, B, e, h1, h2, h3, h4, h5⟩ := h
  refine ⟨q, p, B, e, by omega, Nat.lt_of_lt_of_le h2 hk.size, ?_, by omega, h5.keep h4 hk⟩
  rw [World.cell?_of_block (w := w) (a := ⟨q, 0, none⟩) (hk.same q h1 h2)]
  exact h3
def zDB (b : Nat) : Obj := .cells #[.pointer (some ⟨b, 0, none⟩), .int .i64 0, .int .i64 0, .nilFunc, .int .i64 0, .nilFunc] 53
theorem fnew_any (b : Nat) (w : World) : Calls Tryz.prog 10 #[.pointer (some ⟨b, 0, none⟩)] w fun e w' => e = .returned (.pointer (some ⟨w.heap.size, 0, none⟩)) ∧ w' = w.alloc (zDB b) := by
  go_enter Tryz.func10, Tryz.ntmps10
  go_wp2
  go_ret
  exact ⟨rfl, rfl⟩
theorem reads_any (d b : Nat) (r st : Int) (fv : Value) (w : World) (h : DS w d b r st fv) : Calls Tryz.prog 8 #[.pointer (some ⟨d, 0, none⟩)] w fun e w' => e = .returned (.int .i64 r) ∧ w' = w := by
  have c1 : w.cell? ⟨d, 1, none⟩ = some (.int .i64 r) := by unfold DS at h; simp [World.cell?, h]
  clear h
  go_enter Tryz.func8, Tryz.ntmps8
  go_wp2
  go_ret
  exact ⟨rfl, rfl⟩
theorem reads_nil (w : World) : Calls Tryz.prog 8 #[.pointer none] w fun e w' => e = .returned (.int .i64 0) ∧ w' = w := by
  go_enter Tryz.func8, Tryz.ntmps8
  go_wp2
  go_ret
  exact ⟨rfl, rfl⟩
theorem name_any (p : Option Addr) (w : World) : Calls Tryz.prog 16 #[.pointer p] w fun e w' => e = .returned (.string ⟨#[102, 105, 108, 101, 115]⟩) ∧ w' = w := by
  go_enter Tryz.func16, Tryz.ntmps16
  go_wp2
  go_ret
  exact ⟨rfl, rfl⟩
theorem able4_any (p : Option Addr) (w : World) : Calls Tryz.prog 17 #[.pointer p, .int .i64 4] w fun e w' => e = .returned (.bool true) ∧ w' = w := by
  go_enter Tryz.func17, Tryz.ntmps17
  go_wp2
  go_ret
  exact ⟨rfl, rfl⟩
set_option maxRecDepth 100000 in
theorem fparse_any (x : Addr) (n c : Nat) (l : List UInt8) (w : World) (h : BA w (some x) n c l) (hx : x.block < w.heap.size) (hn : n ≤ 100000) (hg : GloAt w) (hm : MaxAt w) :
    Calls Tryz.prog 14 #[.slice (some x) n c] w fun e w' => ∃ fv, e = .returned fv ∧ FindAt w.heap.size w' fv (rowsOf (toldG 1 [] l)) ∧ Below w.heap.size w w' := by
  have hmf : ∀ (fn : Fn) (first cap : Array Value) (w : World), (Instr.makeFunc fn first cap).run Tryz.prog w = .ok (.func fn first cap) w := fun _ _ _ _ => rfl
  have HP := Lib.hid (parse_any (some x) n c l w h (fun y hy => by cases hy; exact hx) hn hg hm)
  clear h hg hm
  generalize rowsOf (toldG 1 [] l) = R at *
  go_enter Tryz.func14, Tryz.ntmps14
  go_wp2_with (go_at_call 22; refine HP.out.mono ?_; rintro e w1 ⟨p, rfl, hT, hb1⟩)
  go_ret
  have hb2 : Below w1.heap.size w1 (w1.alloc (.cells #[.pointer (some ⟨p, 0, none⟩)] 75)) := (Below.refl _ w1).alloc (Nat.le_refl _) _
  refine ⟨_, rfl, ⟨w1.heap.size, p, w.heap.size, rfl, hb1.size, ?_, ?_, Nat.le_refl _, hT.below hb2⟩, hb1.trans (hb2.mono hb1.size)⟩
  · show w1.heap.size < (w1.heap.push _).size; simp
  · exact cell_new w1 _ _ 0
theorem results_row2 {P : Program} {fn : Func} {p u : Tmp} {ty : TypeId} (h : fn.results = #[.cell p ty, .tmp u]) (tmps : Array Value) (w : World) (g : Nat) (t : TypeId) (cs : Array Value) (fr : Nat × Nat) (d : TypeDesc)
    (hp : tmps.getD p undef = .pointer (some ⟨g, 0, none⟩)) (hg : w.heap[g]? = some (.cells cs t fr))
    (hu : P.underlying ty = some d) (hd : (match d with | .struct _ | .array _ _ => true | _ => false) = true) (hi : (P.info? ty).map (·.size) = some cs.size) :
    (results fn tmps).run P w = .ok (.tuple #[.agg cs, tmps.getD u undef]) w := by
  rw [results_cell_tmp h, hp]
  simp [asAddr, run_loadVar_row w g t ty cs fr d hg hu hd hi, Result.andThen]
/-- Four cells written. -/
def set4 (w : World) (b : Nat) (x0 x1 x2 x3 : Value) : World := (((w.setCell ⟨b, 0, none⟩ x0).setCell ⟨b, 1, none⟩ x1).setCell ⟨b, 2, none⟩ x2).setCell ⟨b, 3, none⟩ x3
theorem set4_at {w : World} {b : Nat} {y0 y1 y2 y3 : Value} {t : TypeId} {fr : Nat × Nat} (h : w.heap[b]? = some (.cells #[y0, y1, y2, y3] t fr)) (x0 x1 x2 x3 : Value) : (set4 w b x0 x1 x2 x3).heap[b]? = some (.cells #[x0, x1, x2, x3] t fr) := by
  have h1 := heap_setCell_eq _ b 0 x0 _ _ _ h
  have h2 := heap_setCell_eq _ b 1 x1 _ _ _ h1
  have h3 := heap_setCell_eq _ b 2 x2 _ _ _ h2
  have h4 := heap_setCell_eq _ b 3 x3 _ _ _ h3
  have e : (((#[y0, y1, y2, y3] : Array Value).setIfInBounds 0 x0).setIfInBounds 1 x1).setIfInBounds 2 x2 = #[x0, x1, x2, y3] := rfl
  rw [e] at h4
  exact h4
theorem below_set {B : Nat} {a w : World} {b : Nat} (h : Below B a w) (hb : B ≤ b) (k : Nat) (x : Value) : Below B a (w.setCell ⟨b, k, none⟩ x) :=
  ⟨h.os, h.tape, h.output, by have := h.size; show a.heap.size ≤ (w.heap.modify _ _).size; simpa using this, fun j hj => by rw [heap_setCell_ne _ _ _ _ _ (by omega)]; exact h.block j hj⟩
theorem below_set4 {B : Nat} {a w : World} {b : Nat} (h : Below B a w) (hb : B ≤ b) (x0 x1 x2 x3 : Value) : Below B a (set4 w b x0 x1 x2 x3) := below_set (below_set (below_set (below_set h hb 0 x0) hb 1 x1) hb 2 x2) hb 3 x3
theorem size_set4 (w : World) (b : Nat) (x0 x1 x2 x3 : Value) : (set4 w b x0 x1 x2 x3).heap.size = w.heap.size := by unfold set4; simp [size_setCell']
theorem kp_set4 {d b : Nat} {w w' : World} (h : Kp d w w') (hb : w.heap.size ≤ b) (x0 x1 x2 x3 : Value) : Kp d w (set4 w' b x0 x1 x2 x3) :=
  ⟨h.os, h.tape, h.output, by rw [size_set4]; exact h.size, fun j hj hd => by
    unfold set4
    rw [heap_setCell_ne _ _ _ _ _ (by omega), heap_setCell_ne _ _ _ _ _ (by omega), heap_setCell_ne _ _ _ _ _ (by omega), heap_setCell_ne _ _ _ _ _ (by omega)]
    exact h.block j hj hd⟩
theorem heap_set4_ne {w : World} {b j : Nat} (h : j ≠ b) (x0 x1 x2 x3 : Value) : (set4 w b x0 x1 x2 x3).heap[j]? = w.heap[j]? := by
  unfold set4
  rw [heap_setCell_ne _ _ _ _ _ h, heap_setCell_ne _ _ _ _ _ h, heap_setCell_ne _ _ _ _ _ h, heap_setCell_ne _ _ _ _ _ h]
theorem free4 {w : World} {b : Nat} {c : Array Value} {t : TypeId} (h : w.heap[b]? = some (.cells c t (0, 0))) (j : Nat) : w.frozen? ⟨b, j, none⟩ = false := by simp [World.frozen?, h]
theorem cellOf4 {w : World} {b : Nat} {c : Array Value} {t : TypeId} {fr : Nat × Nat} (h : w.heap[b]? = some (.cells c t fr)) {j : Nat} {v : Value} (hj : c[j]? = some v) : w.cell? ⟨b, j, none⟩ = some v := by simp [World.cell?, h, hj]
theorem own_set4 {B n b : Nat} {e : TypeId} {size : Nat} {v : Value} {xs : List Value} {w : World} (h : w.ownsRow B e size v n xs) (hb : b < B) (x0 x1 x2 x3 : Value) : (set4 w b x0 x1 x2 x3).ownsRow B e size v n xs := by
  refine ⟨h.1, ?_⟩
  rcases h.2 with h | ⟨g, cap, cur, h1, h2, h3, h4⟩
  · exact .inl h
  · exact .inr ⟨g, cap, cur, h1, h2, by rw [heap_set4_ne (by omega)]; exact h3, h4⟩
abbrev ansN (v : Value) : Value := .agg #[.slice none 0 0, v, .int .i64 0, .int .i64 0]
def FindR (w : World) (T : List (List UInt8)) (e : Ending) (w' : World) : Prop :=
  ∃ v, e = .returned (.tuple #[.agg #[.slice none 0 0, v, .int .i64 0, .int .i64 0], .bool (decide (0 < T.length))]) ∧ StrC w.heap.size w' v T ∧ Below w.heap.size w w'
set_option maxHeartbeats 1000000 in
set_option maxRecDepth 100000 in
theorem find_any (q p B : Nat) (R : List (List UInt8 × List (List UInt8))) (s pr : ByteArray) (port : Int) (w : World) (hq : q < w.heap.size) (hc : w.cell? ⟨q, 0, none⟩ = some (.pointer (some ⟨p, 0, none⟩))) (hT : Tab B w p R) (hs : s.size ≤ maxLen) (hm : MaxAt w) :
    Calls Tryz.prog 23 #[.agg #[.int .i64 1, .string s, .string pr, .int .i64 port], .pointer (some ⟨q, 0, none⟩)] w (FindR w (byNm R s.data.toList)) := by
  have HB : Hid (∀ W : World, Below w.heap.size w W → Calls Tryz.prog 24 #[.pointer (some ⟨p, 0, none⟩), .string s] W (TextsR W (byNm R s.data.toList))) := Lib.hid fun W hW => byName_any s W (hT.below hW) hs (hm.below hW)
  have hb0 : ∀ o o', Below w.heap.size w ((w.alloc o).alloc o') := fun o o' => ((Below.refl _ w).alloc (Nat.le_refl _) o).alloc (by show w.heap.size ≤ (w.heap.push _).size; simp) o'
  have hcq : ∀ o o', ((w.alloc o).alloc o').cell? ⟨q, 0, none⟩ = some (.pointer (some ⟨p, 0, none⟩)) := fun o o' => by rw [(hb0 o o').cell (p := ⟨q, 0, none⟩) hq]; exact hc
  have hl : (byNm R s.data.toList).length ≤ 32 := by
    unfold byNm; split
    · exact addsOf_len _ _
    · simp
  generalize byNm R s.data.toList = T at *
  have HB0 := Lib.hid hb0
  clear hb0 hT hc hm
  go_enter Tryz.func23, Tryz.ntmps23
  have hA : ((w.alloc (.cells #[.int .i64 1, .string s, .string pr, .int .i64 port] 32)).alloc (.cells #[.slice none 0 0, .slice none 0 0, .int .i64 0, .int .i64 0] 25)).heap[w.heap.size + 1]? = some (.cells #[.slice none 0 0, .slice none 0 0, .int .i64 0, .int .i64 0] 25 (0, 0)) := by
    have h := heap_alloc_new (w.alloc (.cells #[.int .i64 1, .string s, .string pr, .int .i64 port] 32)) (.cells #[.slice none 0 0, .slice none 0 0, .int .i64 0, .int .i64 0] 25)
    rw [show (w.alloc (.cells #[.int .i64 1, .string s, .string pr, .int .i64 port] 32)).heap.size = w.heap.size + 1 from by show (w.heap.push _).size = _; simp] at h
    exact h
  have HA := Lib.hid hA
  clear hA
  go_upto_region 3 with (go_at_call 24; refine (HB.out _ (HB0.out _ _)).mono ?_; rintro e w1 ⟨v, rfl, hv, hb1⟩; obtain ⟨pv, cv, rfl⟩ := hv.shape)
  have hA1 := HA.out
  rw [← hb1.block (w.heap.size + 1) (Array.getElem?_eq_some_iff.1 HA.out).1] at hA1
  have HA1 := Lib.hid hA1
  have HV := Lib.hid hv
  have HBB := Lib.hid ((HB0.out _ _).trans (hb1.mono (HB0.out _ _).size))
  have f0 := free4 hA1 0
  have f1 := free4 hA1 1
  have f2 := free4 hA1 2
  have f3 := free4 hA1 3
  have d0 := cellOf4 hA1 (j := 0) rfl
  have d1 := cellOf4 hA1 (j := 1) rfl
  have d2 := cellOf4 hA1 (j := 2) rfl
  have d3 := cellOf4 hA1 (j := 3) rfl
  clear hA1 hv hb1
  go_wp2
  refine bodyPost_ret (results_row2 rfl _ _ _ _ _ _ _ rfl (set4_at HA1.out _ _ _ _) Tryz.underlying25 rfl (by kernel_rfl)) rfl ?_
  refine ⟨_, by first | rfl | simp [ansN], ?_, below_set4 HBB.out (by omega) _ _ _ _⟩
  have hs2 : w.heap.size + 1 < ((w.alloc (.cells #[.int .i64 1, .string s, .string pr, .int .i64 port] 32)).alloc (.cells #[.slice none 0 0, .slice none 0 0, .int .i64 0, .int .i64 0] 25)).heap.size := (Array.getElem?_eq_some_iff.1 HA.out).1
  exact lower (own_set4 HV.out hs2 _ _ _ _) (by omega)
end Go.Proofs.YtabkdaaenikliaaGreatDoor

namespace Go.Proofs.YtabkdaaenikliaaGreatDoor
open Go.RowKit Go.Lib Go.Tx Go.Mp Go.Rb Go.Ev Go.Fd
theorem results_row3 {P : Program} {fn : Func} {p u z : Tmp} {ty : TypeId} (h : fn.results = #[.cell p ty, .tmp u, .tmp z]) (tmps : Array Value) (w : World) (g : Nat) (t : TypeId) (cs : Array Value) (fr : Nat × Nat) (d : TypeDesc)
    (hp : tmps.getD p undef = .pointer (some ⟨g, 0, none⟩)) (hg : w.heap[g]? = some (.cells cs t fr))
    (hu : P.underlying ty = some d) (hd : (match d with | .struct _ | .array _ _ => true | _ => false) = true) (hi : (P.info? ty).map (·.size) = some cs.size) :
    (results fn tmps).run P w = .ok (.tuple #[.agg cs, tmps.getD u undef, tmps.getD z undef]) w := by
  have hp' : tmps[p]?.getD undef = .pointer (some ⟨g, 0, none⟩) := by rw [← hp]; simp [Array.getD_eq_getD_getElem?]
  simp only [results, h]
  simp [Sem.run_bind, hp', asAddr, run_loadVar_row w g t ty cs fr d hg hu hd hi, Result.andThen]
abbrev hostsP : ByteArray := ⟨#[47, 101, 116, 99, 47, 104, 111, 115, 116, 115]⟩
abbrev servicesP : ByteArray := ⟨#[47, 101, 116, 99, 47, 115, 101, 114, 118, 105, 99, 101, 115]⟩
abbrev unavailV : Value := .iface 34 (.int .i64 2)
abbrev zAns : Value := .agg #[.slice none 0 0, .slice none 0 0, .int .i64 0, .int .i64 0]
theorem own_apart {B n g : Nat} {e e' : TypeId} {size : Nat} {v : Value} {xs : List Value} {w : World} {c : Array Value} {fr : Nat × Nat} (h : w.ownsRow B e size v n xs) (hg : w.heap[g]? = some (.cells c e' fr)) (hne : e ≠ e') (k : Nat) (x : Value) : (w.setCell ⟨g, k, none⟩ x).ownsRow B e size v n xs := by
  refine ⟨h.1, ?_⟩
  rcases h.2 with h | ⟨g', cap, cur, h1, h2, h3, h4⟩
  · exact .inl h
  · refine .inr ⟨g', cap, cur, h1, h2, ?_, h4⟩
    rw [heap_setCell_ne _ _ _ _ _ (fun e => by subst e; rw [hg] at h3; cases h3; exact hne rfl)]
    exact h3
theorem kp_set1 {d b : Nat} {w w' : World} (h : Kp d w w') (hb : w.heap.size ≤ b) (k : Nat) (x : Value) : Kp d w (w'.setCell ⟨b, k, none⟩ x) :=
  ⟨h.os, h.tape, h.output, by rw [size_setCell']; exact h.size, fun j hj hd => by rw [heap_setCell_ne _ _ _ _ _ (by omega)]; exact h.block j hj hd⟩
theorem cell_keep {w w' : World} {b j : Nat} {v : Value} (h : w'.heap[b]? = w.heap[b]?) (hc : w.cell? ⟨b, j, none⟩ = some v) : w'.cell? ⟨b, j, none⟩ = some v := by rw [World.cell?_of_block (w := w) (a := ⟨b, j, none⟩) h]; exact hc
def LookR (d b : Nat) (w : World) (r s : Int) (T : List (List UInt8)) (P : Value → World → Prop) (e : Ending) (w' : World) : Prop :=
  ∃ v g fv, e = .returned (.tuple #[.agg #[.slice none 0 0, v, .int .i64 0, .int .i64 600], .slice (some ⟨g, 0, none⟩) 1 1, .nilIface]) ∧ StrC w.heap.size w' v T ∧ w.heap.size ≤ g ∧ g < w'.heap.size ∧ w'.cell? ⟨g, 1, none⟩ = some (.int .i64 s) ∧ DS w' d b r s fv ∧ P fv w' ∧ Kp d w w'
/-- A file that is not there. -/
def GoneR (w : World) (e : Ending) (w' : World) : Prop :=
  ∃ g, e = .returned (.tuple #[zAns, .slice (some ⟨g, 0, none⟩) 1 1, unavailV]) ∧ Below w.heap.size w w'
set_option maxHeartbeats 4000000 in
set_option maxRecDepth 100000 in
theorem look_hit (d b g0 c0 : Nat) (mp : Option Nat) (r s stw : Int) (fv : Value) (F : ByteArray → Option Value) (l : List UInt8) (R : List (List UInt8 × List (List UInt8))) (n pr : ByteArray) (port : Int) (w : World)
    (hD : DS w d b r s fv) (hFi : FindAt (d + 1) w fv R) (hW : WS w b stw mp F) (hF : F hostsP = some (fileB g0 l.length c0 s)) (hr : RowB 5 w g0 c0 l) (hc : c0 ≤ 9223372036854775807) (hl : l.length ≤ 100000) (hm : MaxAt w) (hd0 : d ≠ 0) (hn : n.size ≤ maxLen) (T : List (List UInt8)) (hTT : byNm R n.data.toList = T) (hT : 0 < T.length) :
    Calls Tryz.prog 13 #[.pointer (some ⟨d, 0, none⟩), .agg #[.int .i64 1, .string n, .string pr, .int .i64 port], .string hostsP, .pointer (some ⟨d, 2, none⟩), .func (.func 14) #[] #[]] w (LookR d b w r s T (fun v _ => v = fv)) := by
  have hs1 : (w.alloc (.cells #[.int .i64 1, .string n, .string pr, .int .i64 port] 32)).heap.size = w.heap.size + 1 := by show (w.heap.push _).size = _; simp
  have hs2 : ((w.alloc (.cells #[.int .i64 1, .string n, .string pr, .int .i64 port] 32)).alloc (.cells #[.slice none 0 0, .slice none 0 0, .int .i64 0, .int .i64 0] 25)).heap.size = w.heap.size + 2 := by show (Array.push _ _).size = _; rw [Array.size_push, hs1]
  have hb0 : Below w.heap.size w ((w.alloc (.cells #[.int .i64 1, .string n, .string pr, .int .i64 port] 32)).alloc (.cells #[.slice none 0 0, .slice none 0 0, .int .i64 0, .int .i64 0] 25)) := ((Below.refl _ w).alloc (Nat.le_refl _) _).alloc (by rw [hs1]; omega) _
  have hA0 : ((w.alloc (.cells #[.int .i64 1, .string n, .string pr, .int .i64 port] 32)).alloc (.cells #[.slice none 0 0, .slice none 0 0, .int .i64 0, .int .i64 0] 25)).heap[w.heap.size + 1]? = some (.cells #[.slice none 0 0, .slice none 0 0, .int .i64 0, .int .i64 0] 25 (0, 0)) := by
    have h := heap_alloc_new (w.alloc (.cells #[.int .i64 1, .string n, .string pr, .int .i64 port] 32)) (.cells #[.slice none 0 0, .slice none 0 0, .int .i64 0, .int .i64 0] 25)
    rw [hs1] at h
    exact h
  have hQ0 : ((w.alloc (.cells #[.int .i64 1, .string n, .string pr, .int .i64 port] 32)).alloc (.cells #[.slice none 0 0, .slice none 0 0, .int .i64 0, .int .i64 0] 25)).heap[w.heap.size]? = some (.cells #[.int .i64 1, .string n, .string pr, .int .i64 port] 32 (0, 0)) := by
    rw [heap_alloc_lt _ _ _ (by rw [hs1]; omega)]
    exact heap_alloc_new w _
  have HR : Hid (∀ W, Below w.heap.size w W → Calls Tryz.prog 21 #[.pointer (some ⟨b, 0, none⟩), .string hostsP] W fun e w' => ∃ g' c', e = .returned (.tuple #[.slice (some ⟨g', 0, none⟩) l.length c', .int .i64 s, .bool true]) ∧ RowB 5 w' g' c' l ∧ c' ≤ 9223372036854775807 ∧ Below W.heap.size W w') := Lib.hid fun W h => readb_any b g0 c0 mp stw s F hostsP l W (WS.below hW h) hF (rowB_same hr (h.block g0 (rowB_lt hr))) hc hl
  have hdl := hD.lt
  have hc0 : ((w.alloc (.cells #[.int .i64 1, .string n, .string pr, .int .i64 port] 32)).alloc (.cells #[.slice none 0 0, .slice none 0 0, .int .i64 0, .int .i64 0] 25)).cell? ⟨d, 0, none⟩ = some (.pointer (some ⟨b, 0, none⟩)) := cellOf4 (hD.below hb0) rfl
  have HD := Lib.hid hD
  have HB0 := Lib.hid hb0
  have HA0 := Lib.hid hA0
  have HQ0 := Lib.hid hQ0
  have HM := Lib.hid hm
  have HS2 := Lib.hid hs2
  have HFi := Lib.hid hFi
  clear hFi
  clear hb0 hA0 hQ0 hm hs1 hs2 hD hW hF hr hc
  go_enter Tryz.func13, Tryz.ntmps13
  go_upto_region 2 with (go_at_call 21; refine (HR.out _ HB0.out).mono ?_; rintro e w1 ⟨g1, c1, rfl, hrow1, hc1, hb1⟩)
  have hbw : Below w.heap.size w w1 := HB0.out.trans (hb1.mono HB0.out.size)
  have hsz : w.heap.size + 2 ≤ w1.heap.size := by have := hb1.size; rw [HS2.out] at this; exact this
  have hb2 : Below w.heap.size w (w1.alloc (.cells #[.string hostsP, .int .i64 s] 44)) := hbw.alloc (by omega) _
  have hb12 : Below ((w.alloc (.cells #[.int .i64 1, .string n, .string pr, .int .i64 port] 32)).alloc (.cells #[.slice none 0 0, .slice none 0 0, .int .i64 0, .int .i64 0] 25)).heap.size ((w.alloc (.cells #[.int .i64 1, .string n, .string pr, .int .i64 port] 32)).alloc (.cells #[.slice none 0 0, .slice none 0 0, .int .i64 0, .int .i64 0] 25)) (w1.alloc (.cells #[.string hostsP, .int .i64 s] 44)) := hb1.alloc hb1.size _
  have hbA : Below w1.heap.size w1 (w1.alloc (.cells #[.string hostsP, .int .i64 s] 44)) := (Below.refl _ w1).alloc (Nat.le_refl _) _
  have hsD : (w1.alloc (.cells #[.string hostsP, .int .i64 s] 44)).heap.size = w1.heap.size + 1 := by show (w1.heap.push _).size = _; simp
  have hDe : (w1.alloc (.cells #[.string hostsP, .int .i64 s] 44)).cell? ⟨w1.heap.size, 1, none⟩ = some (.int .i64 s) := by rw [World.cell?_alloc_new]; rfl
  have hD1 : DS (w1.alloc (.cells #[.string hostsP, .int .i64 s] 44)) d b r s fv := HD.out.below hb2
  have hc2 : (w1.alloc (.cells #[.string hostsP, .int .i64 s] 44)).cell? ⟨d, 2, none⟩ = some (.int .i64 s) := cellOf4 hD1 rfl
  have hA1 : (w1.alloc (.cells #[.string hostsP, .int .i64 s] 44)).heap[w.heap.size + 1]? = some (.cells #[.slice none 0 0, .slice none 0 0, .int .i64 0, .int .i64 0] 25 (0, 0)) := by rw [hb12.block _ (by rw [HS2.out]; omega)]; exact HA0.out
  have hQ1 : (w1.alloc (.cells #[.string hostsP, .int .i64 s] 44)).heap[w.heap.size]? = some (.cells #[.int .i64 1, .string n, .string pr, .int .i64 port] 32 (0, 0)) := by rw [hb12.block _ (by rw [HS2.out]; omega)]; exact HQ0.out
  have hM1 := HM.out.below hb2
  have HD8 := Lib.hid hD1
  have HA8 := Lib.hid hA1
  have HQ8 := Lib.hid hQ1
  have HE8 := Lib.hid hDe
  have HM8 := Lib.hid hM1
  have HK8 := Lib.hid (Kp.of (d := d) hb2)
  have HL8 : Hid (w.heap.size + 2 ≤ w1.heap.size ∧ w1.heap.size < (w1.alloc (.cells #[.string hostsP, .int .i64 s] 44)).heap.size) := Lib.hid ⟨hsz, by omega⟩
  clear hbw hsz hb2 hb12 hbA hsD hDe hD1 hA1 hQ1 hM1 hrow1 hc1 hb1 hc0
  go_upto_region 8 with (fail)
  clear hc2
  have HF8 : Hid (∃ D, FindAt D (w1.alloc (.cells #[.string hostsP, .int .i64 s] 44)) fv R) := Lib.hid ⟨_, HFi.out.keep (Nat.le_refl _) ⟨HK8.out.size, fun j h3 h4 => HK8.out.block j h4 (by omega)⟩⟩
  have HFE : Hid (∀ W : World, (w1.alloc (.cells #[.string hostsP, .int .i64 s] 44)).heap.size ≤ W.heap.size → (∀ j, j < (w1.alloc (.cells #[.string hostsP, .int .i64 s] 44)).heap.size → j ≠ w.heap.size + 1 → W.heap[j]? = (w1.alloc (.cells #[.string hostsP, .int .i64 s] 44)).heap[j]?) → (fun (v : Value) (_ : World) => v = fv) fv W) := Lib.hid fun _ _ _ => rfl
  generalize (w1.alloc (.cells #[.string hostsP, .int .i64 s] 44)) = w8 at *
  obtain ⟨D8, q, p, B, rfl, hq1, hq2, hq3, hq4, hq5⟩ := HF8.out
  have hdT : decide (0 < T.length) = true := decide_eq_true hT
  have HFd : Hid (∀ W, Below w8.heap.size w8 W → Calls Tryz.prog 23 #[.agg #[.int .i64 1, .string n, .string pr, .int .i64 port], .pointer (some ⟨q, 0, none⟩)] W (FindR W T)) := Lib.hid fun W hW => hTT ▸ find_any q p B R n pr port W (Nat.lt_of_lt_of_le hq2 hW.size) (by rw [hW.cell (p := ⟨q, 0, none⟩) hq2]; exact hq3) (hq5.below hW) hn (HM8.out.below hW)
  unfold FindR at HFd
  rw [hdT] at HFd
  clear hTT
  have k3 := cellOf4 HD8.out (j := 3) rfl
  have q0 := cellOf4 HQ8.out (j := 0) rfl
  have q1 := cellOf4 HQ8.out (j := 1) rfl
  have q2 := cellOf4 HQ8.out (j := 2) rfl
  have q3 := cellOf4 HQ8.out (j := 3) rfl
  clear hq1 hq2 hq3 hq4 hq5 hdT
  have HSx : Hid (∀ W, Below w8.heap.size w8 W → W.cell? ⟨d, 3, none⟩ = some (.func (.func 23) #[] #[.pointer (some ⟨q, 0, none⟩)]) ∧ W.cell? ⟨w.heap.size, 0, none⟩ = some (.int .i64 1) ∧ W.cell? ⟨w.heap.size, 1, none⟩ = some (.string n) ∧ W.cell? ⟨w.heap.size, 2, none⟩ = some (.string pr) ∧ W.cell? ⟨w.heap.size, 3, none⟩ = some (.int .i64 port)) := Lib.hid fun W h => by
    have hq : ∀ j y, #[.int .i64 1, .string n, .string pr, .int .i64 port][j]? = some y → W.cell? ⟨w.heap.size, j, none⟩ = some y := fun j y hy => by
      rw [h.cell (p := ⟨w.heap.size, j, none⟩) (Array.getElem?_eq_some_iff.1 HQ8.out).1]; exact cellOf4 HQ8.out hy
    exact ⟨by rw [h.cell (p := ⟨d, 3, none⟩) HD8.out.lt]; exact k3, hq 0 _ rfl, hq 1 _ rfl, hq 2 _ rfl, hq 3 _ rfl⟩
  go_cut [17, 18] from 58 to 66 (fun av bv wx => ∃ a v, av = .pointer (some ⟨a, 0, none⟩) ∧ bv = .bool true ∧ w8.heap.size ≤ a ∧ wx.heap[a]? = some (.cells #[.slice none 0 0, v, .int .i64 0, .int .i64 0] 25 (0, 0)) ∧ StrC w8.heap.size wx v T ∧ Below w8.heap.size w8 wx)
  case first =>
    go_region_held3 (fun W => W.cell? ⟨d, 3, none⟩ = some (.func (.func 23) #[] #[.pointer (some ⟨q, 0, none⟩)]) ∧ W.cell? ⟨w.heap.size, 0, none⟩ = some (.int .i64 1) ∧ W.cell? ⟨w.heap.size, 1, none⟩ = some (.string n) ∧ W.cell? ⟨w.heap.size, 2, none⟩ = some (.string pr) ∧ W.cell? ⟨w.heap.size, 3, none⟩ = some (.int .i64 port)) (first | exact HSx.out _ (Below.refl _ _) | exact HSx.out _ (Below.refl _ _).drew | exact HSx.out _ ((Below.refl _ _).drew.alloc (Nat.le_refl _) _) | exact HSx.out _ HB9.out | exact HSx.out _ (HB9.out.alloc HB9.out.size _) | exact HSx.out _ (below_set4 HB9.out (Nat.le_refl _) _ _ _ _) | exact HSx.out _ (below_set4 (HB9.out.alloc HB9.out.size _) HB9.out.size _ _ _ _) | go_keep) (((first | (go_at_call 23; refine (HFd.out _ (Below.refl _ _).drew).mono ?_; rintro e w9 ⟨v, rfl, hv9, hb9⟩; obtain ⟨pv, cv, rfl⟩ := hv9.shape; have HV9 : Hid (StrC w8.heap.size w9 (.slice pv T.length cv) T) := Lib.hid hv9; have HB9 : Hid (Below w8.heap.size w8 w9) := Lib.hid ((Below.refl _ w8).drew.trans hb9); have hz9 := heap_alloc_new w9 (.cells #[.slice none 0 0, .slice none 0 0, .int .i64 0, .int .i64 0] 25); have z0 := cellOf4 hz9 (j := 0) rfl; have z1 := cellOf4 hz9 (j := 1) rfl; have z2 := cellOf4 hz9 (j := 2) rfl; have z3 := cellOf4 hz9 (j := 3) rfl; have y0 := free4 hz9 0; have y1 := free4 hz9 1; have y2 := free4 hz9 2; have y3 := free4 hz9 3; clear hz9; clear hv9 hb9) | (go_at_call 23; refine (HFd.out _ ((Below.refl _ _).drew.alloc (Nat.le_refl _) _)).mono ?_; rintro e w9 ⟨v, rfl, hv9, hb9⟩; obtain ⟨pv, cv, rfl⟩ := hv9.shape; have HV99 : Hid (StrC (w8.heap.size + 1) w9 (.slice pv T.length cv) T) := Lib.hid (lower hv9 (by show w8.heap.size + 1 ≤ (Array.push _ _).size; simp)); have HB9 : Hid (Below w8.heap.size w8 w9) := Lib.hid (((Below.refl _ w8).drew.alloc (Nat.le_refl _) _).trans (hb9.mono ((Below.refl _ w8).drew.alloc (Nat.le_refl _) _).size)); have hz9 : w9.heap[w8.heap.size]? = some (.cells #[.slice none 0 0, .slice none 0 0, .int .i64 0, .int .i64 0] 25 (0, 0)) := (by rw [hb9.block w8.heap.size (by show w8.heap.size < (Array.push _ _).size; simp)]; exact heap_alloc_new w8.drew _); have HZ9 := Lib.hid hz9; have z0 := cellOf4 hz9 (j := 0) rfl; have z1 := cellOf4 hz9 (j := 1) rfl; have z2 := cellOf4 hz9 (j := 2) rfl; have z3 := cellOf4 hz9 (j := 3) rfl; have y0 := free4 hz9 0; have y1 := free4 hz9 1; have y2 := free4 hz9 2; have y3 := free4 hz9 3; clear hv9 hb9 hz9))))
    all_goals (try go_wp2_with fail)
    all_goals go_meet
    · exact ⟨w9.heap.size, _, rfl, rfl, HB9.out.size, heap_alloc_new w9 _, World.ownsRow.alloc HV9.out _, HB9.out.alloc HB9.out.size _⟩
    · exact ⟨w8.heap.size, _, rfl, rfl, Nat.le_refl _, set4_at HZ9.out _ _ _ _, lower (own_set4 HV99.out (by omega) _ _ _ _) (by omega), below_set4 HB9.out (Nat.le_refl _) _ _ _ _⟩
  case rest =>
  obtain ⟨a9, v, rfl, rfl, ha9, hA9, hV9, hB9⟩ := hcut
  obtain ⟨pv, cv, rfl⟩ := hV9.shape
  have HV9 := Lib.hid hV9
  have HB9 := Lib.hid hB9
  have HA9 := Lib.hid hA9
  have m3 := cellOf4 hA9 (j := 3) rfl
  have o3 := free4 hA9 3
  have hX : (wc.setCell ⟨a9, 3, none⟩ (.int .i64 600)).heap[a9]? = some (.cells #[.slice none 0 0, .slice pv T.length cv, .int .i64 0, .int .i64 600] 25 (0, 0)) := heap_setCell_eq _ a9 3 (.int .i64 600) _ _ _ hA9
  have n0 := cellOf4 hX (j := 0) rfl
  have n1 := cellOf4 hX (j := 1) rfl
  have n2 := cellOf4 hX (j := 2) rfl
  have n3 := cellOf4 hX (j := 3) rfl
  have hlA : w.heap.size + 1 < w8.heap.size := (Array.getElem?_eq_some_iff.1 HA8.out).1
  have hXA : (wc.setCell ⟨a9, 3, none⟩ (.int .i64 600)).heap[w.heap.size + 1]? = some (.cells #[.slice none 0 0, .slice none 0 0, .int .i64 0, .int .i64 0] 25 (0, 0)) := by
    rw [heap_setCell_ne _ _ _ _ _ (by omega), hB9.block _ hlA]; exact HA8.out
  have HXA := Lib.hid hXA
  have r0 := cellOf4 hXA (j := 0) rfl
  have r1 := cellOf4 hXA (j := 1) rfl
  have r2 := cellOf4 hXA (j := 2) rfl
  have r3 := cellOf4 hXA (j := 3) rfl
  have p0 := free4 hXA 0
  have p1 := free4 hXA 1
  have p2 := free4 hXA 2
  have p3 := free4 hXA 3
  have HH9 := Lib.hid ha9
  have HLA := Lib.hid hlA
  clear hX hXA hA9 hV9 hB9 q0 q1 q2 q3 k3 ha9 hlA
  go_wp2
  refine bodyPost_ret (results_row3 rfl _ _ _ _ _ _ _ rfl (set4_at HXA.out _ _ _ _) Tryz.underlying25 rfl (by kernel_rfl)) rfl ?_
  have hlA := HLA.out
  have ha9 := HH9.out
  have hK8 := HK8.out
  have hb9 := HB9.out
  have hL := HL8.out
  have hsf : (set4 (wc.setCell ⟨a9, 3, none⟩ (.int .i64 600)) (w.heap.size + 1) (.slice none 0 0) (.slice pv T.length cv) (.int .i64 0) (.int .i64 600)).heap.size = wc.heap.size := by rw [size_set4, size_setCell']
  have hfin : ∀ j, j < w8.heap.size → j ≠ w.heap.size + 1 → (set4 (wc.setCell ⟨a9, 3, none⟩ (.int .i64 600)) (w.heap.size + 1) (.slice none 0 0) (.slice pv T.length cv) (.int .i64 0) (.int .i64 600)).heap[j]? = w8.heap[j]? := fun j h1 h2 => by
    rw [heap_set4_ne h2, heap_setCell_ne _ _ _ _ _ (by omega)]; exact hb9.block j h1
  have hlw := hK8.size
  have hvf : StrC w.heap.size (set4 (wc.setCell ⟨a9, 3, none⟩ (.int .i64 600)) (w.heap.size + 1) (.slice none 0 0) (.slice pv T.length cv) (.int .i64 0) (.int .i64 600)) (.slice pv T.length cv) T := lower (own_set4 (own_apart HV9.out HA9.out (by decide) _ _) hlA _ _ _ _) (by omega)
  have hKf : Kp d w (set4 (wc.setCell ⟨a9, 3, none⟩ (.int .i64 600)) (w.heap.size + 1) (.slice none 0 0) (.slice pv T.length cv) (.int .i64 0) (.int .i64 600)) := kp_set4 (kp_set1 (hK8.trans (Kp.of hb9)) (by omega) _ _) (by omega) _ _ _ _
  refine ⟨.slice pv T.length cv, w1.heap.size, (.func (.func 23) #[] #[.pointer (some ⟨q, 0, none⟩)]), rfl, ?_⟩
  show StrC w.heap.size (set4 (wc.setCell ⟨a9, 3, none⟩ (.int .i64 600)) (w.heap.size + 1) (.slice none 0 0) (.slice pv T.length cv) (.int .i64 0) (.int .i64 600)) (.slice pv T.length cv) T ∧ w.heap.size ≤ w1.heap.size ∧ w1.heap.size < (set4 (wc.setCell ⟨a9, 3, none⟩ (.int .i64 600)) (w.heap.size + 1) (.slice none 0 0) (.slice pv T.length cv) (.int .i64 0) (.int .i64 600)).heap.size ∧ (set4 (wc.setCell ⟨a9, 3, none⟩ (.int .i64 600)) (w.heap.size + 1) (.slice none 0 0) (.slice pv T.length cv) (.int .i64 0) (.int .i64 600)).cell? ⟨w1.heap.size, 1, none⟩ = some (.int .i64 s) ∧ DS (set4 (wc.setCell ⟨a9, 3, none⟩ (.int .i64 600)) (w.heap.size + 1) (.slice none 0 0) (.slice pv T.length cv) (.int .i64 0) (.int .i64 600)) d b r s (.func (.func 23) #[] #[.pointer (some ⟨q, 0, none⟩)]) ∧ (Value.func (.func 23) #[] #[.pointer (some ⟨q, 0, none⟩)]) = (.func (.func 23) #[] #[.pointer (some ⟨q, 0, none⟩)]) ∧ Kp d w (set4 (wc.setCell ⟨a9, 3, none⟩ (.int .i64 600)) (w.heap.size + 1) (.slice none 0 0) (.slice pv T.length cv) (.int .i64 0) (.int .i64 600))
  generalize (set4 (wc.setCell ⟨a9, 3, none⟩ (.int .i64 600)) (w.heap.size + 1) (.slice none 0 0) (.slice pv T.length cv) (.int .i64 0) (.int .i64 600)) = fn at *
  have hsz9 := hb9.size
  have hne1 : w1.heap.size ≠ w.heap.size + 1 := by omega
  have hdl8 := HD8.out.lt
  exact ⟨hvf, by omega, by omega, cell_keep (hfin w1.heap.size hL.2 hne1) HE8.out, HD8.out.same (hfin d hdl8 (by omega)), rfl, hKf⟩
set_option maxHeartbeats 4000000 in
set_option maxRecDepth 100000 in
theorem look_miss (d b g0 c0 : Nat) (mp : Option Nat) (r s stw st : Int) (fv : Value) (F : ByteArray → Option Value) (l : List UInt8) (R : List (List UInt8 × List (List UInt8))) (n pr : ByteArray) (port : Int) (w : World)
    (hD : DS w d b r st fv) (hR : rowsOf (toldG 1 [] l) = R) (hg : GloAt w) (hW : WS w b stw mp F) (hF : F hostsP = some (fileB g0 l.length c0 s)) (hr : RowB 5 w g0 c0 l) (hc : c0 ≤ 9223372036854775807) (hl : l.length ≤ 100000) (hm : MaxAt w) (hd0 : d ≠ 0) (hn : n.size ≤ maxLen) (T : List (List UInt8)) (hTT : byNm R n.data.toList = T) (hT : 0 < T.length) (hne : st ≠ s) (hr0 : 0 ≤ r) (hr1 : r ≤ 1000000) :
    Calls Tryz.prog 13 #[.pointer (some ⟨d, 0, none⟩), .agg #[.int .i64 1, .string n, .string pr, .int .i64 port], .string hostsP, .pointer (some ⟨d, 2, none⟩), .func (.func 14) #[] #[]] w (LookR d b w (r + 1) s T (fun v W => FindAt (w.heap.size + 2) W v R)) := by
  have hs1 : (w.alloc (.cells #[.int .i64 1, .string n, .string pr, .int .i64 port] 32)).heap.size = w.heap.size + 1 := by show (w.heap.push _).size = _; simp
  have hs2 : ((w.alloc (.cells #[.int .i64 1, .string n, .string pr, .int .i64 port] 32)).alloc (.cells #[.slice none 0 0, .slice none 0 0, .int .i64 0, .int .i64 0] 25)).heap.size = w.heap.size + 2 := by show (Array.push _ _).size = _; rw [Array.size_push, hs1]
  have hb0 : Below w.heap.size w ((w.alloc (.cells #[.int .i64 1, .string n, .string pr, .int .i64 port] 32)).alloc (.cells #[.slice none 0 0, .slice none 0 0, .int .i64 0, .int .i64 0] 25)) := ((Below.refl _ w).alloc (Nat.le_refl _) _).alloc (by rw [hs1]; omega) _
  have hA0 : ((w.alloc (.cells #[.int .i64 1, .string n, .string pr, .int .i64 port] 32)).alloc (.cells #[.slice none 0 0, .slice none 0 0, .int .i64 0, .int .i64 0] 25)).heap[w.heap.size + 1]? = some (.cells #[.slice none 0 0, .slice none 0 0, .int .i64 0, .int .i64 0] 25 (0, 0)) := by
    have h := heap_alloc_new (w.alloc (.cells #[.int .i64 1, .string n, .string pr, .int .i64 port] 32)) (.cells #[.slice none 0 0, .slice none 0 0, .int .i64 0, .int .i64 0] 25)
    rw [hs1] at h
    exact h
  have hQ0 : ((w.alloc (.cells #[.int .i64 1, .string n, .string pr, .int .i64 port] 32)).alloc (.cells #[.slice none 0 0, .slice none 0 0, .int .i64 0, .int .i64 0] 25)).heap[w.heap.size]? = some (.cells #[.int .i64 1, .string n, .string pr, .int .i64 port] 32 (0, 0)) := by
    rw [heap_alloc_lt _ _ _ (by rw [hs1]; omega)]
    exact heap_alloc_new w _
  have HR : Hid (∀ W, Below w.heap.size w W → Calls Tryz.prog 21 #[.pointer (some ⟨b, 0, none⟩), .string hostsP] W fun e w' => ∃ g' c', e = .returned (.tuple #[.slice (some ⟨g', 0, none⟩) l.length c', .int .i64 s, .bool true]) ∧ RowB 5 w' g' c' l ∧ c' ≤ 9223372036854775807 ∧ Below W.heap.size W w') := Lib.hid fun W h => readb_any b g0 c0 mp stw s F hostsP l W (WS.below hW h) hF (rowB_same hr (h.block g0 (rowB_lt hr))) hc hl
  have hdl := hD.lt
  have hc0 : ((w.alloc (.cells #[.int .i64 1, .string n, .string pr, .int .i64 port] 32)).alloc (.cells #[.slice none 0 0, .slice none 0 0, .int .i64 0, .int .i64 0] 25)).cell? ⟨d, 0, none⟩ = some (.pointer (some ⟨b, 0, none⟩)) := cellOf4 (hD.below hb0) rfl
  have HD := Lib.hid hD
  have HB0 := Lib.hid hb0
  have HA0 := Lib.hid hA0
  have HQ0 := Lib.hid hQ0
  have HM := Lib.hid hm
  have HS2 := Lib.hid hs2
  have HG := Lib.hid hg
  clear hg
  clear hb0 hA0 hQ0 hm hs1 hs2 hD hW hF hr hc
  go_enter Tryz.func13, Tryz.ntmps13
  go_upto_region 2 with (go_at_call 21; refine (HR.out _ HB0.out).mono ?_; rintro e w1 ⟨g1, c1, rfl, hrow1, hc1, hb1⟩)
  have hbw : Below w.heap.size w w1 := HB0.out.trans (hb1.mono HB0.out.size)
  have hsz : w.heap.size + 2 ≤ w1.heap.size := by have := hb1.size; rw [HS2.out] at this; exact this
  have hb2 : Below w.heap.size w (w1.alloc (.cells #[.string hostsP, .int .i64 s] 44)) := hbw.alloc (by omega) _
  have hb12 : Below ((w.alloc (.cells #[.int .i64 1, .string n, .string pr, .int .i64 port] 32)).alloc (.cells #[.slice none 0 0, .slice none 0 0, .int .i64 0, .int .i64 0] 25)).heap.size ((w.alloc (.cells #[.int .i64 1, .string n, .string pr, .int .i64 port] 32)).alloc (.cells #[.slice none 0 0, .slice none 0 0, .int .i64 0, .int .i64 0] 25)) (w1.alloc (.cells #[.string hostsP, .int .i64 s] 44)) := hb1.alloc hb1.size _
  have hbA : Below w1.heap.size w1 (w1.alloc (.cells #[.string hostsP, .int .i64 s] 44)) := (Below.refl _ w1).alloc (Nat.le_refl _) _
  have hsD : (w1.alloc (.cells #[.string hostsP, .int .i64 s] 44)).heap.size = w1.heap.size + 1 := by show (w1.heap.push _).size = _; simp
  have hDe : (w1.alloc (.cells #[.string hostsP, .int .i64 s] 44)).cell? ⟨w1.heap.size, 1, none⟩ = some (.int .i64 s) := by rw [World.cell?_alloc_new]; rfl
  have hD1 : DS (w1.alloc (.cells #[.string hostsP, .int .i64 s] 44)) d b r st fv := HD.out.below hb2
  have hc2 : (w1.alloc (.cells #[.string hostsP, .int .i64 s] 44)).cell? ⟨d, 2, none⟩ = some (.int .i64 st) := cellOf4 hD1 rfl
  have hA1 : (w1.alloc (.cells #[.string hostsP, .int .i64 s] 44)).heap[w.heap.size + 1]? = some (.cells #[.slice none 0 0, .slice none 0 0, .int .i64 0, .int .i64 0] 25 (0, 0)) := by rw [hb12.block _ (by rw [HS2.out]; omega)]; exact HA0.out
  have hQ1 : (w1.alloc (.cells #[.string hostsP, .int .i64 s] 44)).heap[w.heap.size]? = some (.cells #[.int .i64 1, .string n, .string pr, .int .i64 port] 32 (0, 0)) := by rw [hb12.block _ (by rw [HS2.out]; omega)]; exact HQ0.out
  have hM1 := HM.out.below hb2
  have HPh : Hid (Calls Tryz.prog 14 #[.slice (some ⟨g1, 0, none⟩) l.length c1] (w1.alloc (.cells #[.string hostsP, .int .i64 s] 44)) fun e w' => ∃ fv, e = .returned fv ∧ FindAt (w1.alloc (.cells #[.string hostsP, .int .i64 s] 44)).heap.size w' fv R ∧ Below (w1.alloc (.cells #[.string hostsP, .int .i64 s] 44)).heap.size (w1.alloc (.cells #[.string hostsP, .int .i64 s] 44)) w') := Lib.hid (hR ▸ fparse_any ⟨g1, 0, none⟩ l.length c1 l _ ((ba_row hrow1 hc1).below hbA (fun y hy => by cases hy; exact rowB_lt hrow1)) (Nat.lt_of_lt_of_le (rowB_lt hrow1) hbA.size) hl (HG.out.below hb2) hM1)
  have hne2 : (s != st) = true := by simp; exact fun e => hne e.symm
  have HD1 := Lib.hid hD1
  have HA1 := Lib.hid hA1
  have HQ1 := Lib.hid hQ1
  have HE1 := Lib.hid hDe
  have HM1 := Lib.hid hM1
  have HB2 := Lib.hid hb2
  have HSD := Lib.hid hsD
  have HSZ := Lib.hid hsz
  clear hbw hsz hb2 hb12 hbA hsD hDe hD1 hA1 hQ1 hM1 hrow1 hc1 hb1 hc0 hR
  go_upto_region 7 with (go_at_call 14; refine HPh.out.mono ?_; rintro e w4 ⟨fw, rfl, hf4, hb4⟩; obtain ⟨q4, hq4⟩ : ∃ q, fw = .func (.func 23) #[] #[.pointer (some ⟨q, 0, none⟩)] := (by obtain ⟨q, _, _, e, _⟩ := hf4; exact ⟨q, e⟩); subst hq4; have HF4 := Lib.hid hf4; have HB4 := Lib.hid hb4; have hd4 := HD1.out.below hb4; have HD4 := Lib.hid hd4; have k2 := cellOf4 hd4 (j := 2) rfl; have k3 := cellOf4 hd4 (j := 3) rfl; have l2 := free4 hd4 2; have l3 := free4 hd4 3; clear hf4 hb4 hd4)
  clear k2 k3 l2 l3 hc2 hne2
  have hd5 : DS ((w4.setCell ⟨d, 2, none⟩ (.int .i64 s)).setCell ⟨d, 3, none⟩ (.func (.func 23) #[] #[.pointer (some ⟨q4, 0, none⟩)])) d b r s (.func (.func 23) #[] #[.pointer (some ⟨q4, 0, none⟩)]) := heap_setCell_eq _ d 3 (.func (.func 23) #[] #[.pointer (some ⟨q4, 0, none⟩)]) _ _ _ (heap_setCell_eq _ d 2 (.int .i64 s) _ _ _ HD4.out)
  have k1 := cellOf4 hd5 (j := 1) rfl
  have l1 := free4 hd5 1
  have HD5 := Lib.hid hd5
  clear hd5
  go_upto_region 8 with (fail)
  clear k1 l1
  have hd8 : DS (((w4.setCell ⟨d, 2, none⟩ (.int .i64 s)).setCell ⟨d, 3, none⟩ (.func (.func 23) #[] #[.pointer (some ⟨q4, 0, none⟩)])).setCell ⟨d, 1, none⟩ (.int .i64 (r + 1))) d b (r + 1) s (.func (.func 23) #[] #[.pointer (some ⟨q4, 0, none⟩)]) := heap_setCell_eq _ d 1 (.int .i64 (r + 1)) _ _ _ HD5.out
  have hs8 : (((w4.setCell ⟨d, 2, none⟩ (.int .i64 s)).setCell ⟨d, 3, none⟩ (.func (.func 23) #[] #[.pointer (some ⟨q4, 0, none⟩)])).setCell ⟨d, 1, none⟩ (.int .i64 (r + 1))).heap.size = w4.heap.size := by rw [size_setCell', size_setCell', size_setCell']
  have hn8 : ∀ j, j ≠ d → (((w4.setCell ⟨d, 2, none⟩ (.int .i64 s)).setCell ⟨d, 3, none⟩ (.func (.func 23) #[] #[.pointer (some ⟨q4, 0, none⟩)])).setCell ⟨d, 1, none⟩ (.int .i64 (r + 1))).heap[j]? = w4.heap[j]? := fun j hj => by rw [heap_setCell_ne _ _ _ _ _ hj, heap_setCell_ne _ _ _ _ _ hj, heap_setCell_ne _ _ _ _ _ hj]
  have ho8 : Kp d w4 (((w4.setCell ⟨d, 2, none⟩ (.int .i64 s)).setCell ⟨d, 3, none⟩ (.func (.func 23) #[] #[.pointer (some ⟨q4, 0, none⟩)])).setCell ⟨d, 1, none⟩ (.int .i64 (r + 1))) := (Kp.set.trans Kp.set).trans Kp.set
  have hs3 := HB4.out.size
  have hs4 := HSD.out
  have hs5 := HSZ.out
  have HD8 := Lib.hid hd8
  have HK8 := Lib.hid ((Kp.of (d := d) (HB2.out.trans (HB4.out.mono HB2.out.size))).trans ho8)
  have HA8 : Hid ((((w4.setCell ⟨d, 2, none⟩ (.int .i64 s)).setCell ⟨d, 3, none⟩ (.func (.func 23) #[] #[.pointer (some ⟨q4, 0, none⟩)])).setCell ⟨d, 1, none⟩ (.int .i64 (r + 1))).heap[w.heap.size + 1]? = some (.cells #[.slice none 0 0, .slice none 0 0, .int .i64 0, .int .i64 0] 25 (0, 0))) := Lib.hid (by rw [hn8 _ (by omega), HB4.out.block _ (by omega)]; exact HA1.out)
  have HQ8 : Hid ((((w4.setCell ⟨d, 2, none⟩ (.int .i64 s)).setCell ⟨d, 3, none⟩ (.func (.func 23) #[] #[.pointer (some ⟨q4, 0, none⟩)])).setCell ⟨d, 1, none⟩ (.int .i64 (r + 1))).heap[w.heap.size]? = some (.cells #[.int .i64 1, .string n, .string pr, .int .i64 port] 32 (0, 0))) := Lib.hid (by rw [hn8 _ (by omega), HB4.out.block _ (by omega)]; exact HQ1.out)
  have HE8 : Hid ((((w4.setCell ⟨d, 2, none⟩ (.int .i64 s)).setCell ⟨d, 3, none⟩ (.func (.func 23) #[] #[.pointer (some ⟨q4, 0, none⟩)])).setCell ⟨d, 1, none⟩ (.int .i64 (r + 1))).cell? ⟨w1.heap.size, 1, none⟩ = some (.int .i64 s)) := Lib.hid (by rw [World.cell?_of_block (w := (w1.alloc (.cells #[.string hostsP, .int .i64 s] 44))) (a := ⟨w1.heap.size, 1, none⟩) (by show _ = (w1.alloc (.cells #[.string hostsP, .int .i64 s] 44)).heap[w1.heap.size]?; rw [hn8 w1.heap.size (by omega)]; exact HB4.out.block w1.heap.size (by omega))]; exact HE1.out)
  have HM8 : Hid (MaxAt (((w4.setCell ⟨d, 2, none⟩ (.int .i64 s)).setCell ⟨d, 3, none⟩ (.func (.func 23) #[] #[.pointer (some ⟨q4, 0, none⟩)])).setCell ⟨d, 1, none⟩ (.int .i64 (r + 1)))) := Lib.hid (by obtain ⟨m, h⟩ := HM1.out.below HB4.out; exact ⟨m, by rw [World.cell?_of_block (w := w4) (a := ⟨0, 0, none⟩) (hn8 0 (fun e => hd0 e.symm))]; exact h⟩)
  have HL8 : Hid (w.heap.size + 2 ≤ w1.heap.size ∧ w1.heap.size < (((w4.setCell ⟨d, 2, none⟩ (.int .i64 s)).setCell ⟨d, 3, none⟩ (.func (.func 23) #[] #[.pointer (some ⟨q4, 0, none⟩)])).setCell ⟨d, 1, none⟩ (.int .i64 (r + 1))).heap.size) := Lib.hid ⟨hs5, by omega⟩
  have HFE : Hid (∀ W : World, (((w4.setCell ⟨d, 2, none⟩ (.int .i64 s)).setCell ⟨d, 3, none⟩ (.func (.func 23) #[] #[.pointer (some ⟨q4, 0, none⟩)])).setCell ⟨d, 1, none⟩ (.int .i64 (r + 1))).heap.size ≤ W.heap.size → (∀ j, j < (((w4.setCell ⟨d, 2, none⟩ (.int .i64 s)).setCell ⟨d, 3, none⟩ (.func (.func 23) #[] #[.pointer (some ⟨q4, 0, none⟩)])).setCell ⟨d, 1, none⟩ (.int .i64 (r + 1))).heap.size → j ≠ w.heap.size + 1 → W.heap[j]? = (((w4.setCell ⟨d, 2, none⟩ (.int .i64 s)).setCell ⟨d, 3, none⟩ (.func (.func 23) #[] #[.pointer (some ⟨q4, 0, none⟩)])).setCell ⟨d, 1, none⟩ (.int .i64 (r + 1))).heap[j]?) → FindAt (w.heap.size + 2) W (.func (.func 23) #[] #[.pointer (some ⟨q4, 0, none⟩)]) R) := Lib.hid fun W h1 h2 => HF4.out.keep (by omega) ⟨by omega, fun j h3 h4 => by rw [h2 j (by omega) (by omega)]; exact hn8 j (by omega)⟩
  have HF8 : Hid (∃ D, FindAt D (((w4.setCell ⟨d, 2, none⟩ (.int .i64 s)).setCell ⟨d, 3, none⟩ (.func (.func 23) #[] #[.pointer (some ⟨q4, 0, none⟩)])).setCell ⟨d, 1, none⟩ (.int .i64 (r + 1))) (.func (.func 23) #[] #[.pointer (some ⟨q4, 0, none⟩)]) R) := Lib.hid ⟨_, HFE.out _ (Nat.le_refl _) (fun _ _ _ => rfl)⟩
  clear hd8 hs8 hn8 ho8 hs3 hs4 hs5
  generalize (Value.func (.func 23) #[] #[.pointer (some ⟨q4, 0, none⟩)]) = fv4 at *
  generalize (((w4.setCell ⟨d, 2, none⟩ (.int .i64 s)).setCell ⟨d, 3, none⟩ fv4).setCell ⟨d, 1, none⟩ (.int .i64 (r + 1))) = w8 at *
  obtain ⟨D8, q, p, B, rfl, hq1, hq2, hq3, hq4, hq5⟩ := HF8.out
  have hdT : decide (0 < T.length) = true := decide_eq_true hT
  have HFd : Hid (∀ W, Below w8.heap.size w8 W → Calls Tryz.prog 23 #[.agg #[.int .i64 1, .string n, .string pr, .int .i64 port], .pointer (some ⟨q, 0, none⟩)] W (FindR W T)) := Lib.hid fun W hW => hTT ▸ find_any q p B R n pr port W (Nat.lt_of_lt_of_le hq2 hW.size) (by rw [hW.cell (p := ⟨q, 0, none⟩) hq2]; exact hq3) (hq5.below hW) hn (HM8.out.below hW)
  unfold FindR at HFd
  rw [hdT] at HFd
  clear hTT
  have k3 := cellOf4 HD8.out (j := 3) rfl
  have q0 := cellOf4 HQ8.out (j := 0) rfl
  have q1 := cellOf4 HQ8.out (j := 1) rfl
  have q2 := cellOf4 HQ8.out (j := 2) rfl
  have q3 := cellOf4 HQ8.out (j := 3) rfl
  clear hq1 hq2 hq3 hq4 hq5 hdT
  have HSx : Hid (∀ W, Below w8.heap.size w8 W → W.cell? ⟨d, 3, none⟩ = some (.func (.func 23) #[] #[.pointer (some ⟨q, 0, none⟩)]) ∧ W.cell? ⟨w.heap.size, 0, none⟩ = some (.int .i64 1) ∧ W.cell? ⟨w.heap.size, 1, none⟩ = some (.string n) ∧ W.cell? ⟨w.heap.size, 2, none⟩ = some (.string pr) ∧ W.cell? ⟨w.heap.size, 3, none⟩ = some (.int .i64 port)) := Lib.hid fun W h => by
    have hq : ∀ j y, #[.int .i64 1, .string n, .string pr, .int .i64 port][j]? = some y → W.cell? ⟨w.heap.size, j, none⟩ = some y := fun j y hy => by
      rw [h.cell (p := ⟨w.heap.size, j, none⟩) (Array.getElem?_eq_some_iff.1 HQ8.out).1]; exact cellOf4 HQ8.out hy
    exact ⟨by rw [h.cell (p := ⟨d, 3, none⟩) HD8.out.lt]; exact k3, hq 0 _ rfl, hq 1 _ rfl, hq 2 _ rfl, hq 3 _ rfl⟩
  go_cut [17, 18] from 58 to 66 (fun av bv wx => ∃ a v, av = .pointer (some ⟨a, 0, none⟩) ∧ bv = .bool true ∧ w8.heap.size ≤ a ∧ wx.heap[a]? = some (.cells #[.slice none 0 0, v, .int .i64 0, .int .i64 0] 25 (0, 0)) ∧ StrC w8.heap.size wx v T ∧ Below w8.heap.size w8 wx)
  case first =>
    go_region_held3 (fun W => W.cell? ⟨d, 3, none⟩ = some (.func (.func 23) #[] #[.pointer (some ⟨q, 0, none⟩)]) ∧ W.cell? ⟨w.heap.size, 0, none⟩ = some (.int .i64 1) ∧ W.cell? ⟨w.heap.size, 1, none⟩ = some (.string n) ∧ W.cell? ⟨w.heap.size, 2, none⟩ = some (.string pr) ∧ W.cell? ⟨w.heap.size, 3, none⟩ = some (.int .i64 port)) (first | exact HSx.out _ (Below.refl _ _) | exact HSx.out _ (Below.refl _ _).drew | exact HSx.out _ ((Below.refl _ _).drew.alloc (Nat.le_refl _) _) | exact HSx.out _ HB9.out | exact HSx.out _ (HB9.out.alloc HB9.out.size _) | exact HSx.out _ (below_set4 HB9.out (Nat.le_refl _) _ _ _ _) | exact HSx.out _ (below_set4 (HB9.out.alloc HB9.out.size _) HB9.out.size _ _ _ _) | go_keep) (((first | (go_at_call 23; refine (HFd.out _ (Below.refl _ _).drew).mono ?_; rintro e w9 ⟨v, rfl, hv9, hb9⟩; obtain ⟨pv, cv, rfl⟩ := hv9.shape; have HV9 : Hid (StrC w8.heap.size w9 (.slice pv T.length cv) T) := Lib.hid hv9; have HB9 : Hid (Below w8.heap.size w8 w9) := Lib.hid ((Below.refl _ w8).drew.trans hb9); have hz9 := heap_alloc_new w9 (.cells #[.slice none 0 0, .slice none 0 0, .int .i64 0, .int .i64 0] 25); have z0 := cellOf4 hz9 (j := 0) rfl; have z1 := cellOf4 hz9 (j := 1) rfl; have z2 := cellOf4 hz9 (j := 2) rfl; have z3 := cellOf4 hz9 (j := 3) rfl; have y0 := free4 hz9 0; have y1 := free4 hz9 1; have y2 := free4 hz9 2; have y3 := free4 hz9 3; clear hz9; clear hv9 hb9) | (go_at_call 23; refine (HFd.out _ ((Below.refl _ _).drew.alloc (Nat.le_refl _) _)).mono ?_; rintro e w9 ⟨v, rfl, hv9, hb9⟩; obtain ⟨pv, cv, rfl⟩ := hv9.shape; have HV99 : Hid (StrC (w8.heap.size + 1) w9 (.slice pv T.length cv) T) := Lib.hid (lower hv9 (by show w8.heap.size + 1 ≤ (Array.push _ _).size; simp)); have HB9 : Hid (Below w8.heap.size w8 w9) := Lib.hid (((Below.refl _ w8).drew.alloc (Nat.le_refl _) _).trans (hb9.mono ((Below.refl _ w8).drew.alloc (Nat.le_refl _) _).size)); have hz9 : w9.heap[w8.heap.size]? = some (.cells #[.slice none 0 0, .slice none 0 0, .int .i64 0, .int .i64 0] 25 (0, 0)) := (by rw [hb9.block w8.heap.size (by show w8.heap.size < (Array.push _ _).size; simp)]; exact heap_alloc_new w8.drew _); have HZ9 := Lib.hid hz9; have z0 := cellOf4 hz9 (j := 0) rfl; have z1 := cellOf4 hz9 (j := 1) rfl; have z2 := cellOf4 hz9 (j := 2) rfl; have z3 := cellOf4 hz9 (j := 3) rfl; have y0 := free4 hz9 0; have y1 := free4 hz9 1; have y2 := free4 hz9 2; have y3 := free4 hz9 3; clear hv9 hb9 hz9))))
    all_goals (try go_wp2_with fail)
    all_goals go_meet
    · exact ⟨w9.heap.size, _, rfl, rfl, HB9.out.size, heap_alloc_new w9 _, World.ownsRow.alloc HV9.out _, HB9.out.alloc HB9.out.size _⟩
    · exact ⟨w8.heap.size, _, rfl, rfl, Nat.le_refl _, set4_at HZ9.out _ _ _ _, lower (own_set4 HV99.out (by omega) _ _ _ _) (by omega), below_set4 HB9.out (Nat.le_refl _) _ _ _ _⟩
  case rest =>
  obtain ⟨a9, v, rfl, rfl, ha9, hA9, hV9, hB9⟩ := hcut
  obtain ⟨pv, cv, rfl⟩ := hV9.shape
  have HV9 := Lib.hid hV9
  have HB9 := Lib.hid hB9
  have HA9 := Lib.hid hA9
  have m3 := cellOf4 hA9 (j := 3) rfl
  have o3 := free4 hA9 3
  have hX : (wc.setCell ⟨a9, 3, none⟩ (.int .i64 600)).heap[a9]? = some (.cells #[.slice none 0 0, .slice pv T.length cv, .int .i64 0, .int .i64 600] 25 (0, 0)) := heap_setCell_eq _ a9 3 (.int .i64 600) _ _ _ hA9
  have n0 := cellOf4 hX (j := 0) rfl
  have n1 := cellOf4 hX (j := 1) rfl
  have n2 := cellOf4 hX (j := 2) rfl
  have n3 := cellOf4 hX (j := 3) rfl
  have hlA : w.heap.size + 1 < w8.heap.size := (Array.getElem?_eq_some_iff.1 HA8.out).1
  have hXA : (wc.setCell ⟨a9, 3, none⟩ (.int .i64 600)).heap[w.heap.size + 1]? = some (.cells #[.slice none 0 0, .slice none 0 0, .int .i64 0, .int .i64 0] 25 (0, 0)) := by
    rw [heap_setCell_ne _ _ _ _ _ (by omega), hB9.block _ hlA]; exact HA8.out
  have HXA := Lib.hid hXA
  have r0 := cellOf4 hXA (j := 0) rfl
  have r1 := cellOf4 hXA (j := 1) rfl
  have r2 := cellOf4 hXA (j := 2) rfl
  have r3 := cellOf4 hXA (j := 3) rfl
  have p0 := free4 hXA 0
  have p1 := free4 hXA 1
  have p2 := free4 hXA 2
  have p3 := free4 hXA 3
  have HH9 := Lib.hid ha9
  have HLA := Lib.hid hlA
  clear hX hXA hA9 hV9 hB9 q0 q1 q2 q3 k3 ha9 hlA
  go_wp2
  refine bodyPost_ret (results_row3 rfl _ _ _ _ _ _ _ rfl (set4_at HXA.out _ _ _ _) Tryz.underlying25 rfl (by kernel_rfl)) rfl ?_
  have hlA := HLA.out
  have ha9 := HH9.out
  have hK8 := HK8.out
  have hb9 := HB9.out
  have hL := HL8.out
  have hsf : (set4 (wc.setCell ⟨a9, 3, none⟩ (.int .i64 600)) (w.heap.size + 1) (.slice none 0 0) (.slice pv T.length cv) (.int .i64 0) (.int .i64 600)).heap.size = wc.heap.size := by rw [size_set4, size_setCell']
  have hfin : ∀ j, j < w8.heap.size → j ≠ w.heap.size + 1 → (set4 (wc.setCell ⟨a9, 3, none⟩ (.int .i64 600)) (w.heap.size + 1) (.slice none 0 0) (.slice pv T.length cv) (.int .i64 0) (.int .i64 600)).heap[j]? = w8.heap[j]? := fun j h1 h2 => by
    rw [heap_set4_ne h2, heap_setCell_ne _ _ _ _ _ (by omega)]; exact hb9.block j h1
  have hlw := hK8.size
  have hvf : StrC w.heap.size (set4 (wc.setCell ⟨a9, 3, none⟩ (.int .i64 600)) (w.heap.size + 1) (.slice none 0 0) (.slice pv T.length cv) (.int .i64 0) (.int .i64 600)) (.slice pv T.length cv) T := lower (own_set4 (own_apart HV9.out HA9.out (by decide) _ _) hlA _ _ _ _) (by omega)
  have hKf : Kp d w (set4 (wc.setCell ⟨a9, 3, none⟩ (.int .i64 600)) (w.heap.size + 1) (.slice none 0 0) (.slice pv T.length cv) (.int .i64 0) (.int .i64 600)) := kp_set4 (kp_set1 (hK8.trans (Kp.of hb9)) (by omega) _ _) (by omega) _ _ _ _
  refine ⟨.slice pv T.length cv, w1.heap.size, (.func (.func 23) #[] #[.pointer (some ⟨q, 0, none⟩)]), rfl, ?_⟩
  show StrC w.heap.size (set4 (wc.setCell ⟨a9, 3, none⟩ (.int .i64 600)) (w.heap.size + 1) (.slice none 0 0) (.slice pv T.length cv) (.int .i64 0) (.int .i64 600)) (.slice pv T.length cv) T ∧ w.heap.size ≤ w1.heap.size ∧ w1.heap.size < (set4 (wc.setCell ⟨a9, 3, none⟩ (.int .i64 600)) (w.heap.size + 1) (.slice none 0 0) (.slice pv T.length cv) (.int .i64 0) (.int .i64 600)).heap.size ∧ (set4 (wc.setCell ⟨a9, 3, none⟩ (.int .i64 600)) (w.heap.size + 1) (.slice none 0 0) (.slice pv T.length cv) (.int .i64 0) (.int .i64 600)).cell? ⟨w1.heap.size, 1, none⟩ = some (.int .i64 s) ∧ DS (set4 (wc.setCell ⟨a9, 3, none⟩ (.int .i64 600)) (w.heap.size + 1) (.slice none 0 0) (.slice pv T.length cv) (.int .i64 0) (.int .i64 600)) d b (r + 1) s (.func (.func 23) #[] #[.pointer (some ⟨q, 0, none⟩)]) ∧ FindAt (w.heap.size + 2) (set4 (wc.setCell ⟨a9, 3, none⟩ (.int .i64 600)) (w.heap.size + 1) (.slice none 0 0) (.slice pv T.length cv) (.int .i64 0) (.int .i64 600)) (.func (.func 23) #[] #[.pointer (some ⟨q, 0, none⟩)]) R ∧ Kp d w (set4 (wc.setCell ⟨a9, 3, none⟩ (.int .i64 600)) (w.heap.size + 1) (.slice none 0 0) (.slice pv T.length cv) (.int .i64 0) (.int .i64 600))
  generalize (set4 (wc.setCell ⟨a9, 3, none⟩ (.int .i64 600)) (w.heap.size + 1) (.slice none 0 0) (.slice pv T.length cv) (.int .i64 0) (.int .i64 600)) = fn at *
  have hsz9 := hb9.size
  have hne1 : w1.heap.size ≠ w.heap.size + 1 := by omega
  have hdl8 := HD8.out.lt
  exact ⟨hvf, by omega, by omega, cell_keep (hfin w1.heap.size hL.2 hne1) HE8.out, HD8.out.same (hfin d hdl8 (by omega)), HFE.out fn (by omega) hfin, hKf⟩
end Go.Proofs.YtabkdaaenikliaaGreatDoor

namespace Go.Proofs.YtabkdaaenikliaaGreatDoor
open Go.RowKit Go.Lib Go.Tx Go.Mp Go.Rb Go.Ev Go.Fd
theorem size2 (w : World) (o o' : Obj) : ((w.alloc o).alloc o').heap.size = w.heap.size + 2 := by show (Array.push (Array.push _ _) _).size = _; simp
theorem new2 (w : World) (o : Obj) (c : Array Value) (t : TypeId) : ((w.alloc o).alloc (.cells c t)).heap[w.heap.size + 1]? = some (.cells c t (0, 0)) := by
  have h := heap_alloc_new (w.alloc o) (.cells c t)
  rw [show (w.alloc o).heap.size = w.heap.size + 1 from by show (w.heap.push _).size = _; simp] at h
  exact h
theorem new1 (w : World) (c : Array Value) (t : TypeId) (o : Obj) : ((w.alloc (.cells c t)).alloc o).heap[w.heap.size]? = some (.cells c t (0, 0)) := by
  rw [heap_alloc_lt _ _ _ (by show w.heap.size < (w.heap.push _).size; simp)]
  exact heap_alloc_new w _
theorem below2 (w : World) (o o' : Obj) : Below w.heap.size w ((w.alloc o).alloc o') := ((Below.refl _ w).alloc (Nat.le_refl _) o).alloc (by show w.heap.size ≤ (w.heap.push _).size; simp) o'
set_option maxHeartbeats 2000000 in
set_option maxRecDepth 100000 in
theorem look_gone (d b : Nat) (mp : Option Nat) (r st stw : Int) (fv : Value) (F : ByteArray → Option Value) (db port : Int) (n pr : ByteArray) (pa : Addr) (fn : Value) (w : World) (hD : DS w d b r st fv) (hW : WS w b stw mp F) (hF : F servicesP = none) :
    Calls Tryz.prog 13 #[.pointer (some ⟨d, 0, none⟩), .agg #[.int .i64 db, .string n, .string pr, .int .i64 port], .string servicesP, .pointer (some pa), fn] w (GoneR w) := by
  have HR : Hid (∀ W, Below w.heap.size w W → Calls Tryz.prog 21 #[.pointer (some ⟨b, 0, none⟩), .string servicesP] W fun e w' => e = .returned (.tuple #[.slice none 0 0, .int .i64 0, .bool false]) ∧ Below W.heap.size W w') := Lib.hid fun W h => read_any b mp stw 0 false F servicesP W (WS.below hW h) (by rw [hF]; rfl)
  have hc0 : ((w.alloc (.cells #[.int .i64 db, .string n, .string pr, .int .i64 port] 32)).alloc (.cells #[.slice none 0 0, .slice none 0 0, .int .i64 0, .int .i64 0] 25)).cell? ⟨d, 0, none⟩ = some (.pointer (some ⟨b, 0, none⟩)) := cellOf4 (hD.below (below2 w _ _)) rfl
  have HA0 := Lib.hid (new2 w (.cells #[.int .i64 db, .string n, .string pr, .int .i64 port] 32) #[.slice none 0 0, .slice none 0 0, .int .i64 0, .int .i64 0] 25)
  have HB0 := Lib.hid (below2 w (.cells #[.int .i64 db, .string n, .string pr, .int .i64 port] 32) (.cells #[.slice none 0 0, .slice none 0 0, .int .i64 0, .int .i64 0] 25))
  have HS0 := Lib.hid (size2 w (.cells #[.int .i64 db, .string n, .string pr, .int .i64 port] 32) (.cells #[.slice none 0 0, .slice none 0 0, .int .i64 0, .int .i64 0] 25))
  clear hD hW hF
  go_enter Tryz.func13, Tryz.ntmps13
  go_upto_region 4 with (go_at_call 21; refine (HR.out _ HB0.out).mono ?_; rintro e w1 ⟨rfl, hb1⟩)
  have hb2 : Below ((w.alloc (.cells #[.int .i64 db, .string n, .string pr, .int .i64 port] 32)).alloc (.cells #[.slice none 0 0, .slice none 0 0, .int .i64 0, .int .i64 0] 25)).heap.size ((w.alloc (.cells #[.int .i64 db, .string n, .string pr, .int .i64 port] 32)).alloc (.cells #[.slice none 0 0, .slice none 0 0, .int .i64 0, .int .i64 0] 25)) (w1.alloc (.cells #[.string servicesP, .int .i64 0] 44)) := hb1.alloc hb1.size _
  have hA := HA0.out
  rw [← hb2.block (w.heap.size + 1) (by rw [HS0.out]; omega)] at hA
  have a0 := cellOf4 hA (j := 0) rfl
  have a1 := cellOf4 hA (j := 1) rfl
  have a2 := cellOf4 hA (j := 2) rfl
  have a3 := cellOf4 hA (j := 3) rfl
  have f0 := free4 hA 0
  have f1 := free4 hA 1
  have f2 := free4 hA 2
  have f3 := free4 hA 3
  have HA := Lib.hid hA
  have HBf := Lib.hid (HB0.out.trans (hb2.mono HB0.out.size))
  clear hA hb1 hb2 hc0
  go_wp2
  refine bodyPost_ret (results_row3 rfl _ _ _ _ _ _ _ rfl (set4_at HA.out _ _ _ _) Tryz.underlying25 rfl (by kernel_rfl)) rfl ?_
  exact ⟨w1.heap.size, rfl, below_set4 HBf.out (by omega) _ _ _ _⟩
set_option maxHeartbeats 2000000 in
set_option maxRecDepth 100000 in
theorem gone_any (d b : Nat) (mp : Option Nat) (r st stw : Int) (fv : Value) (F : ByteArray → Option Value) (port : Int) (n pr : ByteArray) (w : World) (hD : DS w d b r st fv) (hW : WS w b stw mp F) (hF : F servicesP = none) :
    Calls Tryz.prog 5 #[.pointer (some ⟨d, 0, none⟩), .agg #[.int .i64 4, .string n, .string pr, .int .i64 port]] w (GoneR w) := by
  have HL : Hid (∀ W pa fn, Below w.heap.size w W → Calls Tryz.prog 13 #[.pointer (some ⟨d, 0, none⟩), .agg #[.int .i64 4, .string n, .string pr, .int .i64 port], .string servicesP, .pointer (some pa), fn] W (GoneR W)) := Lib.hid fun W pa fn h => look_gone d b mp r st stw fv F 4 port n pr pa fn W (hD.below h) (WS.below hW h) hF
  have hdl := hD.lt
  have HA0 := Lib.hid (new2 w (.cells #[.int .i64 4, .string n, .string pr, .int .i64 port] 32) #[.slice none 0 0, .slice none 0 0, .int .i64 0, .int .i64 0] 25)
  have HB0 := Lib.hid (below2 w (.cells #[.int .i64 4, .string n, .string pr, .int .i64 port] 32) (.cells #[.slice none 0 0, .slice none 0 0, .int .i64 0, .int .i64 0] 25))
  have HS0 := Lib.hid (size2 w (.cells #[.int .i64 4, .string n, .string pr, .int .i64 port] 32) (.cells #[.slice none 0 0, .slice none 0 0, .int .i64 0, .int .i64 0] 25))
  have hQ := new1 w #[.int .i64 4, .string n, .string pr, .int .i64 port] 32 (.cells #[.slice none 0 0, .slice none 0 0, .int .i64 0, .int .i64 0] 25)
  have HQ0 := Lib.hid hQ
  have HSx : Hid (∀ W : World, W.heap[w.heap.size]? = some (.cells #[.int .i64 4, .string n, .string pr, .int .i64 port] 32 (0, 0)) → W.cell? ⟨w.heap.size, 0, none⟩ = some (.int .i64 4) ∧ W.cell? ⟨w.heap.size, 1, none⟩ = some (.string n) ∧ W.cell? ⟨w.heap.size, 2, none⟩ = some (.string pr) ∧ W.cell? ⟨w.heap.size, 3, none⟩ = some (.int .i64 port)) := Lib.hid fun W h => ⟨cellOf4 h rfl, cellOf4 h rfl, cellOf4 h rfl, cellOf4 h rfl⟩
  have q0 := cellOf4 hQ (j := 0) rfl
  clear hQ hD hW hF
  go_enter Tryz.func5, Tryz.ntmps5
  go_upto_region 9 with (fail)
  clear q0
  go_region_held3 (fun W => W.cell? ⟨w.heap.size, 0, none⟩ = some (.int .i64 4) ∧ W.cell? ⟨w.heap.size, 1, none⟩ = some (.string n) ∧ W.cell? ⟨w.heap.size, 2, none⟩ = some (.string pr) ∧ W.cell? ⟨w.heap.size, 3, none⟩ = some (.int .i64 port)) (first | exact HSx.out _ HQ0.out | exact HSx.out _ HQ9.out | exact HSx.out _ ((heap_set4_ne (by omega) _ _ _ _).trans HQ9.out)) (((go_at_call 13; refine (HL.out _ _ _ HB0.out.drew).mono ?_; rintro e w9 ⟨g, rfl, hb9⟩; have HQ9 := Lib.hid ((hb9.block w.heap.size (by show w.heap.size < ((w.alloc (.cells #[.int .i64 4, .string n, .string pr, .int .i64 port] 32)).alloc (.cells #[.slice none 0 0, .slice none 0 0, .int .i64 0, .int .i64 0] 25)).heap.size; rw [HS0.out]; omega)).trans HQ0.out); have hA := (hb9.block (w.heap.size + 1) (by show w.heap.size + 1 < ((w.alloc (.cells #[.int .i64 4, .string n, .string pr, .int .i64 port] 32)).alloc (.cells #[.slice none 0 0, .slice none 0 0, .int .i64 0, .int .i64 0] 25)).heap.size; rw [HS0.out]; omega)).trans HA0.out; have HBf := Lib.hid (HB0.out.drew.trans (hb9.mono HB0.out.size)); clear hb9; have a0 := cellOf4 hA (j := 0) rfl; have a1 := cellOf4 hA (j := 1) rfl; have a2 := cellOf4 hA (j := 2) rfl; have a3 := cellOf4 hA (j := 3) rfl; have f0 := free4 hA 0; have f1 := free4 hA 1; have f2 := free4 hA 2; have f3 := free4 hA 3; have HA := Lib.hid hA; clear hA)))
  all_goals (try go_wp2)
  all_goals refine bodyPost_ret (results_row3 rfl _ _ _ _ _ _ _ rfl (set4_at HA.out _ _ _ _) Tryz.underlying25 rfl (by kernel_rfl)) rfl ?_
  all_goals exact ⟨g, rfl, below_set4 HBf.out (by omega) _ _ _ _⟩
set_option maxHeartbeats 2000000 in
set_option maxRecDepth 100000 in
theorem host_hit (d b g0 c0 : Nat) (mp : Option Nat) (r s stw : Int) (fv : Value) (F : ByteArray → Option Value) (l : List UInt8) (R : List (List UInt8 × List (List UInt8))) (n pr : ByteArray) (port : Int) (w : World) (hD : DS w d b r s fv) (hFi : FindAt (d + 1) w fv R) (hW : WS w b stw mp F) (hF : F hostsP = some (fileB g0 l.length c0 s)) (hr : RowB 5 w g0 c0 l) (hc : c0 ≤ 9223372036854775807) (hl : l.length ≤ 100000) (hm : MaxAt w) (hd0 : d ≠ 0) (hn : n.size ≤ maxLen) (T : List (List UInt8)) (hTT : byNm R n.data.toList = T) (hT : 0 < T.length) :
    Calls Tryz.prog 5 #[.pointer (some ⟨d, 0, none⟩), .agg #[.int .i64 1, .string n, .string pr, .int .i64 port]] w (LookR d b w r s T (fun v _ => v = fv)) := by
  have HL : Hid (∀ W, Below w.heap.size w W → Calls Tryz.prog 13 #[.pointer (some ⟨d, 0, none⟩), .agg #[.int .i64 1, .string n, .string pr, .int .i64 port], .string hostsP, .pointer (some ⟨d, 2, none⟩), .func (.func 14) #[] #[]] W (LookR d b W r s T (fun v _ => v = fv))) := Lib.hid fun W h => look_hit d b g0 c0 mp r s stw fv F l R n pr port W (hD.below h) (hFi.keep (Nat.le_refl _) ⟨h.size, fun j _ hj => h.block j hj⟩) (WS.below hW h) hF (rowB_same hr (h.block g0 (rowB_lt hr))) hc hl (hm.below h) hd0 hn T hTT hT
  have hdl := hD.lt
  have HA0 := Lib.hid (new2 w (.cells #[.int .i64 1, .string n, .string pr, .int .i64 port] 32) #[.slice none 0 0, .slice none 0 0, .int .i64 0, .int .i64 0] 25)
  have HB0 := Lib.hid (below2 w (.cells #[.int .i64 1, .string n, .string pr, .int .i64 port] 32) (.cells #[.slice none 0 0, .slice none 0 0, .int .i64 0, .int .i64 0] 25))
  have HS0 := Lib.hid (size2 w (.cells #[.int .i64 1, .string n, .string pr, .int .i64 port] 32) (.cells #[.slice none 0 0, .slice none 0 0, .int .i64 0, .int .i64 0] 25))
  have hQ := new1 w #[.int .i64 1, .string n, .string pr, .int .i64 port] 32 (.cells #[.slice none 0 0, .slice none 0 0, .int .i64 0, .int .i64 0] 25)
  have HQ0 := Lib.hid hQ
  have HSx : Hid (∀ W : World, W.heap[w.heap.size]? = some (.cells #[.int .i64 1, .string n, .string pr, .int .i64 port] 32 (0, 0)) → W.cell? ⟨w.heap.size, 0, none⟩ = some (.int .i64 1) ∧ W.cell? ⟨w.heap.size, 1, none⟩ = some (.string n) ∧ W.cell? ⟨w.heap.size, 2, none⟩ = some (.string pr) ∧ W.cell? ⟨w.heap.size, 3, none⟩ = some (.int .i64 port)) := Lib.hid fun W h => ⟨cellOf4 h rfl, cellOf4 h rfl, cellOf4 h rfl, cellOf4 h rfl⟩
  have q0 := cellOf4 hQ (j := 0) rfl
  clear hQ hW hF hr hc hl hm hD hTT hFi
  go_enter Tryz.func5, Tryz.ntmps5
  go_upto_region 6 with (fail)
  clear q0
  go_region_held3 (fun W => W.cell? ⟨w.heap.size, 0, none⟩ = some (.int .i64 1) ∧ W.cell? ⟨w.heap.size, 1, none⟩ = some (.string n) ∧ W.cell? ⟨w.heap.size, 2, none⟩ = some (.string pr) ∧ W.cell? ⟨w.heap.size, 3, none⟩ = some (.int .i64 port)) (first | exact HSx.out _ HQ0.out | exact HSx.out _ HQ9.out | exact HSx.out _ ((heap_set4_ne (by omega) _ _ _ _).trans HQ9.out)) (((go_at_call 13; refine (HL.out _ HB0.out.drew).mono ?_; rintro e w9 ⟨v, g, fv9, rfl, hv9, hg9, hg9', he9, hd9, hp9, hk9⟩; obtain ⟨pv, cv, rfl⟩ := hv9.shape; have hsW : w.heap.size + 2 ≤ w9.heap.size := (by have h1 := hk9.size; have h2 : w.heap.size + 2 ≤ ((w.alloc (.cells #[.int .i64 1, .string n, .string pr, .int .i64 port] 32)).alloc (.cells #[.slice none 0 0, .slice none 0 0, .int .i64 0, .int .i64 0] 25)).heap.size := (by rw [HS0.out]; exact Nat.le_refl _); exact Nat.le_trans h2 h1); have HQ9 := Lib.hid ((hk9.block w.heap.size (by show w.heap.size < ((w.alloc (.cells #[.int .i64 1, .string n, .string pr, .int .i64 port] 32)).alloc (.cells #[.slice none 0 0, .slice none 0 0, .int .i64 0, .int .i64 0] 25)).heap.size; rw [HS0.out]; omega) (by omega)).trans HQ0.out); have hA := (hk9.block (w.heap.size + 1) (by show w.heap.size + 1 < ((w.alloc (.cells #[.int .i64 1, .string n, .string pr, .int .i64 port] 32)).alloc (.cells #[.slice none 0 0, .slice none 0 0, .int .i64 0, .int .i64 0] 25)).heap.size; rw [HS0.out]; omega) (by omega)).trans HA0.out; have HV9 : Hid (StrC (w.heap.size + 2) w9 (.slice pv T.length cv) T) := Lib.hid (lower hv9 (by show w.heap.size + 2 ≤ ((w.alloc (.cells #[.int .i64 1, .string n, .string pr, .int .i64 port] 32)).alloc (.cells #[.slice none 0 0, .slice none 0 0, .int .i64 0, .int .i64 0] 25)).heap.size; rw [HS0.out]; exact Nat.le_refl _)); have HG9 : Hid (w.heap.size + 2 ≤ g ∧ g < w9.heap.size ∧ w9.cell? ⟨g, 1, none⟩ = some (.int .i64 s)) := Lib.hid ⟨Nat.le_trans (by show w.heap.size + 2 ≤ ((w.alloc (.cells #[.int .i64 1, .string n, .string pr, .int .i64 port] 32)).alloc (.cells #[.slice none 0 0, .slice none 0 0, .int .i64 0, .int .i64 0] 25)).heap.size; rw [HS0.out]; exact Nat.le_refl _) hg9, hg9', he9⟩; have HD9 := Lib.hid hd9; have HP9 := Lib.hid hp9; have HK9 : Hid (Kp d w w9) := Lib.hid ((Kp.of (d := d) HB0.out.drew).trans hk9); have HSW := Lib.hid hsW; clear hv9 hg9 hg9' he9 hd9 hp9 hk9 hsW; have a0 := cellOf4 hA (j := 0) rfl; have a1 := cellOf4 hA (j := 1) rfl; have a2 := cellOf4 hA (j := 2) rfl; have a3 := cellOf4 hA (j := 3) rfl; have f0 := free4 hA 0; have f1 := free4 hA 1; have f2 := free4 hA 2; have f3 := free4 hA 3; have HA := Lib.hid hA; clear hA)))
  all_goals (try go_wp2)
  all_goals refine bodyPost_ret (results_row3 rfl _ _ _ _ _ _ _ rfl (set4_at HA.out _ _ _ _) Tryz.underlying25 rfl (by kernel_rfl)) rfl ?_
  all_goals
    have hsW := HSW.out
    have hG := HG9.out
    refine ⟨.slice pv T.length cv, g, fv9, rfl, lower (own_set4 HV9.out (by omega) _ _ _ _) (by omega), by omega, ?_, ?_, ?_, ?_, kp_set4 HK9.out (by omega) _ _ _ _⟩
    · show g < (set4 w9 (w.heap.size + 1) (.slice none 0 0) (.slice pv T.length cv) (.int .i64 0) (.int .i64 600)).heap.size
      rw [size_set4]; exact hG.2.1
    · exact cell_keep (w := w9) (heap_set4_ne (by omega) (.slice none 0 0) (.slice pv T.length cv) (.int .i64 0) (.int .i64 600)) hG.2.2
    · exact HD9.out.same (heap_set4_ne (by omega) (.slice none 0 0) (.slice pv T.length cv) (.int .i64 0) (.int .i64 600))
    · exact HP9.out
set_option maxHeartbeats 2000000 in
set_option maxRecDepth 100000 in
theorem host_miss (d b g0 c0 : Nat) (mp : Option Nat) (r s stw st : Int) (fv : Value) (F : ByteArray → Option Value) (l : List UInt8) (R : List (List UInt8 × List (List UInt8))) (n pr : ByteArray) (port : Int) (w : World) (hD : DS w d b r st fv) (hR : rowsOf (toldG 1 [] l) = R) (hg : GloAt w) (hW : WS w b stw mp F) (hF : F hostsP = some (fileB g0 l.length c0 s)) (hr : RowB 5 w g0 c0 l) (hc : c0 ≤ 9223372036854775807) (hl : l.length ≤ 100000) (hm : MaxAt w) (hd0 : d ≠ 0) (hn : n.size ≤ maxLen) (T : List (List UInt8)) (hTT : byNm R n.data.toList = T) (hT : 0 < T.length) (hne : st ≠ s) (hr0 : 0 ≤ r) (hr1 : r ≤ 1000000) :
    Calls Tryz.prog 5 #[.pointer (some ⟨d, 0, none⟩), .agg #[.int .i64 1, .string n, .string pr, .int .i64 port]] w (LookR d b w (r + 1) s T (fun v W => FindAt (w.heap.size + 2) W v R)) := by
  have HL : Hid (∀ W, Below w.heap.size w W → Calls Tryz.prog 13 #[.pointer (some ⟨d, 0, none⟩), .agg #[.int .i64 1, .string n, .string pr, .int .i64 port], .string hostsP, .pointer (some ⟨d, 2, none⟩), .func (.func 14) #[] #[]] W (LookR d b W (r + 1) s T (fun v V => FindAt (W.heap.size + 2) V v R))) := Lib.hid fun W h => look_miss d b g0 c0 mp r s stw st fv F l R n pr port W (hD.below h) hR (hg.below h) (WS.below hW h) hF (rowB_same hr (h.block g0 (rowB_lt hr))) hc hl (hm.below h) hd0 hn T hTT hT hne hr0 hr1
  have hdl := hD.lt
  have HA0 := Lib.hid (new2 w (.cells #[.int .i64 1, .string n, .string pr, .int .i64 port] 32) #[.slice none 0 0, .slice none 0 0, .int .i64 0, .int .i64 0] 25)
  have HB0 := Lib.hid (below2 w (.cells #[.int .i64 1, .string n, .string pr, .int .i64 port] 32) (.cells #[.slice none 0 0, .slice none 0 0, .int .i64 0, .int .i64 0] 25))
  have HS0 := Lib.hid (size2 w (.cells #[.int .i64 1, .string n, .string pr, .int .i64 port] 32) (.cells #[.slice none 0 0, .slice none 0 0, .int .i64 0, .int .i64 0] 25))
  have hQ := new1 w #[.int .i64 1, .string n, .string pr, .int .i64 port] 32 (.cells #[.slice none 0 0, .slice none 0 0, .int .i64 0, .int .i64 0] 25)
  have HQ0 := Lib.hid hQ
  have HSx : Hid (∀ W : World, W.heap[w.heap.size]? = some (.cells #[.int .i64 1, .string n, .string pr, .int .i64 port] 32 (0, 0)) → W.cell? ⟨w.heap.size, 0, none⟩ = some (.int .i64 1) ∧ W.cell? ⟨w.heap.size, 1, none⟩ = some (.string n) ∧ W.cell? ⟨w.heap.size, 2, none⟩ = some (.string pr) ∧ W.cell? ⟨w.heap.size, 3, none⟩ = some (.int .i64 port)) := Lib.hid fun W h => ⟨cellOf4 h rfl, cellOf4 h rfl, cellOf4 h rfl, cellOf4 h rfl⟩
  have q0 := cellOf4 hQ (j := 0) rfl
  clear hQ hW hF hr hc hl hm hD hTT hR hg
  go_enter Tryz.func5, Tryz.ntmps5
  go_upto_region 6 with (fail)
  clear q0
  go_region_held3 (fun W => W.cell? ⟨w.heap.size, 0, none⟩ = some (.int .i64 1) ∧ W.cell? ⟨w.heap.size, 1, none⟩ = some (.string n) ∧ W.cell? ⟨w.heap.size, 2, none⟩ = some (.string pr) ∧ W.cell? ⟨w.heap.size, 3, none⟩ = some (.int .i64 port)) (first | exact HSx.out _ HQ0.out | exact HSx.out _ HQ9.out | exact HSx.out _ ((heap_set4_ne (by omega) _ _ _ _).trans HQ9.out)) (((go_at_call 13; refine (HL.out _ HB0.out.drew).mono ?_; rintro e w9 ⟨v, g, fv9, rfl, hv9, hg9, hg9', he9, hd9, hp9, hk9⟩; obtain ⟨pv, cv, rfl⟩ := hv9.shape; have hsW : w.heap.size + 2 ≤ w9.heap.size := (by have h1 := hk9.size; have h2 : w.heap.size + 2 ≤ ((w.alloc (.cells #[.int .i64 1, .string n, .string pr, .int .i64 port] 32)).alloc (.cells #[.slice none 0 0, .slice none 0 0, .int .i64 0, .int .i64 0] 25)).heap.size := (by rw [HS0.out]; exact Nat.le_refl _); exact Nat.le_trans h2 h1); have HQ9 := Lib.hid ((hk9.block w.heap.size (by show w.heap.size < ((w.alloc (.cells #[.int .i64 1, .string n, .string pr, .int .i64 port] 32)).alloc (.cells #[.slice none 0 0, .slice none 0 0, .int .i64 0, .int .i64 0] 25)).heap.size; rw [HS0.out]; omega) (by omega)).trans HQ0.out); have hA := (hk9.block (w.heap.size + 1) (by show w.heap.size + 1 < ((w.alloc (.cells #[.int .i64 1, .string n, .string pr, .int .i64 port] 32)).alloc (.cells #[.slice none 0 0, .slice none 0 0, .int .i64 0, .int .i64 0] 25)).heap.size; rw [HS0.out]; omega) (by omega)).trans HA0.out; have HV9 : Hid (StrC (w.heap.size + 2) w9 (.slice pv T.length cv) T) := Lib.hid (lower hv9 (by show w.heap.size + 2 ≤ ((w.alloc (.cells #[.int .i64 1, .string n, .string pr, .int .i64 port] 32)).alloc (.cells #[.slice none 0 0, .slice none 0 0, .int .i64 0, .int .i64 0] 25)).heap.size; rw [HS0.out]; exact Nat.le_refl _)); have HG9 : Hid (w.heap.size + 2 ≤ g ∧ g < w9.heap.size ∧ w9.cell? ⟨g, 1, none⟩ = some (.int .i64 s)) := Lib.hid ⟨Nat.le_trans (by show w.heap.size + 2 ≤ ((w.alloc (.cells #[.int .i64 1, .string n, .string pr, .int .i64 port] 32)).alloc (.cells #[.slice none 0 0, .slice none 0 0, .int .i64 0, .int .i64 0] 25)).heap.size; rw [HS0.out]; exact Nat.le_refl _) hg9, hg9', he9⟩; have HD9 := Lib.hid hd9; have HP9 := Lib.hid hp9; have HK9 : Hid (Kp d w w9) := Lib.hid ((Kp.of (d := d) HB0.out.drew).trans hk9); have HSW := Lib.hid hsW; clear hv9 hg9 hg9' he9 hd9 hp9 hk9 hsW; have a0 := cellOf4 hA (j := 0) rfl; have a1 := cellOf4 hA (j := 1) rfl; have a2 := cellOf4 hA (j := 2) rfl; have a3 := cellOf4 hA (j := 3) rfl; have f0 := free4 hA 0; have f1 := free4 hA 1; have f2 := free4 hA 2; have f3 := free4 hA 3; have HA := Lib.hid hA; clear hA)))
  all_goals (try go_wp2)
  all_goals refine bodyPost_ret (results_row3 rfl _ _ _ _ _ _ _ rfl (set4_at HA.out _ _ _ _) Tryz.underlying25 rfl (by kernel_rfl)) rfl ?_
  all_goals
    have hsW := HSW.out
    have hG := HG9.out
    refine ⟨.slice pv T.length cv, g, fv9, rfl, lower (own_set4 HV9.out (by omega) _ _ _ _) (by omega), by omega, ?_, ?_, ?_, ?_, kp_set4 HK9.out (by omega) _ _ _ _⟩
    · show g < (set4 w9 (w.heap.size + 1) (.slice none 0 0) (.slice pv T.length cv) (.int .i64 0) (.int .i64 600)).heap.size
      rw [size_set4]; exact hG.2.1
    · exact cell_keep (w := w9) (heap_set4_ne (by omega) (.slice none 0 0) (.slice pv T.length cv) (.int .i64 0) (.int .i64 600)) hG.2.2
    · exact HD9.out.same (heap_set4_ne (by omega) (.slice none 0 0) (.slice pv T.length cv) (.int .i64 0) (.int .i64 600))
    · exact FindAt.keep (w := w9) (D := w.heap.size + 2 + 2) (by have h := HP9.out; have e : (((w.alloc (.cells #[.int .i64 1, .string n, .string pr, .int .i64 port] 32)).alloc (.cells #[.slice none 0 0, .slice none 0 0, .int .i64 0, .int .i64 0] 25)).drew).heap.size = w.heap.size + 2 := HS0.out; simp only [e] at h; exact h) (by omega) ⟨by show w9.heap.size ≤ (set4 w9 (w.heap.size + 1) (.slice none 0 0) (.slice pv T.length cv) (.int .i64 0) (.int .i64 600)).heap.size; rw [size_set4]; exact Nat.le_refl _, fun j h1 h2 => heap_set4_ne (by omega) (.slice none 0 0) (.slice pv T.length cv) (.int .i64 0) (.int .i64 600)⟩
end Go.Proofs.YtabkdaaenikliaaGreatDoor

namespace Go.Proofs.YtabkdaaenikliaaGreatDoor
open Go.RowKit Go.Lib Go.Tx Go.Mp Go.Rb Go.Ev Go.Fd
theorem as_code (v : Value) (xT : TypeId) (w : World) : (Instr.typeAssert (.iface 34 v) xT 34 true).run Tryz.prog w = .ok (.tuple #[v, .bool true]) w := by kernel_rfl
theorem as_wrap (v : Value) (xT : TypeId) (w : World) : (Instr.typeAssert (.iface 34 v) xT 86 true).run Tryz.prog w = .ok (.tuple #[.nilIface, .bool false]) w := run_typeAssert_lacksB Tryz.underlying86 (by kernel_rfl) (by kernel_rfl) v xT w
set_option maxRecDepth 100000 in
theorem is2_no (k : Int) (hk : ¬ (2 : Int) = k) (w : World) : Calls Tryz.prog 18 #[unavailV, .int .i64 k] w fun e w' => e = .returned (.bool false) ∧ w' = w := by
  have h1 := as_code (.int .i64 2)
  have h2 := as_wrap (.int .i64 2)
  have h3 : ((2 : Int) == k) = false := by simp; exact hk
  go_enter Tryz.func18, Tryz.ntmps18
  go_wp2
  refine wp_loop_rounds 1 ?_
  rw [rounds_succ]
  go_wp2
  all_goals go_ret
  all_goals exact ⟨rfl, rfl⟩
def codesL : List Int := [1, 3, 4, 7, 5, 6, 8, 9, 10, 11]
set_option maxRecDepth 100000 in
theorem code2_any (w : World) : Calls Tryz.prog 7 #[unavailV] w fun e w' => e = .returned (.int .i64 2) ∧ Below w.heap.size w w' := by
  have hcell : ∀ j : Nat, j < 10 → (w.alloc (.cells #[.int .i64 1, .int .i64 3, .int .i64 4, .int .i64 7, .int .i64 5, .int .i64 6, .int .i64 8, .int .i64 9, .int .i64 10, .int .i64 11] 34)).cell? ⟨w.heap.size, j, none⟩ = some (.int .i64 (codesL.getD j 0)) := fun j hj => by
    rw [World.cell?_alloc_new]
    match j, hj with
    | 0, _ => rfl
    | 1, _ => rfl
    | 2, _ => rfl
    | 3, _ => rfl
    | 4, _ => rfl
    | 5, _ => rfl
    | 6, _ => rfl
    | 7, _ => rfl
    | 8, _ => rfl
    | 9, _ => rfl
  have hne : ∀ j : Nat, j < 10 → ¬ (2 : Int) = codesL.getD j 0 := by decide
  have HC := Lib.hid hcell
  clear hcell
  go_enter Tryz.func7, Tryz.ntmps7
  go_wp2
  go_loopw [4] (fun iv wr => ∃ i : Nat, i ≤ 10 ∧ iv = .int .i64 i ∧ wr = w.alloc (.cells #[.int .i64 1, .int .i64 3, .int .i64 4, .int .i64 7, .int .i64 5, .int .i64 6, .int .i64 8, .int .i64 9, .int .i64 10, .int .i64 11] 34)) (fun iv _ => 10 - (intOf iv).toNat)
  case atStart => exact ⟨0, by omega, rfl, rfl⟩
  case round =>
    obtain ⟨i, hi, rfl, rfl⟩ := hrel
    by_cases hlt : i < 10
    · have hc := HC.out i hlt
      have hn := hne i hlt
      have HI := Lib.hid (is2_no _ hn)
      clear hn
      generalize codesL.getD i 0 = k at *
      go_wp2_with (go_at_call 18; refine (HI.out _).mono ?_; rintro e w2 ⟨rfl, hw⟩; obtain rfl := hw)
      go_roundw
      case rel => exact ⟨i + 1, by omega, by go_num, trivial⟩
      case measure => simp [intOf]; omega
    · obtain rfl : i = 10 := by omega
      go_wp2
      go_ret
      exact ⟨rfl, (Below.refl _ _).alloc (Nat.le_refl _) _⟩
set_option maxHeartbeats 1000000 in
set_option maxRecDepth 100000 in
theorem lookNil_any (w : World) (n : ByteArray) : Calls Tryz.prog 5 #[.pointer none, .agg #[.int .i64 1, .string n, .string ⟨#[]⟩, .int .i64 0]] w fun e w' => e = .returned (.tuple #[zAns, .slice none 0 0, unavailV]) ∧ Below w.heap.size w w' := by
  have hA := new2 w (.cells #[.int .i64 1, .string n, .string ⟨#[]⟩, .int .i64 0] 32) #[.slice none 0 0, .slice none 0 0, .int .i64 0, .int .i64 0] 25
  have HB0 := Lib.hid (below2 w (.cells #[.int .i64 1, .string n, .string ⟨#[]⟩, .int .i64 0] 32) (.cells #[.slice none 0 0, .slice none 0 0, .int .i64 0, .int .i64 0] 25))
  have HA := Lib.hid hA
  have a0 := cellOf4 hA (j := 0) rfl
  have a1 := cellOf4 hA (j := 1) rfl
  have a2 := cellOf4 hA (j := 2) rfl
  have a3 := cellOf4 hA (j := 3) rfl
  have f0 := free4 hA 0
  have f1 := free4 hA 1
  have f2 := free4 hA 2
  have f3 := free4 hA 3
  clear hA
  go_enter Tryz.func5, Tryz.ntmps5
  go_wp2
  refine bodyPost_ret (results_row3 rfl _ _ _ _ _ _ _ rfl HA.out Tryz.underlying25 rfl (by kernel_rfl)) rfl ?_
  exact ⟨rfl, HB0.out⟩
end Go.Proofs.YtabkdaaenikliaaGreatDoor

namespace Go.Proofs.YtabkdaaenikliaaGreatDoor
open Go.RowKit Go.Lib Go.Tx Go.Mp Go.Rb Go.Ev Go.Fd
theorem mark_any {w : World} {b : Nat} {arr : Array Value} (h : w.heap[b]? = some (.cells arr 5 (0, 0))) (n c : Nat) :
    ∃ w' fr', (convert 41 41 (.slice (some ⟨b, 0, none⟩) n c)).run Tryz.prog w = .ok (.slice (some ⟨b, 0, none⟩) n c) w' ∧ w'.heap[b]? = some (.cells arr 5 fr') ∧ (∀ k, k ≠ b → w'.heap[k]? = w.heap[k]?) ∧ w'.heap.size = w.heap.size ∧ w'.os = w.os ∧ w'.tape = w.tape ∧ w'.output = w.output := by
  obtain ⟨w', fr', e1, e2, e3, e4, e5, e6, e7, e8⟩ := Go.Ev.freeze_at h ⟨fun i hi h => by simp only at h; omega, by simp⟩
  have hsh : w.shape? b = some (5, arr.size) := by unfold World.shape?; rw [h]
  refine ⟨w', fr', ?_, e3, e4, e5, e6, e7, e8⟩
  simp [convert, Go.Ev.run_und Tryz.underlying41, Go.Ev.run_und Tryz.underlying5, markStringish, hsh, e1]
theorem ba_lit {w : World} {b : Nat} {arr : Array Value} {fr : Nat × Nat} {l : List UInt8} (h : w.heap[b]? = some (.cells arr 5 fr)) (ha : arr = (l.map fun c => Value.int .u8 (c.toNat : Int)).toArray) (hl : l.length ≤ 9223372036854775807) : BA w (some ⟨b, 0, none⟩) l.length l.length l :=
  ⟨rfl, Nat.le_refl _, hl, (fun h => by cases h), fun x hx j c hj => by
    cases hx
    have e : (⟨b, 0, none⟩ : Addr).add j = ⟨b, j, none⟩ := by unfold Addr.add; split <;> simp_all
    rw [e]
    subst ha
    simp [World.cell?, h, hj]⟩
/-- Bytes written as a literal, marked: what a caller reads. -/
theorem lit_any (w : World) (arr : Array Value) (l : List UInt8) (ha : arr = (l.map fun c => Value.int .u8 (c.toNat : Int)).toArray) (hl : l.length ≤ 9223372036854775807) :
    ∃ w', (convert 41 41 (.slice (some ⟨w.heap.size, 0, none⟩) l.length l.length)).run Tryz.prog (w.alloc (.cells arr 5)) = .ok (.slice (some ⟨w.heap.size, 0, none⟩) l.length l.length) w' ∧ BA w' (some ⟨w.heap.size, 0, none⟩) l.length l.length l ∧ w.heap.size < w'.heap.size ∧ Below w.heap.size w w' := by
  obtain ⟨w', fr', h1, h2, h3, h4, h5, h6, h7⟩ := mark_any (heap_alloc_new w (.cells arr 5)) l.length l.length
  have hs : (w.alloc (.cells arr 5)).heap.size = w.heap.size + 1 := by show (w.heap.push _).size = _; simp
  refine ⟨w', h1, ba_lit h2 ha hl, by omega, h5, h6, h7, by omega, fun k hk => ?_⟩
  rw [h3 k (by omega)]
  exact heap_push_lt _ _ _ hk
theorem ws_new (w : World) : WS (w.alloc zWorld) w.heap.size 0 none (fun _ => none) :=
  ⟨⟨.int .i64 0, .slice none 0 0, .slice none 0 0, .map none, .int .i64 0, .slice none 0 0, heap_alloc_new w _⟩, fun _ => rfl⟩
theorem Turned.below {w w' : World} {b B : Nat} {mp : Option Nat} (h : Turned w w' b mp) (hB : B ≤ w.heap.size) (hb : B ≤ b) (hm : ∀ m, mp = some m → B ≤ m) : Below B w w' :=
  ⟨h.os, h.tape, h.output, h.size, fun j hj => h.same j (by omega) (by omega) (fun e => by have := hm j e.symm; omega)⟩
def bytes0 : List UInt8 := [49, 46, 50, 46, 51, 46, 52, 32, 104, 10]
theorem plain0 : (byNm (rowsOf (toldG 1 [] bytes0)) [104]).length = 1 := by decide +kernel
theorem hosts_services (v : Value) : upd (fun _ => none) hostsP v servicesP = none := by
  unfold upd; rw [if_neg (by decide)]
set_option maxHeartbeats 4000000 in
set_option maxRecDepth 100000 in
theorem begun8_any (w : World) (hg : GloAt w) (hm : MaxAt w) :
    Calls Tryz.prog 6 #[] w fun e w' => e = .returned (.bool true) ∧ Below w.heap.size w w' := by
  have hw0 := hm.lt
  have hs1 : (w.alloc zWorld).heap.size = w.heap.size + 1 := by show (w.heap.push _).size = _; simp
  obtain ⟨w2, hc, hba, hlt, hb2⟩ := lit_any (w.alloc zWorld) _ bytes0 rfl (by decide)
  rw [hs1] at hc hba hlt hb2
  have hb1 : Below w.heap.size w (w.alloc zWorld) := (Below.refl _ w).alloc (Nat.le_refl _) _
  have hbw2 : Below w.heap.size w w2 := hb1.trans (hb2.mono (by omega))
  have HP : Hid (Calls Tryz.prog 11 #[.pointer (some ⟨w.heap.size, 0, none⟩), .string hostsP, .slice (some ⟨w.heap.size + 1, 0, none⟩) 10 10] w2 (PutR w2 w.heap.size 0 none (fun _ => none) hostsP bytes0)) := Lib.hid (putb_any _ none 0 _ hostsP ⟨w.heap.size + 1, 0, none⟩ 10 10 bytes0 w2 (WS.below (ws_new w) (hs1.symm ▸ hb2)) (by omega) (by omega) hba hlt (by decide))
  have hc2 : (convert 41 41 (.slice (some ⟨w.heap.size + 1, 0, none⟩) 10 10)).run Tryz.prog ((w.alloc zWorld).alloc (.cells #[.int .u8 49, .int .u8 46, .int .u8 50, .int .u8 46, .int .u8 51, .int .u8 46, .int .u8 52, .int .u8 32, .int .u8 104, .int .u8 10] 5)) = .ok (.slice (some ⟨w.heap.size + 1, 0, none⟩) 10 10) w2 := hc
  have HG := Lib.hid hg
  have HM := Lib.hid hm
  have HB2 := Lib.hid hbw2
  have HS1 := Lib.hid hs1
  obtain ⟨wz, hwz⟩ : ∃ z, w.alloc zWorld = z := ⟨_, rfl⟩
  have HNW : Hid (Calls Tryz.prog 9 #[] w fun e w' => e = .returned (.pointer (some ⟨w.heap.size, 0, none⟩)) ∧ w' = wz) := Lib.hid (hwz ▸ new_any w)
  rw [hwz] at hc2 hs1
  have h1 := plain0
  generalize hR : rowsOf (toldG 1 [] bytes0) = R at *
  have HR := Lib.hid hR
  clear hg hm hc hba hlt hb1 hb2 hbw2 hR HS1 hwz
  go_enter Tryz.func6, Tryz.ntmps6
  go_upto_region 3 with (first | (go_at_call 9; refine HNW.out.mono ?_; rintro e wy ⟨rfl, hwy⟩; obtain rfl := hwy) | (go_at_call 11; refine HP.out.mono ?_; rintro e w3 ⟨rfl, g3, c3, m3, hg3, hm3, hgm3, hr3, hc3, hws3, ht3⟩))
  have hm3' : w2.heap.size ≤ m3 := by
    rcases hm3 with h | ⟨_, h⟩
    · cases h
    · exact h
  have hbw3 : Below w.heap.size w w3 := HB2.out.trans (Turned.below ht3 HB2.out.size (Nat.le_refl _) (fun m e => by cases e))
  have hw2 := HB2.out.size
  have hw3 := ht3.size
  have hbd : Below w3.heap.size w3 (w3.alloc (zDB w.heap.size)) := (Below.refl _ w3).alloc (Nat.le_refl _) _
  have hbw4 : Below w.heap.size w (w3.alloc (zDB w.heap.size)) := hbw3.trans (hbd.mono hbw3.size)
  have hws4 : WS (w3.alloc (zDB w.heap.size)) w.heap.size 1 (some m3) (upd (fun _ => none) hostsP (fileB g3 bytes0.length c3 1)) := WS.below hws3 hbd
  have hm3l : m3 < w3.heap.size := FM_lt hws3.2
  have hd4 : DS (w3.alloc (zDB w.heap.size)) w3.heap.size w.heap.size 0 0 .nilFunc := heap_alloc_new w3 _
  have HL : Hid (Calls Tryz.prog 5 #[.pointer (some ⟨w3.heap.size, 0, none⟩), .agg #[.int .i64 1, .string ⟨#[104]⟩, .string ⟨#[]⟩, .int .i64 0]] (w3.alloc (zDB w.heap.size)) (LookR w3.heap.size w.heap.size (w3.alloc (zDB w.heap.size)) 1 1 (byNm R [104]) (fun v W => FindAt ((w3.alloc (zDB w.heap.size)).heap.size + 2) W v R))) := Lib.hid (host_miss w3.heap.size w.heap.size g3 c3 (some m3) 0 1 1 0 .nilFunc _ bytes0 R ⟨#[104]⟩ ⟨#[]⟩ 0 (w3.alloc (zDB w.heap.size)) hd4 HR.out (HG.out.below hbw4) hws4 (by unfold upd; rw [if_pos rfl]) (rowB_same hr3 (hbd.block g3 (rowB_lt hr3))) hc3 (by decide) (HM.out.below hbw4) (by omega) (by decide) _ rfl (by omega) (by decide) (by decide) (by decide))
  have HN3 : Hid (Calls Tryz.prog 10 #[.pointer (some ⟨w.heap.size, 0, none⟩)] w3 fun e w' => e = .returned (.pointer (some ⟨w3.heap.size, 0, none⟩)) ∧ w' = w3.alloc (zDB w.heap.size)) := Lib.hid (fnew_any w.heap.size w3)
  have HW4 := Lib.hid hws4
  have HBW4 := Lib.hid hbw4
  have hds : w3.heap.size < (w3.alloc (zDB w.heap.size)).heap.size := hd4.lt
  obtain ⟨d, hdd⟩ : ∃ d, w3.heap.size = d := ⟨_, rfl⟩
  rw [hdd] at HL HN3 hds hm3l hw3
  obtain ⟨T, hT⟩ : ∃ T, byNm R [104] = T := ⟨_, rfl⟩
  rw [hT] at HL h1
  generalize w3.alloc (zDB w.heap.size) = w4 at *
  clear hm3 hg3 hgm3 hr3 hc3 hws3 ht3 hbw3 hbd hbw4 hws4 hd4 hdd hT HP hc2
  go_upto_region 7 with (first | (go_at_call 10; refine HN3.out.mono ?_; rintro e wy ⟨rfl, hwy⟩; obtain rfl := hwy) | (go_at_call 5; refine HL.out.mono ?_; rintro e w5 ⟨v5, g5, f5, rfl, hv5, hg5, hl5, he5, hd5, hp5, hk5⟩; obtain ⟨pv, cv, rfl⟩ := hv5.shape))
  rw [h1] at hv5
  have hb56 : Below w5.heap.size w5 (w5.alloc (.cells #[.slice none 0 0, .slice pv 1 cv, .int .i64 0, .int .i64 600] 25)) := (Below.refl _ w5).alloc (Nat.le_refl _) _
  have hb6 : Below w.heap.size w (w5.alloc (.cells #[.slice none 0 0, .slice pv 1 cv, .int .i64 0, .int .i64 600] 25)) := (HBW4.out.trans (hk5.below (by omega) HBW4.out.size)).alloc (Nat.le_trans HBW4.out.size hk5.size) _
  have hd6 := hd5.below hb56
  have hF : upd (fun _ => none) hostsP (fileB g3 bytes0.length c3 1) servicesP = none := hosts_services _
  have HL2 : Hid (Calls Tryz.prog 5 #[.pointer (some ⟨d, 0, none⟩), .agg #[.int .i64 4, .string ⟨#[]⟩, .string ⟨#[]⟩, .int .i64 1]] (w5.alloc (.cells #[.slice none 0 0, .slice pv 1 cv, .int .i64 0, .int .i64 600] 25)) (GoneR (w5.alloc (.cells #[.slice none 0 0, .slice pv 1 cv, .int .i64 0, .int .i64 600] 25)))) := Lib.hid (gone_any d w.heap.size (some m3) 1 1 1 f5 _ 1 ⟨#[]⟩ ⟨#[]⟩ _ hd6 (WS.below (WS.kp HW4.out hk5 (by omega) (fun e => by cases e; omega)) hb56) hF)
  have HB6 := Lib.hid hb6
  have HD6 := Lib.hid hd6
  have hl6 : w5.heap.size < (w5.alloc (.cells #[.slice none 0 0, .slice pv 1 cv, .int .i64 0, .int .i64 600] 25)).heap.size := by show w5.heap.size < (w5.heap.push _).size; simp
  have HC6 : Hid ((w5.alloc (.cells #[.slice none 0 0, .slice pv 1 cv, .int .i64 0, .int .i64 600] 25)).cell? ⟨w5.heap.size, 1, none⟩ = some (.slice pv 1 cv)) := Lib.hid (cellOf4 (heap_alloc_new w5 _) rfl)
  have HE6 : Hid ((w5.alloc (.cells #[.slice none 0 0, .slice pv 1 cv, .int .i64 0, .int .i64 600] 25)).cell? ⟨g5, 1, none⟩ = some (.int .i64 1)) := Lib.hid (cell_keep (hb56.block g5 hl5) he5)
  have hlg : g5 < (w5.alloc (.cells #[.slice none 0 0, .slice pv 1 cv, .int .i64 0, .int .i64 600] 25)).heap.size := by omega
  clear hb56 hb6 hd6 hF hv5 hg5 hl5 he5 hd5 hp5 hk5 HN3 HL HNW hs1
  generalize w5.alloc (.cells #[.slice none 0 0, .slice pv 1 cv, .int .i64 0, .int .i64 600] 25) = w6 at *
  go_upto_region 8 with (go_at_call 5; refine HL2.out.mono ?_; rintro e w7 ⟨g7, rfl, hb7⟩)
  have hb78 : Below w6.heap.size w6 (w7.alloc (.cells #[.slice none 0 0, .slice none 0 0, .int .i64 0, .int .i64 0] 25)) := hb7.alloc hb7.size _
  have x1 := cell_keep (hb78.block w5.heap.size hl6) HC6.out
  have x2 := cell_keep (hb78.block g5 hlg) HE6.out
  have HB8 := Lib.hid (HB6.out.trans (hb78.mono HB6.out.size))
  have HD8 := Lib.hid (HD6.out.below hb78)
  clear hb78 hb7
  generalize w7.alloc (.cells #[.slice none 0 0, .slice none 0 0, .int .i64 0, .int .i64 0] 25) = w8 at *
  have HCo := Lib.hid (code2_any w8)
  go_wp2_with (first | (go_at_call 7; refine HCo.out.mono ?_; rintro e w9 ⟨rfl, hb9⟩; have HD9 := Lib.hid (HD8.out.below hb9); have HB9 := Lib.hid (HB8.out.trans (hb9.mono HB8.out.size)); clear hb9) | (go_at_call 8; refine (reads_any _ _ _ _ _ _ HD9.out).mono ?_; rintro e wy ⟨rfl, hwy⟩; obtain rfl := hwy) | (go_at_call 16; refine (name_any _ _).mono ?_; rintro e wy ⟨rfl, hwy⟩; obtain rfl := hwy) | (go_at_call 17; refine (able4_any _ _).mono ?_; rintro e wy ⟨rfl, hwy⟩; obtain rfl := hwy))
  go_ret
  exact ⟨rfl, HB9.out⟩
set_option maxHeartbeats 4000000 in
set_option maxRecDepth 100000 in
theorem filesNone_walk (w : World) (hg : GloAt w) (hm : MaxAt w) :
    Calls Tryz.prog 3 #[] w fun e w' => e = .returned (.bool true) ∧ Below w.heap.size w w' := by
  have HG := Lib.hid hg
  have HM := Lib.hid hm
  clear hg hm
  go_enter Tryz.func3, Tryz.ntmps3
  go_upto_region 3 with (go_at_call 5; refine (lookNil_any _ _).mono ?_; rintro e w1 ⟨rfl, hb1⟩)
  have hb2 : Below w.heap.size w (w1.alloc (.cells #[.slice none 0 0, .slice none 0 0, .int .i64 0, .int .i64 0] 25)) := hb1.alloc hb1.size _
  have hA := heap_alloc_new w1 (.cells #[.slice none 0 0, .slice none 0 0, .int .i64 0, .int .i64 0] 25)
  have hl : w1.heap.size < (w1.alloc (.cells #[.slice none 0 0, .slice none 0 0, .int .i64 0, .int .i64 0] 25)).heap.size := by show w1.heap.size < (w1.heap.push _).size; simp
  have HBg := Lib.hid (begun8_any _ (HG.out.below hb2) (HM.out.below hb2))
  have HB2 := Lib.hid hb2
  have HA := Lib.hid hA
  clear hb1 hb2 hA
  generalize w1.alloc (.cells #[.slice none 0 0, .slice none 0 0, .int .i64 0, .int .i64 0] 25) = w2 at *
  go_wp2_with (first | (go_at_call 6; refine HBg.out.mono ?_; rintro e w3 ⟨rfl, hb3⟩; have HB3 := Lib.hid hb3; clear hb3) | (go_at_call 7; refine (code2_any _).mono ?_; rintro e w4 ⟨rfl, hb4⟩; have hb24 := HB3.out.trans (hb4.mono HB3.out.size); have a1 := cellOf4 ((hb24.block w1.heap.size hl).trans HA.out) (j := 1) rfl; have HB4 := Lib.hid (HB2.out.trans (hb24.mono HB2.out.size)); clear hb24 hb4) | (go_at_call 8; refine (reads_nil _).mono ?_; rintro e wy ⟨rfl, hwy⟩; obtain rfl := hwy))
  go_ret
  exact ⟨rfl, HB4.out⟩
end Go.Proofs.YtabkdaaenikliaaGreatDoor

namespace Go.Proofs.YtabkdaaenikliaaGreatDoor
open Go.RowKit Go.Lib Go.Tx Go.Ev Go.Fr Go.ChangeShapes
theorem maxAt (W : World) (hsh : W.ShapedOpen Tryz.prog) : ∃ m, W.cell? ⟨0, 0, none⟩ = some (.int .i64 m) :=
  cell_of_shapedOpen_int (P := Tryz.prog) (g := 0) (t := 3) (zero := #[.int .i64 0]) hsh (of_decide_eq_true (by kernel_rfl)) (by kernel_rfl) rfl (by kernel_rfl) (by kernel_rfl) Tryz.underlying3
theorem err_of {W : World} {g tp b o : Nat} {G : Nat → Option (List AV)} (hG : GloOK (Bas.of W) G) (h : G g = some [.iface tp (.glob b o)]) : ErrAt g W := by
  obtain ⟨_, arr, elem, fr, h1, vs, hv, hc⟩ := hG g _ h
  obtain ⟨v, hv1, hv2⟩ := hv.get 0 _ rfl
  have h3 := hc 0 v hv1
  refine ⟨v, ?_, ?_⟩
  · unfold World.cell?
    have h1' : W.heap[g]? = some (.cells arr elem fr) := h1
    rw [h1']
    simpa using h3
  · simp only [VR] at hv2
    obtain ⟨v', e, _⟩ := hv2
    exact .inr ⟨_, _, e⟩
theorem glo_only (W : World) (hL : laidMetH Tryz.prog laidL W) (hsh : W.ShapedOpen Tryz.prog) : GloAt W ∧ MaxAt W := by
  obtain ⟨b1, o1, b2, o2, hE⟩ := eok W hL hsh
  exact ⟨⟨maxAt W hsh, err_of hE.glo (b := b2) (o := o2) rfl, err_of hE.glo (b := b1) (o := o1) rfl⟩, maxAt W hsh⟩
end Go.Proofs.YtabkdaaenikliaaGreatDoor

namespace Go.Fd
open Go.RowKit Go.Tx Go.Mp Go.Rb
def textR (i : Nat) : List UInt8 := [49, 48, 46, 48, 46, 48, 46] ++ decG i [] ++ [32, 104, 10]
theorem plainR : ∀ i : Fin 20, byNm (rowsOf (toldG 1 [] (textR i.1))) [104] = [[10, 0, 0, UInt8.ofNat i.1]] ∧ (textR i.1).length ≤ 12 := by decide +kernel
theorem ba_heap {w w' : World} {a : Option Addr} {n c : Nat} {l : List UInt8} (h : BA w a n c l) (e : w'.heap = w.heap) : BA w' a n c l :=
  ⟨h.len, h.cap, h.max, h.none, fun x hx j b hj => by rw [World.cell?_of_block (w := w) (by rw [e])]; exact h.cell x hx j b hj⟩
end Go.Fd
namespace Go.Proofs.YtabkdaaenikliaaGreatDoor
open Go.ChangeShapes Go.WideShapes Go.ChangeAt Go.RowKit Go.Ev Go.Fr
open Go.Lib Go.Tx Go.Mp Go.Rb Go.Fd
/-- The conversion of the law's byte, by a name of its own. -/
def convOp : Op := .convert 41 9 (.tmp 73)
theorem convOp_eq : Op.convert 41 9 (.tmp 73) = convOp := rfl
structure OUT (W w : World) (b d : Nat) (i : Nat) (mp : Option Nat) (F : ByteArray → Option Value) (fv : Value) : Prop where
  ws : WS w b (i : Int) mp F
  md : mp ≠ some d
  m0 : ∀ m, mp = some m → W.heap.size ≤ m
  ds : DS w d b (i : Int) (i : Int) fv
  bel : Below W.heap.size W w
structure IN (W w : World) (b d g c m i k : Nat) (F : ByteArray → Option Value) (l : List UInt8) (R : List (List UInt8 × List (List UInt8))) : Prop where
  ws : WS w b ((i : Int) + 1) (some m) (upd F hostsP (fileB g l.length c ((i : Int) + 1)))
  row : RowB 5 w g c l
  first : k = 0 → ∃ fv, DS w d b (i : Int) (i : Int) fv
  later : 0 < k → ∃ fv, DS w d b ((i : Int) + 1) ((i : Int) + 1) fv ∧ FindAt (d + 1) w fv R
  bel : Below W.heap.size W w
theorem IN.below {W w w' : World} {b d g c m i k : Nat} {F : ByteArray → Option Value} {l : List UInt8} {R : List (List UInt8 × List (List UInt8))} (h : IN W w b d g c m i k F l R) (hb : Below w.heap.size w w') : IN W w' b d g c m i k F l R :=
  ⟨WS.below h.ws hb, rowB_same h.row (hb.block g (rowB_lt h.row)), fun hk => by obtain ⟨fv, h1⟩ := h.first hk; exact ⟨fv, h1.below hb⟩, fun hk => by
    obtain ⟨fv, h1, h2⟩ := h.later hk
    exact ⟨fv, h1.below hb, h2.keep (Nat.le_refl _) ⟨hb.size, fun j _ hj => hb.block j hj⟩⟩, h.bel.trans (hb.mono h.bel.size)⟩
def AskR (d b i : Nat) (R : List (List UInt8 × List (List UInt8))) (T : List (List UInt8)) (w : World) (e : Ending) (w' : World) : Prop :=
  ∃ v g fv, e = .returned (.tuple #[.agg #[.slice none 0 0, v, .int .i64 0, .int .i64 600], .slice (some ⟨g, 0, none⟩) 1 1, .nilIface]) ∧ StrC w.heap.size w' v T ∧ g < w'.heap.size ∧ w'.cell? ⟨g, 1, none⟩ = some (.int .i64 ((i : Int) + 1)) ∧ DS w' d b ((i : Int) + 1) ((i : Int) + 1) fv ∧ FindAt (d + 1) w' fv R ∧ Kp d w w'
theorem ask_any {W w : World} {b d g c m i k : Nat} {F : ByteArray → Option Value} {l : List UInt8} {R : List (List UInt8 × List (List UInt8))} {T : List (List UInt8)} (h : IN W w b d g c m i k F l R) (hR : rowsOf (toldG 1 [] l) = R) (hTT : byNm R [104] = T) (hT : 0 < T.length)
    (hc : c ≤ 9223372036854775807) (hl : l.length ≤ 100000) (hi : i ≤ 1000) (hd : d ≠ 0) (hg : GloAt W) (hm : MaxAt W) (hbd : b ≠ d) (hmd : m ≠ d) :
    Calls Tryz.prog 5 #[.pointer (some ⟨d, 0, none⟩), .agg #[.int .i64 1, .string ⟨#[104]⟩, .string ⟨#[]⟩, .int .i64 0]] w (AskR d b i R T w) := by
  have hF : upd F hostsP (fileB g l.length c ((i : Int) + 1)) hostsP = some (fileB g l.length c ((i : Int) + 1)) := by unfold upd; rw [if_pos rfl]
  by_cases hk : k = 0
  · obtain ⟨fv, hds⟩ := h.first hk
    have hlt := hds.lt
    refine (host_miss d b g c (some m) (i : Int) ((i : Int) + 1) ((i : Int) + 1) (i : Int) fv _ l R ⟨#[104]⟩ ⟨#[]⟩ 0 w hds hR (hg.below h.bel) h.ws hF h.row hc hl (hm.below h.bel) hd (by decide) T hTT hT (by omega) (by omega) (by omega)).mono ?_
    rintro e w' ⟨v, g7, fv', e1, e2, e3, e4, e5, e6, e7, e8⟩
    exact ⟨v, g7, fv', e1, e2, e4, e5, e6, FindAt.keep e7 (by omega) ⟨Nat.le_refl _, fun _ _ _ => rfl⟩, e8⟩
  · obtain ⟨fv, hds, hfi⟩ := h.later (by omega)
    refine (host_hit d b g c (some m) ((i : Int) + 1) ((i : Int) + 1) ((i : Int) + 1) fv _ l R ⟨#[104]⟩ ⟨#[]⟩ 0 w hds hfi h.ws hF h.row hc hl (hm.below h.bel) hd (by decide) T hTT hT).mono ?_
    rintro e w' ⟨v, g7, fv', e1, e2, e3, e4, e5, e6, e7, e8⟩
    subst e7
    exact ⟨v, g7, fv', e1, e2, e4, e5, e6, FindAt.keep hfi (Nat.le_refl _) ⟨e8.size, fun j h1 h2 => e8.block j h2 (by omega)⟩, e8⟩
theorem IN.step {W w w' : World} {b d g c m i k : Nat} {F : ByteArray → Option Value} {l : List UInt8} {R : List (List UInt8 × List (List UInt8))} {fv : Value} (h : IN W w b d g c m i k F l R) (hd : DS w' d b ((i : Int) + 1) ((i : Int) + 1) fv) (hf : FindAt (d + 1) w' fv R) (hk : Kp d w w')
    (hbd : b ≠ d) (hmd : m ≠ d) (hgd : g ≠ d) (hdW : W.heap.size ≤ d) : IN W w' b d g c m i (k + 1) F l R :=
  ⟨WS.kp h.ws hk hbd (fun e => by cases e; exact hmd rfl), rowB_kp h.row hk hgd, fun h => by omega, fun _ => ⟨fv, hd, hf⟩, h.bel.trans (hk.below hdW h.bel.size)⟩
set_option maxHeartbeats 4000000 in
set_option maxRecDepth 100000 in
theorem filesReads_walk (a0 a1 : Int) (W : World) (w0 : (Lit.int .i64 a0).wf = true) (w1 : (Lit.int .i64 a1).wf = true) (hL : laidMetH Tryz.prog laidL W) (hsh : W.ShapedOpen Tryz.prog) :
    Calls Tryz.prog 4 #[.int .i64 a0, .int .i64 a1] W fun e w' => e = .returned (.bool true) ∧ Below W.heap.size W w' := by
  obtain ⟨hg, hm⟩ := glo_only W hL hsh
  have HB := Lib.hid (begun8_any W hg hm)
  have HM := Lib.hid hm
  have HG := Lib.hid hg
  have hW0 := hm.lt
  clear hg hm hL hsh w0 w1
  by_cases hin : 1 ≤ a0 ∧ a0 ≤ 20 ∧ 1 ≤ a1 ∧ a1 ≤ 20
  · obtain ⟨h1, h2, h3, h4⟩ := hin
    obtain ⟨A, rfl⟩ : ∃ n : Nat, a0 = n := ⟨a0.toNat, by omega⟩
    obtain ⟨P, rfl⟩ : ∃ n : Nat, a1 = n := ⟨a1.toNat, by omega⟩
    go_enter Tryz.func4, Tryz.ntmps4
    go_upto_region 8 with (first | (go_at_call 6; refine HB.out.mono ?_; rintro e w2 ⟨rfl, hb2⟩; have HB2 := Lib.hid hb2; clear hb2) | (go_at_call 9; refine (new_any w2).mono ?_; rintro e w3 ⟨rfl, hw3⟩; have HW3 := Lib.hid hw3; clear hw3) | (go_at_call 10; refine (fnew_any w2.heap.size w3).mono ?_; rintro e w4 ⟨rfl, hw4⟩; have HW4 := Lib.hid hw4; clear hw4))
    have hw3 := HW3.out
    have hw4 := HW4.out
    have hs3 : w3.heap.size = w2.heap.size + 1 := by rw [hw3]; show (w2.heap.push _).size = _; simp
    have hb3 : Below w2.heap.size w2 w3 := by rw [hw3]; exact (Below.refl _ w2).alloc (Nat.le_refl _) _
    have hb34 : Below w3.heap.size w3 w4 := by rw [hw4]; exact (Below.refl _ w3).alloc (Nat.le_refl _) _
    have hO : OUT W w4 w2.heap.size w3.heap.size 0 none (fun _ => none) .nilFunc := by
      refine ⟨WS.below (by rw [hw3]; exact ws_new w2) hb34, (fun h => by cases h), (fun m h => by cases h), ?_, (HB2.out.trans (hb3.mono HB2.out.size)).trans (hb34.mono (by have := HB2.out.size; omega))⟩
      rw [hw4]; exact heap_alloc_new w3 _
    have hWb := HB2.out.size
    have HO := Lib.hid hO
    obtain ⟨b, hb⟩ : ∃ b, w2.heap.size = b := ⟨_, rfl⟩
    obtain ⟨d, hd⟩ : ∃ d, w3.heap.size = d := ⟨_, rfl⟩
    rw [hb] at HO hs3 hWb ⊢
    rw [hd] at HO hs3 ⊢
    have hbd : b ≠ d := by omega
    have hdW : W.heap.size ≤ d := by omega
    have hd0 : d ≠ 0 := by omega
    clear hw3 hw4 hb3 hb34 hO hb hd HW3 HW4 hs3
    go_wp2
    go_loopw [8] (fun iv wr => ∃ (i : Nat) (mp : Option Nat) (F : ByteArray → Option Value) (fv : Value), i ≤ P ∧ iv = .int .i64 i ∧ OUT W wr b d i mp F fv) (fun iv _ => P - (intOf iv).toNat)
    case atStart => exact ⟨0, none, _, _, Nat.zero_le _, rfl, HO.out⟩
    case round =>
      obtain ⟨i, mp, F, fv, hi, rfl, hO⟩ := hrel
      by_cases hlt : i < P
      · obtain ⟨pl, ll⟩ := plainR ⟨i, by omega⟩
        have pl' : byNm (rowsOf (toldG 1 [] (textR i))) [104] = [[10, 0, 0, UInt8.ofNat i]] := pl
        have ll' : (textR i).length ≤ 12 := ll
        obtain ⟨D, hD⟩ : ∃ D : ByteArray, (⟨(decG i []).toArray⟩ : ByteArray) = D := ⟨_, rfl⟩
        have HDe : Hid (Calls Tryz.prog 12 #[.int .i64 (i : Int)] wr fun e w' => e = .returned (.string D) ∧ Below wr.heap.size wr w') := Lib.hid (hD ▸ dec_any i wr (by omega))
        have hDl : D.data.toList = decG i [] := by rw [← hD]
        have hS : ((⟨#[49, 48, 46, 48, 46, 48, 46]⟩ ++ D) ++ ⟨#[32, 104, 10]⟩ : ByteArray).data.toList = textR i := by
          unfold textR; rw [← hDl]; simp
        have hDs : D.size ≤ 12 := by
          have : D.size = (decG i []).length := by rw [← hDl]; rfl
          rw [this]; have h := ll'; unfold textR at h; simp at h; omega
        obtain ⟨S, hSS⟩ : ∃ S : ByteArray, ((⟨#[49, 48, 46, 48, 46, 48, 46]⟩ ++ D) ++ ⟨#[32, 104, 10]⟩ : ByteArray) = S := ⟨_, rfl⟩
        have hSz : S.size ≤ 12 := by
          have e : S.size = (textR i).length := by rw [← hS, hSS]; rfl
          omega
        rw [hSS] at hS
        have HO := Lib.hid hO
        have HPut : Hid (∀ w5, Below wr.heap.size wr w5 → ∃ cap o, (convert 9 41 (.string ((⟨#[49, 48, 46, 48, 46, 48, 46]⟩ ++ D) ++ ⟨#[32, 104, 10]⟩))).run Tryz.prog w5 = .ok (.slice (some ⟨w5.heap.size, 0, none⟩) S.size cap) (w5.drew.alloc o) ∧ Hid (Calls Tryz.prog 11 #[.pointer (some ⟨b, 0, none⟩), .string hostsP, .slice (some ⟨w5.heap.size, 0, none⟩) S.size cap] (w5.drew.alloc o) (PutR (w5.drew.alloc o) b (i : Int) mp F hostsP (textR i))) ∧ Hid (Below wr.heap.size wr (w5.drew.alloc o))) := Lib.hid fun w5 hb5 => by
          rw [hSS]
          obtain ⟨cap, o, hconv, hcp, hcm, hrow⟩ := row_made (P := Tryz.prog) (src := 9) (dst := 41) S w5 (by unfold maxLen; omega) Tryz.underlying9 Tryz.underlying41 Tryz.underlying5
          have hbo : Below wr.heap.size wr (w5.drew.alloc o) := hb5.drew.alloc hb5.size o
          have hba : BA (w5.drew.alloc o) (some ⟨w5.heap.size, 0, none⟩) S.size cap (textR i) := hS ▸ ba_heap (ba_row hrow hcm) rfl
          exact ⟨cap, o, hconv, Lib.hid (putb_any b mp (i : Int) F hostsP ⟨w5.heap.size, 0, none⟩ S.size cap (textR i) _ (WS.below HO.out.ws hbo) (by omega) (by omega) hba (by show w5.heap.size < (Array.push _ _).size; simp) (by omega)), Lib.hid hbo⟩
        have hib : i < 20 := by omega
        clear pl ll hO hD hDl hS hSS
        go_upto_region 12 with (first | (go_at_call 12; refine HDe.out.mono ?_; rintro e w5 ⟨rfl, hb5⟩; obtain ⟨cap, o, hconv, HPu, HBo⟩ := HPut.out w5 hb5; clear hb5) | (go_at_call 11; refine HPu.out.mono ?_; rintro e w6 ⟨rfl, g, c, m, hg6, hm6, hgm6, hr6, hc6, hws6, ht6⟩))
        have hdl := HO.out.ds.lt
        have hBo := HBo.out
        have hdl5 : d < (w5.drew.alloc o).heap.size := Nat.lt_of_lt_of_le hdl hBo.size
        have hmd : m ≠ d := by
          rcases hm6 with h | ⟨_, h⟩
          · exact fun e => HO.out.md (by rw [h, e])
          · omega
        have hgd : g ≠ d := by omega
        have hmW : W.heap.size ≤ m := by
          rcases hm6 with h | ⟨_, h⟩
          · exact HO.out.m0 m h
          · omega
        have hds6 : DS w6 d b (i : Int) (i : Int) fv := (HO.out.ds.below hBo).same (ht6.same d hdl5 (fun e => hbd e.symm) (fun e => HO.out.md e.symm))
        have hbel5 := HO.out.bel.trans (hBo.mono HO.out.bel.size)
        have hIn0 : IN W w6 b d g c m i 0 F (textR i) (rowsOf (toldG 1 [] (textR i))) := ⟨hws6, hr6, fun _ => ⟨fv, hds6⟩, fun h => by omega, hbel5.trans (Turned.below ht6 hbel5.size hWb (fun m' e => HO.out.m0 m' e))⟩
        have HIn0 := Lib.hid hIn0
        obtain ⟨R, hRR⟩ : ∃ R, rowsOf (toldG 1 [] (textR i)) = R := ⟨_, rfl⟩
        rw [hRR] at HIn0 pl'
        obtain ⟨T, hT⟩ : ∃ T : List (List UInt8), [[10, 0, 0, UInt8.ofNat i]] = T := ⟨_, rfl⟩
        have hT1 : T.length = 1 := by rw [← hT]; rfl
        have HT := Lib.hid hT
        rw [hT] at pl'
        clear hT
        have HRR := Lib.hid hRR
        have HPl := Lib.hid pl'
        have HLl := Lib.hid ll'
        have hc6' := hc6
        clear hRR hIn0 hbel5 hds6 hdl hdl5 hBo HBo HPu hconv HPut HDe pl' ll' hws6 hr6 ht6 hm6 hg6 hgm6 hDs hSz
        go_wp2
        go_loopw [9] (fun kv wk => ∃ k : Nat, k ≤ A ∧ kv = .int .i64 k ∧ IN W wk b d g c m i k F (textR i) R) (fun kv _ => A - (intOf kv).toNat)
        case atStart => exact ⟨0, Nat.zero_le _, rfl, HIn0.out⟩
        case round =>
          obtain ⟨k, hk, rfl, hIn⟩ := hrel
          by_cases hkl : k < A
          · have HIn := Lib.hid hIn
            have HAsk := Lib.hid (ask_any hIn HRR.out HPl.out (by omega) hc6 (by have := HLl.out; omega) (by omega) hd0 HG.out HM.out hbd hmd)
            clear hIn
            go_upto_region 16 with (go_at_call 5; refine HAsk.out.mono ?_; rintro e w7 ⟨v7, g7, f7, rfl, hv7, hl7, he7, hd7, hf7, hk7⟩; obtain ⟨p7, c7, rfl⟩ := hv7.shape; have HV7 := Lib.hid hv7; have HF7 := Lib.hid hf7; have HD7 := Lib.hid hd7; have HK7 := Lib.hid hk7; clear hv7 hd7 hf7 hk7)
            obtain ⟨p8, c8, e8, hcc7, hcm7, hrd7⟩ := HV7.out.read
            cases e8
            obtain ⟨pg, rfl, hpl, hpc⟩ := hrd7 0 _ (by rw [← HT.out]; rfl)
            have hcc : 1 ≤ c7 := by omega
            have hb78 : Below w7.heap.size w7 (w7.alloc (.cells #[.slice none 0 0, .slice (some ⟨pg, 0, none⟩) 1 c7, .int .i64 0, .int .i64 600] 25)) := (Below.refl _ w7).alloc (Nat.le_refl _) _
            have hl8 : w7.heap.size < (w7.alloc (.cells #[.slice none 0 0, .slice (some ⟨pg, 0, none⟩) 1 c7, .int .i64 0, .int .i64 600] 25)).heap.size := by show w7.heap.size < (w7.heap.push _).size; simp
            have x1 := cellOf4 (heap_alloc_new w7 (.cells #[.slice none 0 0, .slice (some ⟨pg, 0, none⟩) 1 c7, .int .i64 0, .int .i64 600] 25)) (j := 1) rfl
            have x2 := cell_keep (hb78.block pg hpl) hpc
            have x3 := cell_keep (hb78.block g7 hl7) he7
            have hpl8 := Nat.lt_of_lt_of_le hpl hb78.size
            have hgl8 := Nat.lt_of_lt_of_le hl7 hb78.size
            have HIn8 := Lib.hid ((HIn.out.step HD7.out HF7.out HK7.out hbd hmd hgd hdW).below hb78)
            have HD8 := Lib.hid (HD7.out.below hb78)
            clear hcc7 hcm7 hrd7 hpc he7 hb78 hpl hl7
            generalize w7.alloc (.cells #[.slice none 0 0, .slice (some ⟨pg, 0, none⟩) 1 c7, .int .i64 0, .int .i64 600] 25) = w8 at *
            obtain ⟨a8, ha8⟩ : ∃ q, w7.heap.size = q := ⟨_, rfl⟩
            rw [ha8] at x1 hl8
            obtain ⟨x, hx⟩ : ∃ x, UInt8.ofNat i = x := ⟨_, rfl⟩
            have hxi : (x.toNat : Int) = (i : Int) := by rw [← hx, UInt8.toNat_ofNat_of_lt' (by show i < 256; omega)]
            have hx2 : w8.cell? ⟨pg, 0, none⟩ = some (.string (⟨#[10, 0, 0]⟩ ++ ⟨#[x]⟩)) := by
              rw [x2, hx]; exact congrArg (fun q => some (Value.string q)) (bcat [10, 0, 0] #[x]).symm
            have hw8 : IntKind.u8.wrap (i : Int) = (i : Int) := by simp [IntKind.wrap, IntKind.bits, IntKind.signed]; omega
            have hbo : ∀ o, Below w8.heap.size w8 (w8.alloc o) := fun o => (Below.refl _ _).alloc (Nat.le_refl _) o
            have hc1 := byte_str w8 x
            have hc2 := byte_str w8.drew x
            rw [hxi] at hc1 hc2
            have hc3 : (convert 41 9 (.slice (some ⟨w8.heap.size, 0, none⟩) 1 1)).run Tryz.prog ((w8.alloc (.cells #[.int .u8 (IntKind.u8.wrap (i : Int))] 5)).drew) = .ok (.string ⟨#[x]⟩) ((w8.alloc (.cells #[.int .u8 (IntKind.u8.wrap (i : Int))] 5)).drew) := by rw [hw8]; exact hc2
            have hc4 : (convert 41 9 (.slice (some ⟨w8.heap.size, 0, none⟩) 1 1)).run Tryz.prog ((w8.alloc (.cells #[.int .u8 (i : Int)] 5)).drew) = .ok (.string ⟨#[x]⟩) ((w8.alloc (.cells #[.int .u8 (i : Int)] 5)).drew) := hc2
            have y1 : ∀ o, (w8.alloc o).cell? ⟨a8, 1, none⟩ = some (.slice (some ⟨pg, 0, none⟩) 1 c7) := fun o => by rw [(hbo o).cell (p := ⟨a8, 1, none⟩) hl8]; exact x1
            have y2 : ∀ o, (w8.alloc o).cell? ⟨pg, 0, none⟩ = some (.string (⟨#[10, 0, 0]⟩ ++ ⟨#[x]⟩)) := fun o => by rw [(hbo o).cell (p := ⟨pg, 0, none⟩) hpl8]; exact hx2
            have y3 : ∀ o, (w8.alloc o).cell? ⟨g7, 1, none⟩ = some (.int .i64 ((i : Int) + 1)) := fun o => by rw [(hbo o).cell (p := ⟨g7, 1, none⟩) hgl8]; exact x3
            have hc5 : (convert 41 9 (.slice (some ⟨w8.heap.size, 0, none⟩) 1 1)).run Tryz.prog (w8.drew.alloc (.cells #[.int .u8 (IntKind.u8.wrap (i : Int))] 5)) = .ok (.string ⟨#[x]⟩) (w8.drew.alloc (.cells #[.int .u8 (IntKind.u8.wrap (i : Int))] 5)) := by rw [hw8]; exact hc2
            have hc6 : (convert 41 9 (.slice (some ⟨w8.heap.size, 0, none⟩) 1 1)).run Tryz.prog (w8.drew.alloc (.cells #[.int .u8 (i : Int)] 5)) = .ok (.string ⟨#[x]⟩) (w8.drew.alloc (.cells #[.int .u8 (i : Int)] 5)) := hc2
            have hc7 : (convert 41 9 (.slice (some ⟨w8.heap.size, 0, none⟩) 1 1)).run Tryz.prog (w8.alloc (.cells #[.int .u8 (IntKind.u8.wrap (i : Int))] 5)) = .ok (.string ⟨#[x]⟩) (w8.alloc (.cells #[.int .u8 (IntKind.u8.wrap (i : Int))] 5)) := by rw [hw8]; exact hc1
            have hwi : IntKind.i64.wrap ((i : Int) + 1) = (i : Int) + 1 := IntWalk.i64_in _ (by omega)
            have hii : (0 : Int) ≤ (i : Int) := by omega
            have hii3 : (i : Int) < 256 := by omega
            have HBO := Lib.hid hbo
            clear x2 hw8 hbo hc2 hx hxi
            rw [convOp_eq]
            have hco := convOp_eq.symm
            go_region_held3 (fun V => V.cell? ⟨a8, 1, none⟩ = some (.slice (some ⟨pg, 0, none⟩) 1 c7) ∧ V.cell? ⟨pg, 0, none⟩ = some (.string (⟨#[10, 0, 0]⟩ ++ ⟨#[x]⟩)) ∧ V.cell? ⟨g7, 1, none⟩ = some (.int .i64 ((i : Int) + 1))) (first | exact ⟨x1, hx2, x3⟩ | exact ⟨y1 _, y2 _, y3 _⟩) (((go_at_call 8; refine (reads_any _ _ _ _ _ _ (HD8.out.below (by first | exact (HBO.out _).drew | exact (Below.refl _ _).drew | exact HBO.out _))).mono ?_; rintro e wy ⟨rfl, hwy⟩; obtain rfl := hwy)))
            go_wp2
            go_roundw
            case rel => exact ⟨k + 1, hkl, by go_num, HIn8.out.below (by first | exact (HBO.out _).drew | exact HBO.out _)⟩
            case measure => simp [intOf]; omega
          · obtain rfl : k = A := by omega
            go_wp2
            go_roundw
            case rel =>
              obtain ⟨fz, h1z, h2z⟩ := hIn.later (by omega)
              exact ⟨i + 1, some m, _, fz, hlt, by go_num, ⟨hIn.ws, fun e => by cases e; exact hmd rfl, fun m' e => by cases e; exact hmW, h1z, hIn.bel⟩⟩
            case measure => simp [intOf]; omega
      · obtain rfl : i = P := by omega
        go_wp2
        go_ret
        exact ⟨rfl, hO.bel⟩
  · by_cases c1 : a0 < 1
    · go_enter Tryz.func4, Tryz.ntmps4
      go_wp2_with (go_at_call 6; refine HB.out.mono ?_; rintro e w2 ⟨rfl, hb⟩)
      go_ret
      exact ⟨rfl, hb⟩
    · by_cases c2 : 20 < a0
      · go_enter Tryz.func4, Tryz.ntmps4
        go_wp2_with (go_at_call 6; refine HB.out.mono ?_; rintro e w2 ⟨rfl, hb⟩)
        go_ret
        exact ⟨rfl, hb⟩
      · by_cases c3 : a1 < 1
        · go_enter Tryz.func4, Tryz.ntmps4
          go_wp2_with (go_at_call 6; refine HB.out.mono ?_; rintro e w2 ⟨rfl, hb⟩)
          go_ret
          exact ⟨rfl, hb⟩
        · have c4 : 20 < a1 := by omega
          go_enter Tryz.func4, Tryz.ntmps4
          go_wp2_with (go_at_call 6; refine HB.out.mono ?_; rintro e w2 ⟨rfl, hb⟩)
          go_ret
          exact ⟨rfl, hb⟩
end Go.Proofs.YtabkdaaenikliaaGreatDoor

