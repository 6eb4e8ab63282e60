/- Contract of the program's reading of groups. -/
import Derived.Test.YtdfapebggghfdaaGreatDoorPs
import Derived.Test.YtdfapebggghfdaaGreatDoorGr
namespace Go.Proofs.YtdfapebggghfdaaGreatDoor
open Go.RowKit Go.Lib Go.Tx Go.Rb Go.Ev
theorem pub16_some (s : ByteArray) (m : Nat) (w : World) (hs : s.size ≤ 1000000) (hg : GloAt w) (h : hex16 s.data.toList = true) (hm : hexA s.data.toList = m) :
    Calls Tryz.prog 55 #[.string s, .int .i64 16, .int .i64 16] w fun e w' => e = .returned (.tuple #[.int .u64 (m : Int), .nilIface]) ∧ Below w.heap.size w w' := by
  refine (pub16_any s w hs hg.syn hg.rng).mono ?_
  rintro e w' ⟨hb, h2⟩
  rw [if_pos h, hm] at h2
  exact ⟨h2, hb⟩
theorem pub16_none (s : ByteArray) (w : World) (hs : s.size ≤ 1000000) (hg : GloAt w) (h : hex16 s.data.toList = false) :
    Calls Tryz.prog 55 #[.string s, .int .i64 16, .int .i64 16] w fun e w' => (∃ (x : Int) (g : Nat), e = .returned (.tuple #[.int .u64 x, .iface 123 (.pointer (some ⟨g, 0, none⟩))])) ∧ Below w.heap.size w w' := by
  refine (pub16_any s w hs hg.syn hg.rng).mono ?_
  rintro e w' ⟨hb, h2⟩
  rw [if_neg (by rw [h]; decide)] at h2
  exact ⟨h2, hb⟩
theorem pgroups_nil (s : ByteArray) (w : World) (h : s.data.toList = []) :
    Calls Tryz.prog 51 #[.string s] w (FourR w (pgP s.data.toList)) := by
  have HG : Hid (pgP s.data.toList = some []) := Lib.hid (by unfold pgP; rw [if_pos h])
  have e1 : s = ⟨#[]⟩ := by apply ByteArray.ext; apply Array.ext'; exact h
  subst e1
  clear h
  go_enter Tryz.func51, Tryz.ntmps51
  go_wp2
  go_ret2
  exact ⟨by rw [HG.out]; rfl, Below.refl _ _⟩
theorem four_or (r : Option (List UInt8)) : (∃ f, r = some f) ∨ r = none := by cases r with
  | none => exact .inr rfl
  | some f => exact .inl ⟨f, rfl⟩
theorem hex16_bd {l : List UInt8} (h : hex16 l = true) : ∃ m : Nat, hexA l = m ∧ m ≤ 65535 := by
  unfold hex16 at h
  simp only [Bool.and_eq_true, decide_eq_true_eq] at h
  have h0 : 0 ≤ hexA l := hexA_from l 0 (fun c hc => by
    have := h.1.2
    unfold hexOk at this
    rw [List.all_eq_true] at this
    simpa using this c hc) (by omega)
  exact ⟨(hexA l).toNat, by omega, by omega⟩
theorem join_str (a f : List UInt8) : (⟨a.toArray⟩ : ByteArray) ++ ⟨f.toArray⟩ = ⟨(a ++ f).toArray⟩ := by
  apply ByteArray.ext
  apply Array.ext'
  simp
set_option maxHeartbeats 4000000 in
set_option maxRecDepth 100000 in
theorem pgroups_yes (s : ByteArray) (w : World) (hs : s.size ≤ 100000) (hg : GloAt w) (h0 : s.data.toList ≠ []) (P : List (List UInt8)) (N : Nat) (hP : cutN 58 9 s.data.toList = P) (hN : P.length = N + 1) (lst : List UInt8) (hlst : P[N]? = some lst) (f : List UInt8) (hf : fourP (splitL 46 lst) = some f) (hpl : ∀ l ∈ P, l.length ≤ 100000) :
    Calls Tryz.prog 51 #[.string s] w (FourR w (pgP s.data.toList)) := by
  obtain ⟨i5, hi, hz0, hz1, hz2⟩ := info_parts info5
  have hS := splitN_any s 58 9 w (by omega) (by omega) (by omega) hg
  have hlen := cutN_len 58 9 s.data.toList (by omega)
  rw [hP] at hS hlen
  rw [hN] at hlen
  have hl2 : P.getLastD [] = lst := by
    rw [List.getLastD_eq_getLast?, List.getLast?_eq_getElem?, hN, Nat.add_sub_cancel, hlst]; rfl
  have hpg : pgP s.data.toList = (hexAll (P.take N)).map (· ++ f) := by
    unfold pgP
    rw [if_neg h0, hP, hl2, hf, List.dropLast_eq_take, hN]; rfl
  have HE : Hid (∀ a, hexAll (P.take N) = some a → pgP s.data.toList = some (a ++ f)) := Lib.hid (fun a h => by rw [hpg, h]; rfl)
  have HK : Hid (∀ l ∈ P.take N, hexG l = none → pgP s.data.toList = none) := Lib.hid (fun l hl h => by rw [hpg, hexAll_no hl h]; rfl)
  have hf4 := fourP_len hf
  have HS := Lib.hid hS
  have HN := Lib.hid hN
  have HL := Lib.hid hlst
  have HPL := Lib.hid hpl
  have HG := Lib.hid hg
  have hll := hpl lst (List.mem_of_getElem? hlst)
  obtain ⟨ql, hq⟩ : ∃ q : ByteArray, (⟨lst.toArray⟩ : ByteArray) = q := ⟨_, rfl⟩
  have hqs : ql.size ≤ 100000 := by
    rw [← hq]
    show lst.toArray.size ≤ _
    simpa using hll
  have hqf : fourP (splitL 46 ql.data.toList) = some f := by rw [← hq]; exact hf
  have HQF := Lib.hid hqf
  have HQ := Lib.hid hq
  have e1 : ¬ s.toList = [] := by rw [toList_data]; exact h0
  have e2 : s.toList.isEmpty = false := by cases hh : s.toList with | nil => exact absurd hh e1 | cons x y => rfl
  clear hS hN hlst hpl hg hf hP hpg hl2 hq hqf h0 hll
  go_enter Tryz.func51, Tryz.ntmps51
  go_wp2_with (first | (go_at_call 53; refine HS.out.mono ?_; rintro e w2 ⟨cap, rfl, hc1, hc2, hlt2, hrd, hb⟩; rw [HN.out] at hc1 ⊢; have hlc := hrd N lst HL.out; rw [HQ.out] at hlc; have HRD := Lib.hid hrd; have HB := Lib.hid hb; have hbs := hb.size; clear hrd hb) | (go_at_call 33; refine (pshort_any ql _ hqs (HG.out.below HB.out)).mono ?_; rw [HQF.out]; rintro e w3 ⟨rfl, hb3⟩; simp only [Option.getD_some, Option.getD_none, Option.isSome_some, Option.isSome_none]; have HB3 := Lib.hid hb3; have hbs3 := hb3.size; clear hb3))
  go_loopw [8, 36] (fun av i wr => ∃ (k : Nat) (a : List UInt8), k ≤ N ∧ i = .int .i64 k ∧ Hid (RB w3.heap.size wr av a) ∧ Hid (hexAll (P.take k) = some a) ∧ Hid (a.length = 2 * k) ∧ Below w3.heap.size w3 wr) (fun _ i _ => N - (RowKit.intOf i).toNat)
  case atStart => exact ⟨0, [], Nat.zero_le _, rfl, Lib.hid (RB.nil _ _), Lib.hid rfl, Lib.hid rfl, Below.refl _ _⟩
  case round =>
    obtain ⟨k, a, hk, rfl, hO, hall, hal, hbw⟩ := hrel
    have hws := hbw.size
    have hal2 : a.length ≤ 1000 := by have := hal.out; omega
    obtain ⟨pa, ca, rfl, hca1, hca2⟩ := hO.out.shape
    have hG2 : Hid (GloAt wr) := Lib.hid (((HG.out.below HB.out).below HB3.out).below hbw)
    by_cases hlt : k < N
    · obtain ⟨l, hl⟩ : ∃ l, P[k]? = some l := ⟨_, List.getElem?_eq_getElem (by rw [HN.out]; omega)⟩
      have hcell : wr.cell? ⟨w.heap.size, k, none⟩ = some (.string ⟨l.toArray⟩) := (hbw.cell (p := ⟨w.heap.size, k, none⟩) (by show w.heap.size < _; omega)).trans ((HB3.out.cell (p := ⟨w.heap.size, k, none⟩) hlt2).trans (HRD.out k l hl))
      obtain ⟨q, hq⟩ : ∃ q : ByteArray, (⟨l.toArray⟩ : ByteArray) = q := ⟨_, rfl⟩
      have hql : q.data.toList = l := by rw [← hq]
      have hqs : q.size ≤ 1000000 := by
        have := HPL.out l (List.mem_of_getElem? hl)
        have e : q.data.toList.length = q.size := rfl
        rw [hql] at e
        omega
      rw [hq] at hcell
      have HL := Lib.hid hl
      have HQL := Lib.hid hql
      have HKl : Hid (hexG l = none → pgP s.data.toList = none) := Lib.hid (HK.out l (by
        have := List.getElem?_take_of_lt (l := P) (i := k) (j := N) hlt
        rw [hl] at this
        exact List.mem_of_getElem? this))
      have hqz : q.data.toList.length = q.size := rfl
      rw [hql] at hqz
      have HQZ := Lib.hid hqz
      clear hl hq hql hqz
      cases hx : hex16 q.data.toList with
      | false =>
        have HX := Lib.hid hx
        have HY := Lib.hid (HKl.out (hexG_no16 (by rw [← HQL.out]; exact hx)))
        clear hx
        go_wp2_with (go_at_call 55; refine (pub16_none q _ hqs hG2.out HX.out).mono ?_; rintro e w4 ⟨⟨x, g, rfl⟩, hb4⟩)
        go_ret2
        exact ⟨by rw [HY.out]; rfl, HB.out.trans ((HB3.out.trans ((hbw.trans (hb4.mono hbw.size)).mono HB3.out.size)).mono HB.out.size)⟩
      | true =>
        obtain ⟨m, hm, hm2⟩ := hex16_bd hx
        have HX := Lib.hid hx
        have HM := Lib.hid hm
        by_cases h4 : 4 < q.size
        · have HY := Lib.hid (HKl.out (hexG_long (by rw [HQZ.out]; exact h4)))
          clear hx hm
          go_wp2_with (go_at_call 55; refine (pub16_some q m _ hqs hG2.out HX.out HM.out).mono ?_; rintro e w4 ⟨rfl, hb4⟩)
          go_ret2
          exact ⟨by rw [HY.out]; rfl, HB.out.trans ((HB3.out.trans ((hbw.trans (hb4.mono hbw.size)).mono HB3.out.size)).mono HB.out.size)⟩
        · have h4' : q.size ≤ 4 := by omega
          have HY : Hid (hexG l = some [UInt8.ofNat (m / 256), UInt8.ofNat (m % 256)]) := Lib.hid (by
            have := hexG_16 hx (by rw [HQL.out, HQZ.out]; exact h4')
            rw [hm, HQL.out] at this
            exact this)
          clear hx hm h4
          go_wp2_with (first | (go_at_call 55; refine (pub16_some q m _ hqs hG2.out HX.out HM.out).mono ?_; rintro e w4 ⟨rfl, hb4⟩; have HO4 := Lib.hid (hO.out.below hb4); have hbs4 := hb4.size) | (at_builtin; refine wpList_append_rb rfl _ _ 22 22 rfl Tryz.underlying22 Tryz.underlying22 (by intro k h; cases h) hi hz0 hz1 hz2 (B := w3.heap.size) (l := a) (m := [UInt8.ofNat (m / 256), UInt8.ofNat (m % 256)]) rfl rfl (HO4.out.alloc _) (lit2 _ () (by simp; omega) (by simp)) (Nat.le_trans (Nat.le_trans hws hbs4) (Nat.le_of_lt (by simp))) (by simp; omega) ?_; intro s' w5 hO5 hb5))
          go_roundw
          case rel => exact ⟨k + 1, a ++ [UInt8.ofNat (m / 256), UInt8.ofNat (m % 256)], hlt, by go_num, Lib.hid hO5, Lib.hid (hexAll_step HL.out hall.out HY.out), Lib.hid (by have := hal.out; simp; omega), ((hbw.trans (hb4.mono hws)).alloc (Nat.le_trans hws hbs4) _).trans hb5⟩
          case measure => simp [RowKit.intOf]; omega
    · obtain rfl : k = N := by omega
      have HF := Lib.hid (HE.out a hall.out)
      have hstr := hO.out.str (P := Tryz.prog) (src := 22) (dst := 9) Tryz.underlying22 Tryz.underlying5 Tryz.underlying9
      have hX : (⟨a.toArray⟩ : ByteArray).size ≤ 1000 := by show a.toArray.size ≤ _; simp; omega
      have hX2 : (⟨f.toArray⟩ : ByteArray).size ≤ 1000 := by show f.toArray.size ≤ _; simp; omega
      go_wp2
      go_ret2
      exact ⟨by rw [HF.out]; simp only [Option.getD_some, Option.isSome_some, ← join_str]; rfl, HB.out.trans ((HB3.out.trans (hbw.mono HB3.out.size)).mono HB.out.size)⟩
set_option maxHeartbeats 4000000 in
set_option maxRecDepth 100000 in
theorem pgroups_no (s : ByteArray) (w : World) (hs : s.size ≤ 100000) (hg : GloAt w) (h0 : s.data.toList ≠ []) (P : List (List UInt8)) (N : Nat) (hP : cutN 58 9 s.data.toList = P) (hN : P.length = N + 1) (lst : List UInt8) (hlst : P[N]? = some lst) (hf : fourP (splitL 46 lst) = none) (hpl : ∀ l ∈ P, l.length ≤ 100000) :
    Calls Tryz.prog 51 #[.string s] w (FourR w (pgP s.data.toList)) := by
  obtain ⟨i5, hi, hz0, hz1, hz2⟩ := info_parts info5
  have hS := splitN_any s 58 9 w (by omega) (by omega) (by omega) hg
  have hlen := cutN_len 58 9 s.data.toList (by omega)
  rw [hP] at hS hlen
  rw [hN] at hlen
  have hl2 : P.getLastD [] = lst := by
    rw [List.getLastD_eq_getLast?, List.getLast?_eq_getElem?, hN, Nat.add_sub_cancel, hlst]; rfl
  have hpg : pgP s.data.toList = hexAll P := by
    unfold pgP
    rw [if_neg h0, hP, hl2, hf]
  have htk : P.take (N + 1) = P := List.take_of_length_le (by omega)
  have HE : Hid (∀ a, hexAll (P.take (N + 1)) = some a → pgP s.data.toList = some (a ++ [])) := Lib.hid (fun a h => by rw [htk] at h; rw [hpg, h, List.append_nil])
  have HK : Hid (∀ l ∈ P.take (N + 1), hexG l = none → pgP s.data.toList = none) := Lib.hid (fun l hl h => by rw [htk] at hl; rw [hpg, hexAll_no hl h])
  clear htk
  have HS := Lib.hid hS
  have HN := Lib.hid hN
  have HL := Lib.hid hlst
  have HPL := Lib.hid hpl
  have HG := Lib.hid hg
  have hll := hpl lst (List.mem_of_getElem? hlst)
  obtain ⟨ql, hq⟩ : ∃ q : ByteArray, (⟨lst.toArray⟩ : ByteArray) = q := ⟨_, rfl⟩
  have hqs : ql.size ≤ 100000 := by
    rw [← hq]
    show lst.toArray.size ≤ _
    simpa using hll
  have hqf : fourP (splitL 46 ql.data.toList) = none := by rw [← hq]; exact hf
  have HQF := Lib.hid hqf
  have HQ := Lib.hid hq
  have e1 : ¬ s.toList = [] := by rw [toList_data]; exact h0
  have e2 : s.toList.isEmpty = false := by cases hh : s.toList with | nil => exact absurd hh e1 | cons x y => rfl
  clear hS hN hlst hpl hg hf hP hpg hl2 hq hqf h0 hll
  go_enter Tryz.func51, Tryz.ntmps51
  go_wp2_with (first | (go_at_call 53; refine HS.out.mono ?_; rintro e w2 ⟨cap, rfl, hc1, hc2, hlt2, hrd, hb⟩; rw [HN.out] at hc1 ⊢; have hlc := hrd N lst HL.out; rw [HQ.out] at hlc; have HRD := Lib.hid hrd; have HB := Lib.hid hb; have hbs := hb.size; clear hrd hb) | (go_at_call 33; refine (pshort_any ql _ hqs (HG.out.below HB.out)).mono ?_; rw [HQF.out]; rintro e w3 ⟨rfl, hb3⟩; simp only [Option.getD_some, Option.getD_none, Option.isSome_some, Option.isSome_none]; have HB3 := Lib.hid hb3; have hbs3 := hb3.size; clear hb3))
  go_loopw [8, 36] (fun av i wr => ∃ (k : Nat) (a : List UInt8), k ≤ (N + 1) ∧ i = .int .i64 k ∧ Hid (RB w3.heap.size wr av a) ∧ Hid (hexAll (P.take k) = some a) ∧ Hid (a.length = 2 * k) ∧ Below w3.heap.size w3 wr) (fun _ i _ => (N + 1) - (RowKit.intOf i).toNat)
  case atStart => exact ⟨0, [], Nat.zero_le _, rfl, Lib.hid (RB.nil _ _), Lib.hid rfl, Lib.hid rfl, Below.refl _ _⟩
  case round =>
    obtain ⟨k, a, hk, rfl, hO, hall, hal, hbw⟩ := hrel
    have hws := hbw.size
    have hal2 : a.length ≤ 1000 := by have := hal.out; omega
    obtain ⟨pa, ca, rfl, hca1, hca2⟩ := hO.out.shape
    have hG2 : Hid (GloAt wr) := Lib.hid (((HG.out.below HB.out).below HB3.out).below hbw)
    by_cases hlt : k < (N + 1)
    · obtain ⟨l, hl⟩ : ∃ l, P[k]? = some l := ⟨_, List.getElem?_eq_getElem (by rw [HN.out]; omega)⟩
      have hcell : wr.cell? ⟨w.heap.size, k, none⟩ = some (.string ⟨l.toArray⟩) := (hbw.cell (p := ⟨w.heap.size, k, none⟩) (by show w.heap.size < _; omega)).trans ((HB3.out.cell (p := ⟨w.heap.size, k, none⟩) hlt2).trans (HRD.out k l hl))
      obtain ⟨q, hq⟩ : ∃ q : ByteArray, (⟨l.toArray⟩ : ByteArray) = q := ⟨_, rfl⟩
      have hql : q.data.toList = l := by rw [← hq]
      have hqs : q.size ≤ 1000000 := by
        have := HPL.out l (List.mem_of_getElem? hl)
        have e : q.data.toList.length = q.size := rfl
        rw [hql] at e
        omega
      rw [hq] at hcell
      have HL := Lib.hid hl
      have HQL := Lib.hid hql
      have HKl : Hid (hexG l = none → pgP s.data.toList = none) := Lib.hid (HK.out l (by
        have := List.getElem?_take_of_lt (l := P) (i := k) (j := (N + 1)) hlt
        rw [hl] at this
        exact List.mem_of_getElem? this))
      have hqz : q.data.toList.length = q.size := rfl
      rw [hql] at hqz
      have HQZ := Lib.hid hqz
      clear hl hq hql hqz
      cases hx : hex16 q.data.toList with
      | false =>
        have HX := Lib.hid hx
        have HY := Lib.hid (HKl.out (hexG_no16 (by rw [← HQL.out]; exact hx)))
        clear hx
        go_wp2_with (go_at_call 55; refine (pub16_none q _ hqs hG2.out HX.out).mono ?_; rintro e w4 ⟨⟨x, g, rfl⟩, hb4⟩)
        go_ret2
        exact ⟨by rw [HY.out]; rfl, HB.out.trans ((HB3.out.trans ((hbw.trans (hb4.mono hbw.size)).mono HB3.out.size)).mono HB.out.size)⟩
      | true =>
        obtain ⟨m, hm, hm2⟩ := hex16_bd hx
        have HX := Lib.hid hx
        have HM := Lib.hid hm
        by_cases h4 : 4 < q.size
        · have HY := Lib.hid (HKl.out (hexG_long (by rw [HQZ.out]; exact h4)))
          clear hx hm
          go_wp2_with (go_at_call 55; refine (pub16_some q m _ hqs hG2.out HX.out HM.out).mono ?_; rintro e w4 ⟨rfl, hb4⟩)
          go_ret2
          exact ⟨by rw [HY.out]; rfl, HB.out.trans ((HB3.out.trans ((hbw.trans (hb4.mono hbw.size)).mono HB3.out.size)).mono HB.out.size)⟩
        · have h4' : q.size ≤ 4 := by omega
          have HY : Hid (hexG l = some [UInt8.ofNat (m / 256), UInt8.ofNat (m % 256)]) := Lib.hid (by
            have := hexG_16 hx (by rw [HQL.out, HQZ.out]; exact h4')
            rw [hm, HQL.out] at this
            exact this)
          clear hx hm h4
          go_wp2_with (first | (go_at_call 55; refine (pub16_some q m _ hqs hG2.out HX.out HM.out).mono ?_; rintro e w4 ⟨rfl, hb4⟩; have HO4 := Lib.hid (hO.out.below hb4); have hbs4 := hb4.size) | (at_builtin; refine wpList_append_rb rfl _ _ 22 22 rfl Tryz.underlying22 Tryz.underlying22 (by intro k h; cases h) hi hz0 hz1 hz2 (B := w3.heap.size) (l := a) (m := [UInt8.ofNat (m / 256), UInt8.ofNat (m % 256)]) rfl rfl (HO4.out.alloc _) (lit2 _ () (by simp; omega) (by simp)) (Nat.le_trans (Nat.le_trans hws hbs4) (Nat.le_of_lt (by simp))) (by simp; omega) ?_; intro s' w5 hO5 hb5))
          go_roundw
          case rel => exact ⟨k + 1, a ++ [UInt8.ofNat (m / 256), UInt8.ofNat (m % 256)], hlt, by go_num, Lib.hid hO5, Lib.hid (hexAll_step HL.out hall.out HY.out), Lib.hid (by have := hal.out; simp; omega), ((hbw.trans (hb4.mono hws)).alloc (Nat.le_trans hws hbs4) _).trans hb5⟩
          case measure => simp [RowKit.intOf]; omega
    · obtain rfl : k = (N + 1) := by omega
      have HF := Lib.hid (HE.out a hall.out)
      have hstr := hO.out.str (P := Tryz.prog) (src := 22) (dst := 9) Tryz.underlying22 Tryz.underlying5 Tryz.underlying9
      have hX : (⟨a.toArray⟩ : ByteArray).size ≤ 1000 := by show a.toArray.size ≤ _; simp; omega
      go_wp2
      go_ret2
      exact ⟨by rw [HF.out]; simp only [Option.getD_some, Option.isSome_some, ← join_str]; rfl, HB.out.trans ((HB3.out.trans (hbw.mono HB3.out.size)).mono HB.out.size)⟩
theorem pgroups_any (s : ByteArray) (w : World) (hs : s.size ≤ 100000) (hg : GloAt w) :
    Calls Tryz.prog 51 #[.string s] w (FourR w (pgP s.data.toList)) := by
  by_cases h0 : s.data.toList = []
  · exact pgroups_nil s w h0
  have hlen := cutN_len 58 9 s.data.toList (by omega)
  obtain ⟨P, hP⟩ : ∃ P, cutN 58 9 s.data.toList = P := ⟨_, rfl⟩
  rw [hP] at hlen
  obtain ⟨N, hN⟩ : ∃ N, P.length = N + 1 := ⟨P.length - 1, by omega⟩
  obtain ⟨lst, hlst⟩ : ∃ l, P[N]? = some l := ⟨_, List.getElem?_eq_getElem (by omega)⟩
  have hpl : ∀ l ∈ P, l.length ≤ 100000 := fun l hl => by
    rw [← hP] at hl
    have := cutN_mem hl
    have e : s.data.toList.length = s.size := rfl
    omega
  rcases four_or (fourP (splitL 46 lst)) with ⟨f, hf⟩ | hf
  · exact pgroups_yes s w hs hg h0 P N hP hN lst hlst f hf hpl
  · exact pgroups_no s w hs hg h0 P N hP hN lst hlst hf hpl
end Go.Proofs.YtdfapebggghfdaaGreatDoor
