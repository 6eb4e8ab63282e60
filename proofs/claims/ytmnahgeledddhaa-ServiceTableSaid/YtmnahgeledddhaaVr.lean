/- The walk of the law ServiceTable. -/
import Derived.WalkKit
import Derived.ProofKit
import Derived.Test.YtmnahgeledddhaaVq
import Derived.Test.YtmnahgeledddhaaVj
import Derived.Test.YtmnahgeledddhaaRz
import Derived.Test.YtmnahgeledddhaaSl
import Derived.Deep.RegionHeld3
namespace Go.Tx
open Go.RowKit
theorem svcRow_fine {ws : List (List UInt8)} (h : FineL ws) {t : Svc} (ht : svcRow ws = some t) : t.1 ≠ [] ∧ t.1.length ≤ 512 ∧ (∀ y ∈ t.1, y.length ≤ 512) ∧ t.2.2.length ≤ 8 := by
  obtain ⟨x, r, rfl⟩ : ∃ x r, ws = x :: r := by cases ws with | nil => exact absurd rfl h.ne | cons x r => exact ⟨x, r, rfl⟩
  cases r with
  | nil => cases ht
  | cons y r =>
    rw [svcRow_place, placeW_two] at ht
    split at ht
    · cases hp : placeP y with
      | none => rw [hp] at ht; cases ht
      | some q =>
        rw [hp] at ht
        cases ht
        have h2 := h.few
        have h1 := List.length_filter_le svcB r
        simp only [List.length_cons] at h2
        refine ⟨by simp, by simp; omega, fun z hz => ?_, (placeP_bd (n := q.1) (p := q.2) hp).2.2.2⟩
        simp only [List.drop_succ_cons, List.drop_zero, List.mem_cons] at hz
        rcases hz with rfl | hz
        · exact h.word _ (by simp)
        · exact h.word z (by simp [(List.mem_filter.1 hz).1])
    · cases ht
theorem svcsOf_fine {T : List (Nat × List (List UInt8))} (h : ∀ t ∈ T, FineL t.2) : ∀ t ∈ svcsOf T, t.1 ≠ [] ∧ t.1.length ≤ 512 ∧ (∀ y ∈ t.1, y.length ≤ 512) ∧ t.2.2.length ≤ 8 := fun t ht => by
  obtain ⟨x, hx, e⟩ := List.mem_filterMap.1 ht
  exact svcRow_fine (h x hx) e
theorem svcP_len {R : List Svc} (h : ∀ t ∈ R, t.1.length ≤ 512) (n : Int) (p : List UInt8) : ((svcP R n p).getD []).length ≤ 512 := by
  unfold svcP namesOn
  cases hf : R.find? fun r => decide (r.2.1 = n ∧ (p.map low = [] ∨ p.map low = r.2.2)) with
  | none => simp
  | some t => simp only [Option.map_some, Option.getD_some]; exact h t (List.mem_of_find?_eq_some hf)
end Go.Tx
namespace Go.Proofs.Ytmnahgeledddhaa
open Go.WideShapes Go.RowKit
open Go.Tx Go.Lib
theorem bdN {B : Nat} {a w : World} (h : Below B a w) (q : Nat) : Below B a (w.drewN q) := ⟨h.os, h.tape, h.output, h.size, h.block⟩
theorem cutA_any (s : ByteArray) (n : Nat) (hs : s.size ≤ maxLen) (hn : n ≤ 1000) : ∃ t : ByteArray, t.size ≤ n ∧ ∀ w : World, Calls Try.prog 8 #[.string s, .int .i64 n] w fun e w' => e = .returned (.string t) ∧ w = w' := by
  unfold maxLen at hs
  by_cases h : s.size ≤ n
  · refine ⟨s, h, fun w => ?_⟩
    have h1 : ¬ (n : Int) < (s.size : Int) := by omega
    go_enter Try.func8, Try.ntmps8
    go_wp2
    all_goals (go_ret; exact ⟨rfl, rfl⟩)
  · refine ⟨s.extract 0 n, by rw [ByteArray.size_extract]; omega, fun w => ?_⟩
    have h1 : (n : Int) < (s.size : Int) := by omega
    go_enter Try.func8, Try.ntmps8
    go_wp2
    all_goals (go_ret; exact ⟨rfl, rfl⟩)
/-- Bytes that came in. -/
theorem ba_ints {W : World} {a : Option Addr} {n0 n c : Nat} {zs : List Int} (h : Go.Sl.IsInts .u8 W a n0 c zs) (hn : n ≤ n0) : BA W a n c ((zs.take n).map fun z => UInt8.ofNat z.toNat) ∧ n0 ≤ c ∧ c ≤ maxLen ∧ (0 < c → ∀ x, a = some x → x.block < W.heap.size) := by
  rcases h with ⟨rfl, rfl, rfl, rfl⟩ | ⟨x, rfl, h1, h2, h3, h4, h5⟩
  · obtain rfl : n = 0 := by omega
    exact ⟨⟨rfl, Nat.le_refl _, by omega, fun _ => rfl, fun x hx => by cases hx⟩, Nat.le_refl _, by unfold maxLen; omega, fun h => by omega⟩
  · refine ⟨⟨by simp; omega, by omega, by unfold maxLen at h2; omega, (fun h => by cases h), fun y hy j b hj => ?_⟩, h1, h2, fun h0 y hy => ?_⟩
    · cases hy
      rw [List.getElem?_map] at hj
      obtain ⟨z, hz, rfl⟩ := Option.map_eq_some_iff.1 hj
      rw [List.getElem?_take] at hz
      split at hz
      · rename_i hjn
        have hjl := (List.getElem?_eq_some_iff.1 hz).1
        have hc := h4 j hjl
        rw [List.getD_eq_getElem?_getD, hz] at hc
        have hw := h5 z (List.mem_of_getElem? hz)
        have hw2 : 0 ≤ z ∧ z ≤ 255 := by simpa [Lit.wf, IntKind.wrap, IntKind.bits, IntKind.signed, IntKind.min, IntKind.max] using hw
        rw [hc]
        simp only [Option.getD_some]
        rw [UInt8.toNat_ofNat_of_lt' (by show z.toNat < 256; omega)]
        congr 2
        omega
      · cases hz
    · cases hy
      have hc := h4 0 (by omega)
      unfold World.cell? at hc
      have ha : (x.add 0).block = x.block := by unfold Addr.add; split <;> rfl
      split at hc
      · rename_i hh; rw [← ha]; exact (Array.getElem?_eq_some_iff.1 hh).1
      · cases hc
theorem told_nil : toldG 1 [] [] = [] := by decide
/-- What both sides' Lines say of bytes that came in. -/
theorem lines_in {W : World} {a : Option Addr} {n0 n c : Nat} (h : ∃ zs, Go.Sl.IsInts .u8 W a n0 c zs) (hn : n ≤ n0) (hn2 : n ≤ 1500) : ∃ T : List (Nat × List (List UInt8)), (∀ t ∈ T, FineL t.2) ∧ T.length ≤ 100001 ∧
    (∀ W', Below W.heap.size W W' → Calls Try.prog 18 #[.slice a n c] W' (LinesR W' T)) ∧ (∀ W', Below W.heap.size W W' → Calls Try.prog 22 #[.slice a n c] W' (RLinesR W' T)) := by
  obtain ⟨zs, hz⟩ := h
  obtain ⟨hba, hnc, hcm, hold⟩ := ba_ints hz hn
  by_cases hc : c = 0
  · subst hc
    obtain rfl : n = 0 := by omega
    refine ⟨[], fun t ht => by (cases ht), by simp, fun W' _ => (lines_zero a W').mono ?_, fun W' _ => (rlines_zero a W').mono ?_⟩
    · rintro e w ⟨rfl, rfl⟩; exact ⟨_, rfl, LinesAt.nil _ _, Below.refl _ _⟩
    · rintro e w ⟨rfl, rfl⟩; exact ⟨_, rfl, LinesC.nil _ _ _, Below.refl _ _⟩
  · have ho := hold (by omega)
    obtain ⟨hf, hfew⟩ := toldG_fine ((zs.take n).map fun z => UInt8.ofNat z.toNat) 1 []
    have hl := hba.len
    exact ⟨_, hf, by omega, fun W' hb => lines_any a n c _ W' (hba.below hb ho) (fun x hx => Nat.lt_of_lt_of_le (ho x hx) hb.size) (by omega), fun W' hb => rlines_any a n c _ W' (hba.below hb ho) (fun x hx => Nat.lt_of_lt_of_le (ho x hx) hb.size) (by omega)⟩
set_option maxHeartbeats 4000000 in
set_option maxRecDepth 100000 in
theorem serviceTable_walk (a0 : Option Addr) (n0 c0 : Nat) (a1 a2 : ByteArray) (a3 : Int) (W : World) (w0 : ∃ zs, Go.Sl.IsInts .u8 W a0 n0 c0 zs) (w1 : a1.size ≤ maxLen) (w2 : a2.size ≤ maxLen) :
    Calls Try.prog 3 #[.slice a0 n0 c0, .string a1, .string a2, .int .i64 a3] W fun e w' => e = .returned (.bool true) ∧ Below W.heap.size W w' := by
  have HB := Lib.hid (begun_any W)
  obtain ⟨n, hn0, hn1, hShort⟩ : ∃ n, n ≤ n0 ∧ n ≤ 1500 ∧ ∀ w : World, Calls Try.prog 7 #[.slice a0 n0 c0, .int .i64 1500] w fun e w' => e = .returned (.slice a0 n c0) ∧ w = w' := by
    obtain ⟨zs, hz⟩ := w0
    obtain ⟨_, hnc, hcm, _⟩ := ba_ints hz (Nat.le_refl _)
    unfold maxLen at hcm
    by_cases h : n0 ≤ 1500
    · exact ⟨n0, Nat.le_refl _, h, fun w => short_le a0 n0 c0 1500 w hnc (by omega) h⟩
    · exact ⟨1500, by omega, Nat.le_refl _, fun w => short_gt a0 n0 c0 1500 w hnc (by omega) (by omega)⟩
  have HShort := Lib.hid hShort
  obtain ⟨T, hfine, hfew, hl1, hl2⟩ := lines_in w0 hn0 hn1
  have HP := Lib.hid (fun w' (hb : Below W.heap.size W w') => parse_core a0 n c0 T w' hfine hfew (fun W2 hb2 => hl1 W2 (hb.trans (hb2.mono hb.size))))
  have HH := Lib.hid (fun w' (hb : Below W.heap.size W w') => services_core a0 n c0 T w' hfine hfew (hl2 w' hb))
  have hRf := svcsOf_fine hfine
  have hRl : (svcsOf T).length ≤ 100001 := Nat.le_trans (svcsOf_few T) hfew
  obtain ⟨s1, hs1, hcut1⟩ := cutA_any a1 60 w1 (by omega)
  obtain ⟨s2, hs2, hcut2⟩ := cutA_any a2 20 w2 (by omega)
  have HCut : Hid (∀ w q m r, (q = a1 ∧ m = (60 : Int) ∧ r = s1) ∨ (q = a2 ∧ m = (20 : Int) ∧ r = s2) → Calls Try.prog 8 #[.string q, .int .i64 m] w fun e w' => e = .returned (.string r) ∧ w = w') := Lib.hid (fun w q m r h => by
    rcases h with ⟨rfl, rfl, rfl⟩ | ⟨rfl, rfl, rfl⟩
    · exact hcut1 w
    · exact hcut2 w)
  have HRf := Lib.hid hRf
  clear hShort hfine hl1 hl2 hRf hcut1 hcut2 hfew w0 w1 w2 hn0 hn1
  generalize svcsOf T = R at *
  have HbyP := Lib.hid (fun n p => svcP_len (fun t ht => (HRf.out t ht).2.1) n p : ∀ n p, ((svcP R n p).getD []).length ≤ 512)
  go_enter Try.func3, Try.ntmps3
  go_upto_region 6 with (first | (go_at_call 6; refine HB.out.mono ?_; rintro e w3 ⟨rfl, hb3⟩) | (go_at_call 7; refine (HShort.out _).mono ?_; rintro e w4 ⟨rfl, hw⟩; obtain rfl := hw) | (go_at_call 8; refine (HCut.out _ _ _ _ (by first | exact .inl ⟨rfl, rfl, rfl⟩ | exact .inr ⟨rfl, rfl, rfl⟩)).mono ?_; rintro e w4 ⟨rfl, hw⟩; obtain rfl := hw))
  go_upto_region 8 with (first | (go_at_call 9; refine (HP.out _ hb3).mono ?_; rintro e w5 ⟨p, rfl, hT5, hb5⟩; have HT5 := Lib.hid hT5; have hbW5 := hb3.trans (hb5.mono hb3.size)) | (go_at_call 10; refine (HH.out _ hbW5).mono ?_; rintro e w6 ⟨v6, rfl, hR6, hb6⟩; obtain ⟨p6, c6, rfl⟩ := hR6.shape; have HT := Lib.hid (HT5.out.below hb6); have HV := Lib.hid hR6; have HWh := Lib.hid (hbW5.trans (hb6.mono hbW5.size))))
  have HW := Lib.hid (Below.refl w6.heap.size w6)
  have hRl6 : R.length ≤ 1000000 := by omega
  have HRn : Hid (∀ t ∈ R, t.1.length ≤ 1000) := Lib.hid (fun t ht => Nat.le_trans (HRf.out t ht).2.1 (by decide))
  clear hT5 hR6 HP HH HT5 HShort HCut HB hbW5 hb5 hb6 hb3
  have hs2m : s2.size ≤ maxLen := by unfold maxLen; omega
  obtain ⟨nx, hnx⟩ : ∃ x, (svcN R s1.data.toList s2.data.toList).getD 0 = x := ⟨_, rfl⟩
  obtain ⟨bx, hbx⟩ : ∃ x, (svcN R s1.data.toList s2.data.toList).isSome = x := ⟨_, rfl⟩
  obtain ⟨by', hby⟩ : ∃ x, (svcP R a3 s2.data.toList).isSome = x := ⟨_, rfl⟩
  obtain ⟨L, hL⟩ : ∃ x, (svcP R a3 s2.data.toList).getD [] = x := ⟨_, rfl⟩
  have hLl : L.length ≤ 512 := by rw [← hL]; exact HbyP.out _ _
  have HN1 : Hid (∀ W', Below w6.heap.size w6 W' → Calls Try.prog 12 #[.pointer (some ⟨p, 0, none⟩), .string s1, .string s2] W' fun e w' => e = .returned (.tuple #[.int .i64 nx, .bool bx]) ∧ Below W'.heap.size W' w') := Lib.hid (fun W' hb => by rw [← hnx, ← hbx]; exact byName_any s1 s2 W' (HT.out.below hb) hs2m)
  have HN2 : Hid (∀ W', Below w6.heap.size w6 W' → Calls Try.prog 13 #[.slice p6 R.length c6, .string s1, .string s2] W' fun e w' => e = .returned (.tuple #[.int .i64 nx, .bool bx]) ∧ Below W'.heap.size W' w') := Lib.hid (fun W' hb => by rw [← hnx, ← hbx]; exact svcName_ref s1 s2 W' (HV.out.below hb) hRl6 HRn.out hs2m)
  have HP1 : Hid (∀ W', Below w6.heap.size w6 W' → Calls Try.prog 14 #[.pointer (some ⟨p, 0, none⟩), .int .i64 a3, .string s2] W' fun e w' => ∃ v, e = .returned (.tuple #[v, .bool by']) ∧ StrC W'.heap.size w' v L ∧ Below W'.heap.size W' w') := Lib.hid (fun W' hb => by rw [← hL, ← hby]; exact byPort_any a3 s2 W' (HT.out.below hb) hs2m (by have := HbyP.out a3 s2.data.toList; omega))
  have HP2 : Hid (∀ W', Below w6.heap.size w6 W' → Calls Try.prog 15 #[.slice p6 R.length c6, .int .i64 a3, .string s2] W' fun e w' => ∃ v, e = .returned (.tuple #[v, .bool by']) ∧ StrC _ w' v L ∧ Below W'.heap.size W' w') := Lib.hid (fun W' hb => by rw [← hL, ← hby]; exact svcPort_ref a3 s2 W' (HV.out.below hb) hRl6 hs2m)
  have en : (nx != nx) = false := by simp
  have eb : (bx != bx) = false := by simp
  have ey : (by' != by') = false := by simp
  have eR : (((R.length : Nat) : Int) != ((R.length : Nat) : Int)) = false := by simp
  clear hnx hbx hby hL
  go_wp2_with (first | (go_at_call 11; refine (len_any _ (HT.out.below HW.out)).mono ?_; rintro e w7 ⟨rfl, hw⟩; obtain rfl := hw) | (go_at_call 12; refine (HN1.out _ HW.out).mono ?_; rintro e w7 ⟨rfl, hb7⟩; have HW := Lib.hid (HW.out.trans (hb7.mono HW.out.size)); clear hb7) | (go_at_call 13; refine (HN2.out _ HW.out).mono ?_; rintro e w7 ⟨rfl, hb7⟩; have HW := Lib.hid (HW.out.trans (hb7.mono HW.out.size)); clear hb7) | (go_at_call 14; refine (HP1.out _ HW.out).mono ?_; rintro e w7 ⟨v7, rfl, hv7, hb7⟩; have HL1 := Lib.hid hv7; have HW := Lib.hid (HW.out.trans (hb7.mono HW.out.size)); clear hv7 hb7) | (go_at_call 15; refine (HP2.out _ HW.out).mono ?_; rintro e w7 ⟨v8, rfl, hv8, hb8⟩; have HL1 := Lib.hid (own_below HL1.out hb8); have HL2 := Lib.hid hv8; have HW := Lib.hid (HW.out.trans (hb8.mono HW.out.size)); clear hv8 hb8) | (go_at_call 16; refine (eqtexts_any _ _ _ _ _ _ HL1.out HL2.out).mono ?_; rintro e w7 ⟨rfl, q, rfl⟩; have HW := Lib.hid (bdN HW.out q)))
  clear en eb ey HN1 HN2 HP1 HP2 HL1 HL2
  go_loopw [20] (fun iv wq => ∃ k : Nat, k ≤ R.length ∧ k ≤ 20 ∧ iv = .int .i64 k ∧ Below w6.heap.size w6 wq) (fun iv _ => R.length - (intOf iv).toNat)
  case atStart => exact ⟨0, Nat.zero_le _, Nat.zero_le _, rfl, HW.out⟩
  case round =>
    obtain ⟨k, hk, hk20, rfl, hbr⟩ := hrel
    clear HW
    by_cases hlt : k < R.length ∧ k < 20
    · obtain ⟨hl1, hl2⟩ := hlt
      have hl2i : (k : Int) < 20 := by omega
      have hki : (0 : Int) ≤ (k : Int) := by omega
      have hki2 : (k : Int) < (R.length : Int) := by omega
      obtain ⟨⟨f, pn, pq⟩, hx⟩ : ∃ x, R[k]? = some x := ⟨_, List.getElem?_eq_getElem hl1⟩
      obtain ⟨hfne, hf512, hfy, hpq8⟩ := HRf.out (f, pn, pq) (List.mem_of_getElem? hx)
      simp only at hfne hf512 hfy hpq8
      obtain ⟨fl, hfl⟩ : ∃ x, f.length = x := ⟨_, rfl⟩
      obtain ⟨mf, hmf⟩ : ∃ m, fl = m + 1 := ⟨fl - 1, by have := List.length_pos_iff.2 hfne; omega⟩
      obtain ⟨y, hy⟩ : ∃ y, f[mf]? = some y := ⟨_, List.getElem?_eq_getElem (by omega)⟩
      have hyl := hfy y (List.mem_of_getElem? hy)
      obtain ⟨yb, hyb⟩ : ∃ q : ByteArray, (⟨y.toArray⟩ : ByteArray) = q := ⟨_, rfl⟩
      obtain ⟨qb, hqb⟩ : ∃ q : ByteArray, (⟨pq.toArray⟩ : ByteArray) = q := ⟨_, rfl⟩
      have HC : Hid (∃ (g c A : Nat), p6 = some ⟨g, 0, none⟩ ∧ fl ≤ c ∧ ∀ W', Below w6.heap.size w6 W' → W'.cell? ⟨g, k * 3, none⟩ = some (.slice (some ⟨A, 0, none⟩) fl c) ∧ W'.cell? ⟨g, k * 3 + 1, none⟩ = some (.int .i64 pn) ∧ W'.cell? ⟨g, k * 3 + 2, none⟩ = some (.string qb) ∧ W'.cell? ⟨A, mf, none⟩ = some (.string yb)) := Lib.hid (by
        obtain ⟨_, cap', e', _, _, hrd⟩ := HV.out.read
        cases e'
        obtain ⟨g, rfl, hgl, ⟨q, c, hc0, hst⟩, hc1, hc2⟩ := hrd k f pn pq hx
        obtain ⟨_, c', e', hfc, hfm, hrf⟩ := StrC.read hst
        cases e'
        obtain ⟨A, rfl, hAl, hcy⟩ := hrf mf y hy
        refine ⟨g, c, A, rfl, by omega, fun W' hW => ⟨?_, ?_, ?_, ?_⟩⟩
        · rw [hW.cell (p := ⟨g, k * 3, none⟩) hgl, Nat.mul_comm, ← hfl]; exact hc0
        · rw [hW.cell (p := ⟨g, k * 3 + 1, none⟩) hgl, Nat.mul_comm]; exact hc1
        · rw [hW.cell (p := ⟨g, k * 3 + 2, none⟩) hgl, Nat.mul_comm, ← hqb]; exact hc2
        · rw [hW.cell (p := ⟨A, mf, none⟩) hAl, ← hyb]; exact hcy)
      obtain ⟨g, c, A, rfl, hfc, hcells⟩ := HC.out
      have HCe := Lib.hid hcells
      have hqs : qb.size ≤ maxLen := by rw [← hqb]; show pq.toArray.size ≤ maxLen; simp; unfold maxLen; omega
      obtain ⟨nx, hnx⟩ : ∃ x, (svcN R yb.data.toList qb.data.toList).getD 0 = x := ⟨_, rfl⟩
      obtain ⟨bx, hbx⟩ : ∃ x, (svcN R yb.data.toList qb.data.toList).isSome = x := ⟨_, rfl⟩
      obtain ⟨by', hby⟩ : ∃ x, (svcP R pn (ByteArray.data ⟨#[]⟩).toList).isSome = x := ⟨_, rfl⟩
      obtain ⟨L, hL⟩ : ∃ x, (svcP R pn (ByteArray.data ⟨#[]⟩).toList).getD [] = x := ⟨_, rfl⟩
      have hLl : L.length ≤ 512 := by rw [← hL]; exact HbyP.out _ _
      have HN1 : Hid (∀ W', Below w6.heap.size w6 W' → Calls Try.prog 12 #[.pointer (some ⟨p, 0, none⟩), .string yb, .string qb] W' fun e w' => e = .returned (.tuple #[.int .i64 nx, .bool bx]) ∧ Below W'.heap.size W' w') := Lib.hid (fun W' hb => by rw [← hnx, ← hbx]; exact byName_any yb qb W' (HT.out.below hb) hqs)
      have HN2 : Hid (∀ W', Below w6.heap.size w6 W' → Calls Try.prog 13 #[.slice (some ⟨g, 0, none⟩) R.length c6, .string yb, .string qb] W' fun e w' => e = .returned (.tuple #[.int .i64 nx, .bool bx]) ∧ Below W'.heap.size W' w') := Lib.hid (fun W' hb => by rw [← hnx, ← hbx]; exact svcName_ref yb qb W' (HV.out.below hb) hRl6 HRn.out hqs)
      have HP1 : Hid (∀ W', Below w6.heap.size w6 W' → Calls Try.prog 14 #[.pointer (some ⟨p, 0, none⟩), .int .i64 pn, .string ⟨#[]⟩] W' fun e w' => ∃ v, e = .returned (.tuple #[v, .bool by']) ∧ StrC W'.heap.size w' v L ∧ Below W'.heap.size W' w') := Lib.hid (fun W' hb => by rw [← hL, ← hby]; exact byPort_any pn ⟨#[]⟩ W' (HT.out.below hb) (by decide) (by have := HbyP.out pn (ByteArray.data ⟨#[]⟩).toList; omega))
      have HP2 : Hid (∀ W', Below w6.heap.size w6 W' → Calls Try.prog 15 #[.slice (some ⟨g, 0, none⟩) R.length c6, .int .i64 pn, .string ⟨#[]⟩] W' fun e w' => ∃ v, e = .returned (.tuple #[v, .bool by']) ∧ StrC _ w' v L ∧ Below W'.heap.size W' w') := Lib.hid (fun W' hb => by rw [← hL, ← hby]; exact svcPort_ref pn ⟨#[]⟩ W' (HV.out.below hb) hRl6 (by decide))
      have en : (nx != nx) = false := by simp
      have eb : (bx != bx) = false := by simp
      have ey : (by' != by') = false := by simp
      have HW := Lib.hid hbr
      have hm1 : (0 : Int) ≤ (mf : Int) := by omega
      have hm2 : (fl : Int) - 1 = (mf : Int) := by omega
      have hm3 : (mf : Int) < (fl : Int) := by omega
      have hm4 : fl ≤ 512 := by omega
      have hm5 : (fl : Int) ≤ 512 := by omega
      have hw1 : IntKind.i64.wrap (mf : Int) = (mf : Int) := by simp [IntKind.wrap, IntKind.bits, IntKind.signed, IntKind.min, IntKind.max]; omega
      clear hnx hbx hby hL hbr hx hfne hf512 hfy hpq8 hy hyl hyb hqb hcells hqs hmf hfl
      obtain ⟨r0, r1, r2, r3⟩ := HCe.out _ HW.out
      go_upto_region 19 with (fail)
      go_region_held3 (fun w' => Below w6.heap.size w6 w' ∧ w'.cell? ⟨g, k * 3, none⟩ = some (.slice (some ⟨A, 0, none⟩) fl c) ∧ w'.cell? ⟨g, k * 3 + 2, none⟩ = some (.string qb) ∧ w'.cell? ⟨A, mf, none⟩ = some (.string yb)) (first | exact ⟨HW.out, (HCe.out _ HW.out).1, (HCe.out _ HW.out).2.2⟩ | exact ⟨HW.out.drew, (HCe.out _ HW.out.drew).1, (HCe.out _ HW.out.drew).2.2⟩) (first | (go_at_call 12; refine (HN1.out _ HW.out.drew).mono ?_; rintro e w7 ⟨rfl, hb7⟩; have HW := Lib.hid (HW.out.drew.trans (hb7.mono HW.out.drew.size)); clear hb7))
      clear r0 r1 r2 r3
      go_upto_region 20 with (fail)
      go_region_held3 (fun w' => Below w6.heap.size w6 w' ∧ w'.cell? ⟨g, k * 3, none⟩ = some (.slice (some ⟨A, 0, none⟩) fl c) ∧ w'.cell? ⟨g, k * 3 + 2, none⟩ = some (.string qb) ∧ w'.cell? ⟨A, mf, none⟩ = some (.string yb)) (first | exact ⟨HW.out, (HCe.out _ HW.out).1, (HCe.out _ HW.out).2.2⟩ | exact ⟨HW.out.drew, (HCe.out _ HW.out.drew).1, (HCe.out _ HW.out.drew).2.2⟩) (first | (go_at_call 13; refine (HN2.out _ HW.out.drew).mono ?_; rintro e w8 ⟨rfl, hb7⟩; have HW := Lib.hid (HW.out.drew.trans (hb7.mono HW.out.drew.size)); clear hb7))
      have r1 := (HCe.out _ HW.out).2.1
      go_upto_region 22 with (go_at_call 14; refine (HP1.out _ HW.out).mono ?_; rintro e w9 ⟨v9, rfl, hv9, hb9⟩; have HL1 := Lib.hid hv9; have HW := Lib.hid (HW.out.trans (hb9.mono HW.out.size)); clear hv9 hb9; have r1 := (HCe.out _ HW.out).2.1)
      go_wp2_with (first | (go_at_call 15; refine (HP2.out _ HW.out).mono ?_; rintro e w10 ⟨v10, rfl, hv10, hb10⟩; have HL1 := Lib.hid (own_below HL1.out hb10); have HL2 := Lib.hid hv10; have HW := Lib.hid (HW.out.trans (hb10.mono HW.out.size)); clear hv10 hb10) | (go_at_call 16; refine (eqtexts_any _ _ _ _ _ _ HL1.out HL2.out).mono ?_; rintro e w11 ⟨rfl, q, rfl⟩; have HW := Lib.hid (bdN HW.out q)))
      all_goals
        go_roundw
        case rel => exact ⟨k + 1, hl1, hl2, by go_num, HW.out⟩
        case measure => simp [intOf]; omega
    · have HBr := Lib.hid hbr
      clear hbr
      by_cases h1 : k < R.length
      · have h2 : ¬ (k : Int) < 20 := by omega
        have h1i : (k : Int) < (R.length : Int) := by omega
        go_wp2
        go_ret
        exact ⟨rfl, HWh.out.trans (HBr.out.mono HWh.out.size)⟩
      · have h1i : ¬ (k : Int) < (R.length : Int) := by omega
        go_wp2
        go_ret
        exact ⟨rfl, HWh.out.trans (HBr.out.mono HWh.out.size)⟩
end Go.Proofs.Ytmnahgeledddhaa
