/- Contracts: slices.Clone at texts and at files that an answer hangs on; the document's EqTexts, EqDeps, EqAnswer at equal ones. -/
import Derived.Test.YtpdkjifalgeodaaSq
namespace Go.Proofs.Ytpdkjifalgeodaa
open Go.RowKit Go.Extern.Stop Go.Stop Go.Extern Go.Lib Go.Tx
theorem bytes_of (ws : List (List UInt8)) : ws.map strV = (ws.map fun l => (⟨l.toArray⟩ : ByteArray)).map Value.string := by
  rw [List.map_map]; rfl
theorem cloneS_any (B : Nat) (v : Value) (ws : List (List UInt8)) (w : World) (h : StrC B w v ws) (hn : ws.length ≤ 1000000) :
    Calls Try.prog 35 #[v] w fun e w' => ∃ v', e = .returned v' ∧ StrC w.heap.size w' v' ws ∧ Below w.heap.size w w' := by
  rcases h.2 with ⟨rfl, h0⟩ | ⟨g, cap, cur, rfl, a2, a3, a4, a5, _⟩
  · have : ws = [] := List.eq_nil_of_length_eq_zero h0
    subst this
    refine (Try.slices_Clone_string_nil 0 0 w).mono ?_
    rintro e w' ⟨he, rfl⟩
    exact ⟨_, he, World.ownsRow_nil _ _ _ _, Below.refl _ _⟩
  · have hz : ws.length ≤ (ws.map fun l => (⟨l.toArray⟩ : ByteArray)).length := by simp
    refine (Try.slices_Clone_string g 0 ws.length cap (ws.map fun l => (⟨l.toArray⟩ : ByteArray)) w hz (by omega) (fun j hj => ?_)).mono ?_
    · rw [List.length_map] at hj
      rw [Nat.zero_add, World.ownsRow.cellAt h j (by omega), List.getElem?_map]
      rw [List.getD_eq_getElem?_getD, List.getElem?_map, List.getElem?_eq_getElem hj]
      rfl
    · rintro e w' ⟨v', he, hr, _, hb⟩
      refine ⟨v', he, ?_, hb⟩
      unfold StrC
      rw [bytes_of]
      rwa [List.take_of_length_le (by simp)] at hr
/-! ### Files that an answer hangs on. -/
def depC (ds : List (ByteArray × Int)) : List Value := ds.flatMap fun x => [.string x.1, .int .i64 x.2]
theorem depC_len : ∀ ds : List (ByteArray × Int), (depC ds).length = ds.length * 2
  | [] => rfl
  | x :: ds => by show (depC ds).length + 1 + 1 = _; rw [depC_len ds, List.length_cons]; omega
theorem depC_at0 : ∀ (ds : List (ByteArray × Int)) (j : Nat) x, ds[j]? = some x → (depC ds)[j * 2]? = some (.string x.1)
  | [], j, x, h => by simp at h
  | y :: ds, 0, x, h => by simp at h; subst h; rfl
  | y :: ds, j + 1, x, h => by
    rw [show (j + 1) * 2 = j * 2 + 1 + 1 from by omega]
    show (Value.string y.1 :: .int .i64 y.2 :: depC ds)[j * 2 + 1 + 1]? = _
    rw [List.getElem?_cons_succ, List.getElem?_cons_succ]
    exact depC_at0 ds j x (by simpa using h)
theorem depC_at1 : ∀ (ds : List (ByteArray × Int)) (j : Nat) x, ds[j]? = some x → (depC ds)[j * 2 + 1]? = some (.int .i64 x.2)
  | [], j, x, h => by simp at h
  | y :: ds, 0, x, h => by simp at h; subst h; rfl
  | y :: ds, j + 1, x, h => by
    rw [show (j + 1) * 2 + 1 = (j * 2 + 1) + 1 + 1 from by omega]
    show (Value.string y.1 :: .int .i64 y.2 :: depC ds)[j * 2 + 1 + 1 + 1]? = _
    rw [List.getElem?_cons_succ, List.getElem?_cons_succ]
    exact depC_at1 ds j x (by simpa using h)
theorem depC_one : ∀ (ds : List (ByteArray × Int)) (u : Value), u ∈ depC ds → u.oneCell' = true
  | [], u, h => by cases h
  | y :: ds, u, h => by
    rcases List.mem_cons.1 h with rfl | h
    · rfl
    · rcases List.mem_cons.1 h with rfl | h
      · rfl
      · exact depC_one ds u h
/-- A slice of such files that reads as these. -/
def DepS (w : World) (p : Option Addr) (n c : Nat) (ds : List (ByteArray × Int)) : Prop := ds.length = n ∧ n ≤ c ∧ c ≤ maxLen ∧ (p = none → c = 0) ∧ (0 < n → ∃ b off, p = some ⟨b, off, none⟩ ∧ b < w.heap.size ∧ ∀ (j : Nat) u, (depC ds)[j]? = some u → w.cell? ⟨b, off + j, none⟩ = some u)
theorem DepS.same {w w' : World} {p : Option Addr} {n c : Nat} {ds : List (ByteArray × Int)} (h : DepS w p n c ds) (hb : 0 < n → ∀ a, p = some a → w'.heap[a.block]? = w.heap[a.block]?) (hs : w.heap.size ≤ w'.heap.size) : DepS w' p n c ds := by
  obtain ⟨h1, h2, h3, h5, h4⟩ := h
  refine ⟨h1, h2, h3, h5, fun hn => ?_⟩
  obtain ⟨b, off, e, hl, hc⟩ := h4 hn
  refine ⟨b, off, e, by omega, fun j u hj => ?_⟩
  rw [World.cell?_of_block (w := w) (w' := w') (a := ⟨b, off + j, none⟩) (hb hn ⟨b, off, none⟩ e)]
  exact hc j u hj
theorem DepS.below {w w' : World} {p : Option Addr} {n c : Nat} {ds : List (ByteArray × Int)} (h : DepS w p n c ds) (hb : Below w.heap.size w w') : DepS w' p n c ds := by
  obtain ⟨h1, h2, h3, h5, h4⟩ := h
  refine ⟨h1, h2, h3, h5, fun hn => ?_⟩
  obtain ⟨b, off, e, hl, hc⟩ := h4 hn
  refine ⟨b, off, e, Nat.lt_of_lt_of_le hl hb.size, fun j u hj => ?_⟩
  rw [hb.cell (p := ⟨b, off + j, none⟩) hl]
  exact hc j u hj
theorem infoDep : (Try.prog.info? 95).map (fun i => (i.zero, i.size, i.bytes)) = some (some (.agg #[.string ⟨#[]⟩, .int .i64 0]), 2, 24) := by kernel_rfl
theorem depsE (a : Option Addr) (n c : Nat) (w : World) : (binOp .eql 26 (.slice a n c) (.slice none 0 0)).run Try.prog w = .ok (.bool a.isNone) w := Lib.run_eql_slice_nil w _ _ a n c 0 0 Try.underlying26
theorem own_two {w : World} {B : Nat} {e : TypeId} {n : Nat} {v : Value} {xs : List Value} (h : w.ownsRow B e 2 v n xs) : ∃ p c, v = .slice p n c ∧ n ≤ c ∧ c ≤ maxLen ∧ (p = none → c = 0) ∧ (0 < n → ∃ g, p = some ⟨g, 0, none⟩ ∧ B ≤ g ∧ g < w.heap.size ∧ ∀ (j : Nat) u, xs[j]? = some u → w.cell? ⟨g, 0 + j, none⟩ = some u) := by
  rcases h.2 with ⟨rfl, h0⟩ | ⟨g, cap, cur, rfl, a2, a3, a4, a5, a6, a7⟩
  · subst h0
    exact ⟨none, 0, rfl, Nat.le_refl _, by unfold maxLen; omega, fun _ => rfl, fun h => absurd h (by decide)⟩
  · refine ⟨_, cap, rfl, a4, a5, (fun h => by cases h), fun _ => ⟨g, rfl, a2, lt_of a3, fun j u hj => ?_⟩⟩
    have hlt := (List.getElem?_eq_some_iff.1 hj).1
    refine cellJ a3 ?_
    rw [Nat.zero_add, ← Array.getElem?_toList]
    rw [← a7, List.getElem?_take] at hj
    split at hj
    · exact hj
    · cases hj
set_option maxHeartbeats 1000000 in
set_option maxRecDepth 100000 in
theorem cloneD_any (p : Option Addr) (n c : Nat) (ds : List (ByteArray × Int)) (w : World) (h : DepS w p n c ds) (hn : n ≤ 1000) :
    Calls Try.prog 36 #[.slice p n c] w fun e w' => ∃ p' c', e = .returned (.slice p' n c') ∧ DepS w' p' n c' ds ∧ (0 < n → ∃ g, p' = some ⟨g, 0, none⟩ ∧ w.heap.size ≤ g) ∧ Below w.heap.size w w' := by
  obtain ⟨i0, hi, hz0, hz1, hz2⟩ := info_parts infoDep
  have q := depsE
  cases p with
  | none =>
    obtain ⟨h1, h2, h3, h4, _⟩ := h
    obtain rfl : c = 0 := h4 rfl
    obtain rfl : n = 0 := by omega
    have HD := Lib.hid h1
    clear h1 h2 h3 h4
    go_enter Try.func36, Try.ntmps36
    go_wp2
    go_ret
    exact ⟨none, 0, rfl, ⟨HD.out, Nat.le_refl _, by unfold maxLen; omega, fun _ => rfl, fun h => absurd h (by decide)⟩, (fun h => absurd h (by decide)), Below.refl _ _⟩
  | some ad =>
    have HD := Lib.hid h
    have hl : (depC ds).length = n * 2 := by rw [depC_len, h.1]
    have hcl : ∀ j u, (depC ds)[j]? = some u → w.cell? (ad.add j) = some u := fun j u hj => by
      have h0 : 0 < n := by have := (List.getElem?_eq_some_iff.1 hj).1; omega
      obtain ⟨b, off, e, _, hc⟩ := h.2.2.2.2 h0
      cases e
      rw [Addr.add_mid]
      exact hc j u hj
    have h1 := depC_one ds
    have HL := Lib.hid hl
    have HC : Hid (∀ j u, (depC ds)[j]? = some u → (w.alloc (.cells #[] 95)).cell? (ad.add j) = some u) := Lib.hid (fun j u hj => by
      have q1 := hcl j u hj
      have hlt : (ad.add j).block < w.heap.size := by
        unfold World.cell? at q1
        split at q1
        · rename_i hh; exact lt_of hh
        · cases q1
      rw [(al_bel w (.cells #[] 95)).cell hlt]
      exact q1)
    have H1 := Lib.hid h1
    clear h hl hcl h1
    obtain ⟨news, hnews⟩ : ∃ l, l = depC ds := ⟨_, rfl⟩
    have HNw := Lib.hid hnews
    rw [← hnews] at HL HC H1
    clear hnews
    go_enter Try.func36, Try.ntmps36
    go_wp2_with (at_builtin; refine wpList_append_own _ rfl _ _ 26 rfl w.heap.size 95 i0 (.agg #[.string ⟨#[]⟩, .int .i64 0]) 2 24 Try.underlying26 hi hz0 hz1 hz2 rfl (by decide) _ _ _ rfl (World.ownsRow_made w #[] 0 (Nat.le_refl _) (Nat.zero_le _) rfl) ad n c news rfl HL.out HC.out H1.out (by unfold maxLen; omega) (by omega) (by rw [al_size]; omega) ?_; intro v' w1 hown hgrow hnil; have HO := Lib.hid hown; have HG := Lib.hid hgrow; clear hown hgrow hnil)
    go_ret
    have ho := HO.out
    rw [Nat.zero_add, List.nil_append] at ho
    obtain ⟨p', c', rfl, g1, g2, g3, g4⟩ := own_two ho
    refine ⟨p', c', rfl, ⟨HD.out.1, g1, g2, g3, fun h0 => ?_⟩, fun h0 => ?_, ((Below.refl _ w).alloc (Nat.le_refl _) _).grown HG.out (by rw [al_size]; omega) (fun k hk => by cases hk; exact Nat.le_refl _)⟩
    · obtain ⟨g, e, _, hl, hc⟩ := g4 h0
      exact ⟨g, 0, e, hl, fun j u hj => hc j u (by rw [HNw.out]; exact hj)⟩
    · obtain ⟨g, e, hb, _⟩ := g4 h0
      exact ⟨g, e, hb⟩
/-! ### The document's comparisons. -/
set_option maxHeartbeats 1000000 in
set_option maxRecDepth 100000 in
theorem eqtexts_any (v1 v2 : Value) (ws : List (List UInt8)) (B1 B2 : Nat) (w : World) (h1 : StrC B1 w v1 ws) (h2 : StrC B2 w v2 ws) :
    Calls Try.prog 22 #[v1, v2] w fun e w' => e = .returned (.bool true) ∧ ∃ q, w' = w.drewN q := by
  obtain ⟨p1, c1, rfl, hc1, hm1, hr1⟩ := h1.read
  obtain ⟨p2, c2, rfl, hc2, hm2, hr2⟩ := h2.read
  have H1 := Lib.hid hr1
  have H2 := Lib.hid hr2
  obtain ⟨n, hn⟩ : ∃ n, ws.length = n := ⟨_, rfl⟩
  rw [hn] at hc1 hc2 ⊢
  have HN := Lib.hid hn
  clear hr1 hr2 h1 h2 hn
  go_enter Try.func22, Try.ntmps22
  go_wp2
  go_loopw [5] (fun i wr => ∃ k q, k ≤ n ∧ i = .int .i64 (k : Nat) ∧ wr = w.drewN q) (fun i _ => n - (intOf i).toNat)
  case atStart => exact ⟨0, 0, Nat.zero_le _, rfl, rfl⟩
  case round =>
    obtain ⟨k, q, hk, rfl, rfl⟩ := hrel
    by_cases hlt : k < n
    · obtain ⟨l, hl⟩ : ∃ l, ws[k]? = some l := ⟨_, List.getElem?_eq_getElem (by rw [HN.out]; exact hlt)⟩
      obtain ⟨g1, rfl, -, hcell1⟩ := H1.out k l hl
      obtain ⟨g2, rfl, -, hcell2⟩ := H2.out k l hl
      clear hl
      go_wp2
      go_quiet (fail)
      go_wp2
      go_roundw
      case rel => exact ⟨k + 1, _, hlt, by go_num, rfl⟩
      case measure => simp [intOf]; omega
    · go_wp2
      go_ret
      exact ⟨rfl, q, rfl⟩
set_option maxHeartbeats 2000000 in
set_option maxRecDepth 100000 in
theorem eqdeps_any (p1 p2 : Option Addr) (n c1 c2 : Nat) (ds : List (ByteArray × Int)) (w : World) (h1 : DepS w p1 n c1 ds) (h2 : DepS w p2 n c2 ds) :
    Calls Try.prog 17 #[.slice p1 n c1, .slice p2 n c2] w fun e w' => e = .returned (.bool true) ∧ ∃ q, w' = w.drewN q := by
  have hm1 : n ≤ 9223372036854775807 := by have := h1.2.1; have := h1.2.2.1; unfold maxLen at this; omega
  have H1 := Lib.hid h1
  have H2 := Lib.hid h2
  clear h1 h2
  go_enter Try.func17, Try.ntmps17
  go_wp2
  go_loopw [5] (fun i wr => ∃ k q, k ≤ n ∧ i = .int .i64 (k : Nat) ∧ wr = w.drewN q) (fun i _ => n - (intOf i).toNat)
  case atStart => exact ⟨0, 0, Nat.zero_le _, rfl, rfl⟩
  case round =>
    obtain ⟨k, q, hk, rfl, rfl⟩ := hrel
    by_cases hlt : k < n
    · obtain ⟨x, hx⟩ : ∃ x, ds[k]? = some x := ⟨_, List.getElem?_eq_getElem (by rw [H1.out.1]; exact hlt)⟩
      obtain ⟨b1, o1, rfl, _, hq1⟩ := H1.out.2.2.2.2 (by omega)
      obtain ⟨b2, o2, rfl, _, hq2⟩ := H2.out.2.2.2.2 (by omega)
      have u0 : w.cell? ⟨b1, o1 + k * 2, none⟩ = some (.string x.1) := hq1 _ _ (depC_at0 ds k x hx)
      have u1 : w.cell? ⟨b1, o1 + k * 2 + 1, none⟩ = some (.int .i64 x.2) := hq1 (k * 2 + 1) _ (depC_at1 ds k x hx)
      have t0 : w.cell? ⟨b2, o2 + k * 2, none⟩ = some (.string x.1) := hq2 _ _ (depC_at0 ds k x hx)
      have t1 : w.cell? ⟨b2, o2 + k * 2 + 1, none⟩ = some (.int .i64 x.2) := hq2 (k * 2 + 1) _ (depC_at1 ds k x hx)
      clear hq1 hq2 hx
      go_wp2
      go_quiet (fail)
      go_wp2
      go_roundw
      case rel => exact ⟨k + 1, _, hlt, by go_num, rfl⟩
      case measure => simp [intOf]; omega
    · go_wp2
      go_ret
      exact ⟨rfl, q, rfl⟩
theorem drewN_bel (w : World) : ∀ q, Below w.heap.size w (w.drewN q) := fun q => ⟨rfl, rfl, rfl, Nat.le_refl _, fun _ _ => rfl⟩
set_option maxHeartbeats 1000000 in
set_option maxRecDepth 100000 in
theorem eqans_any (v1 v2 u1 u2 : Value) (ns as_ : List (List UInt8)) (B1 B2 C1 C2 : Nat) (po li : Int) (w : World) (h1 : StrC B1 w v1 ns) (h2 : StrC B2 w u1 ns) (h3 : StrC C1 w v2 as_) (h4 : StrC C2 w u2 as_) :
    Calls Try.prog 16 #[.agg #[v1, v2, .int .i64 po, .int .i64 li], .agg #[u1, u2, .int .i64 po, .int .i64 li]] w fun e w' => e = .returned (.bool true) ∧ Below w.heap.size w w' := by
  obtain ⟨p1, c1, rfl⟩ := h1.shape
  obtain ⟨p2, c2, rfl⟩ := h2.shape
  obtain ⟨p3, c3, rfl⟩ := h3.shape
  obtain ⟨p4, c4, rfl⟩ := h4.shape
  have HN : Hid (∀ W, Below w.heap.size w W → Calls Try.prog 22 #[.slice p1 ns.length c1, .slice p2 ns.length c2] W fun e w' => e = .returned (.bool true) ∧ ∃ q, w' = W.drewN q) := Lib.hid (fun W hW => eqtexts_any _ _ ns B1 B2 W (own_below h1 hW) (own_below h2 hW))
  have HA : Hid (∀ W, Below w.heap.size w W → Calls Try.prog 22 #[.slice p3 as_.length c3, .slice p4 as_.length c4] W fun e w' => e = .returned (.bool true) ∧ ∃ q, w' = W.drewN q) := Lib.hid (fun W hW => eqtexts_any _ _ as_ C1 C2 W (own_below h3 hW) (own_below h4 hW))
  generalize ns.length = n1 at *
  generalize as_.length = n2 at *
  clear h1 h2 h3 h4
  obtain ⟨W, hW, hA, hB, hz, hb⟩ := two_new w (.cells #[.slice p1 n1 c1, .slice p3 n2 c3, .int .i64 po, .int .i64 li] 25) (.cells #[.slice p2 n1 c2, .slice p4 n2 c4, .int .i64 po, .int .i64 li] 25)
  have a0 := cellJ hA (j := 0) rfl
  have a1 := cellJ hA (j := 1) rfl
  have a2 := cellJ hA (j := 2) rfl
  have a3 := cellJ hA (j := 3) rfl
  have b0 := cellJ hB (j := 0) rfl
  have b1 := cellJ hB (j := 1) rfl
  have b2 := cellJ hB (j := 2) rfl
  have b3 := cellJ hB (j := 3) rfl
  have HB := Lib.hid hb
  clear hA hB hz hb
  go_enter Try.func16, Try.ntmps16
  go_upto_region 1 with (fail)
  clear hW
  go_wp2_with (go_at_call 22; first | (with_reducible refine (HN.out _ ?_).mono ?_; exact HB.out; rintro e w2 ⟨rfl, q1, rfl⟩) | (with_reducible refine (HA.out _ ?_).mono ?_; exact HB.out.trans ((drewN_bel _ _).mono HB.out.size); rintro e w3 ⟨rfl, q2, rfl⟩))
  go_ret
  exact ⟨rfl, HB.out.trans ((drewN_bel _ _).mono HB.out.size)⟩
end Go.Proofs.Ytpdkjifalgeodaa
