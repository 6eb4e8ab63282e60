/- Contracts and plain facts that the law leans on. -/
import Derived.Test.YtaaiicfclaeapaaWaCc
import Derived.Deep.RegionLaw
import Derived.Deep.RegionWith
import Derived.Deep.RegionHeld3
import Derived.Deep.QuietTactic
import Derived.BigQuiet
namespace Go.Proofs.Ytaaiicfclaeapaa
open Go.RowKit Go.Mp Go.Rb Go.Lib
theorem DKX.weaken {X : Nat → Prop} {w : World} {b B B' K : Nat} {c : Value × Value × Value × Value × Value} {syn : Nat} {F : ByteArray → List UInt8} {UL : List (ByteArray × List UInt8)} (h : DKX X w b B K c syn F UL) (hB : B' ≤ B) : DKX X w b B' K c syn F UL := by
  obtain ⟨mp, D, V, p, cap, hd, hx⟩ := h
  exact ⟨mp, D, V, p, cap, hd.weaken hB, hx⟩
section
variable {b B K : Nat} {now stamp : Int} {sent streams : Value} {syn : Nat} {F : ByteArray → List UInt8} {UL : List (ByteArray × List UInt8)}
theorem wcut_x {w : World} {mp0 : Option Nat} (h : DKS w b B K (.int .i64 now, .int .i64 stamp, .map mp0, sent, streams) syn F UL) (hm0 : ∀ m, mp0 = some m → ∃ es cl, w.heap[m]? = some (.map es cl)) (n : Int) (hn : -9223372036854775808 ≤ n ∧ n ≤ 9223372036854775807) (hsyn : syn ≤ 100000) (hU : UL.length ≤ 100000) (hK : K ≤ 1000000)
    (hlen : ∀ k t, t.size ≤ maxLen → ((fstB (UL.drop k) t).getD (F t)).length ≤ 1000000) (N : Nat) (hN : min (max n (syn : Int)) ((syn : Int) + (UL.length : Int)) = (N : Int)) :
    Calls Try.prog 23 #[.pointer (some ⟨b, 0, none⟩), .int .i64 n] w fun e w' => ∃ bn mp', e = .returned (.pointer (some ⟨bn, 0, none⟩)) ∧ w.heap.size ≤ bn ∧ (mp' = none ↔ mp0 = none) ∧ (∀ m, mp0 = some m → mp' = some w.heap.size ∧ bn ≠ w.heap.size ∧ w'.heap[w.heap.size]? = w.heap[m]?) ∧
      (∀ Y : Nat → Prop, (∀ k, Y k → k < w.heap.size ∨ mp' = some k) → DKX Y w' bn w.heap.size K (.int .i64 now, .int .i64 stamp, .map mp', .slice none 0 0, .slice none 0 0) N (fun t => (fstB (UL.drop (N - syn)) t).getD (F t)) []) ∧ Below w.heap.size w w' := by
  cases mp0 with
  | none =>
    refine (wcut_dks h n hn hsyn hU hK hlen N hN).mono ?_
    rintro e w' ⟨bn, he, hb, hd, hbl⟩
    refine ⟨bn, none, he, hb, by simp, (fun m e => by cases e), fun Y hY => DKX.of hd (fun k hk => ?_), hbl⟩
    rcases hY k hk with h | h
    · exact h
    · cases h
  | some m =>
    obtain ⟨es, cl, hm⟩ := hm0 m rfl
    obtain ⟨mp, D, V, p, cap, h⟩ := h
    refine (wcut_some h hm n hn hsyn (h.len ▸ hU) hK (fun t => (fstB (UL.drop (N - syn)) t).getD (F t)) N (fun t ht _ => ⟨h.ahead _ t ht, hlen _ t ht⟩) (h.len ▸ hN)).mono ?_
    rintro e w' ⟨bn, mf, D', he, hb, hw, hm', ⟨left, hO, hl⟩, hbl, hmap⟩
    have hdi : DI w' bn (w.heap.size + 1) K (.int .i64 now, .int .i64 stamp, .map (some w.heap.size), .slice none 0 0, .slice none 0 0) (some mf) D' N [] none 0 (fun t => (fstB (UL.drop (N - syn)) t).getD (F t)) [] := (OutD.di hw hb hm' hO hl).congr (fun s hs => by
      cases hx : Go.Maps.has D (keyL s) with
      | true => simp
      | false => simpa using h.ahead_none (N - syn) s hs hx)
    refine ⟨bn, some w.heap.size, he, by omega, by simp, fun m' e => ⟨rfl, by omega, ?_⟩, fun Y hY => DKX.weaken (DKX.of (B := w.heap.size + 1) ⟨_, _, _, _, _, hdi⟩ (fun k hk => ?_)) (Nat.le_succ _), hbl⟩
    · cases e
      rw [hmap, hm]
    · rcases hY k hk with h | h
      · omega
      · cases h; omega
end
end Go.Proofs.Ytaaiicfclaeapaa

namespace Go.Proofs.Ytaaiicfclaeapaa
open Go.RowKit Go.Mp Go.Rb Go.Lib
set_option maxRecDepth 100000 in
theorem now_x {w : World} {b : Nat} {c0 : Value} {st : Int} {mp : Option Nat} {c3 c4 c5 c6 c7 : Value} (hh : W8 w b c0 st mp c3 c4 c5 c6 c7) :
    Calls Try.prog 41 #[.pointer (some ⟨b, 0, none⟩)] w fun e w' => e = .returned c0 ∧ w' = w := by
  have k0 : w.cell? ⟨b, 0, none⟩ = some c0 := by unfold W8 at hh; simp [World.cell?, hh]
  clear hh
  go_enter Try.func41, Try.ntmps41
  go_wp2
  go_ret
  exact ⟨rfl, rfl⟩
end Go.Proofs.Ytaaiicfclaeapaa

namespace Go.Proofs.Ytaaiicfclaeapaa
open Go.RowKit Go.Mp Go.Rb Go.Lib
theorem dgC_at : ∀ (M : List (DgT × Value)) (i j : Nat) (x : DgT × Value), M[i]? = some x → j < 3 → (M.flatMap dgC)[i * 3 + j]? = (dgC x)[j]?
  | [], i, j, x, h, _ => by simp at h
  | y :: M, 0, j, x, h, hj => by
    simp at h
    subst h
    rw [List.flatMap_cons, List.getElem?_append_left (by simp [dgC]; omega)]
    simp
  | y :: M, i + 1, j, x, h, hj => by
    have h' : M[i]? = some x := by simpa using h
    rw [List.flatMap_cons, List.getElem?_append_right (by simp [dgC]; omega)]
    have e : (i + 1) * 3 + j - (dgC y).length = i * 3 + j := by simp [dgC]; omega
    rw [e]
    exact dgC_at M i j x h' hj
theorem dgC_len (M : List (DgT × Value)) : (M.flatMap dgC).length = M.length * 3 := by
  induction M with
  | nil => rfl
  | cons x M ih => simp [dgC, ih]; omega
theorem set3 (A : List Value) (k : Nat) (hk : A.length = k) (z0 z1 z2 u0 u1 u2 : Value) (zs : List Value) : (((A ++ z0 :: z1 :: z2 :: zs).set k u0).set (k + 1) u1).set (k + 2) u2 = (A ++ [u0, u1, u2]) ++ zs := by
  subst hk
  rw [List.set_append_right _ _ (Nat.le_refl _), List.set_append_right _ _ (by omega), List.set_append_right _ _ (by omega)]
  simp
/-- The copy, as far as number i. -/
def SentAt (w wr : World) (gm n : Nat) (L : List DgT) (i : Nat) : Prop :=
  ∃ (M : List (DgT × Value)) (zs : List Value), M.map (·.1) = L.take i ∧ M.length = i ∧ wr.ownsRow w.heap.size 42 3 (.slice (some ⟨gm, 0, none⟩) n n) n (M.flatMap dgC ++ zs) ∧ zs.length = (n - i) * 3 ∧ (∀ x ∈ M, ∃ (a : Option Addr) (n c : Nat), x.2 = .slice a n c ∧ RB w.heap.size wr (.slice a n c) x.1.2.2)
set_option maxHeartbeats 4000000 in
set_option maxRecDepth 100000 in
theorem sent_x {S : Nat → Prop} {w : World} {b : Nat} {c0 : Value} {st : Int} {mp : Option Nat} {v c4 c5 c6 c7 : Value} {L : List DgT} {M : List (DgT × Value)} (hh : W8 w b c0 st mp v c4 c5 c6 c7) (hs : DgsIn S w v L M) (hL : L.length ≤ 1000) (hl : ∀ x ∈ L, x.2.2.length ≤ 1000000) :
    Calls Try.prog 27 #[.pointer (some ⟨b, 0, none⟩)] w fun e w' => ∃ gm, e = .returned (.slice (some ⟨gm, 0, none⟩) L.length L.length) ∧ SentAt w w' gm L.length L L.length ∧ Below w.heap.size w w' := by
  obtain ⟨p, cap, hv⟩ : ∃ p cap, v = .slice p L.length cap := by
    rcases hs.row.2 with ⟨e, e2⟩ | ⟨g, cap, cur, e, _⟩
    · exact ⟨none, 0, by rw [e, e2]⟩
    · exact ⟨_, _, e⟩
  subst hv
  have hbl := hh.lt
  have HH := Lib.hid hh
  have HS := Lib.hid hs
  obtain ⟨nL, hnL⟩ : ∃ nL, L.length = nL := ⟨_, rfl⟩
  have HnL := Lib.hid hnL
  obtain ⟨ib, hi, hz0, hz1, hz2⟩ := info_parts' infoDg
  have hcell : ∀ W, Below w.heap.size w W → W.cell? ⟨b, 3, none⟩ = some (.slice p nL cap) := fun W hW => by
    have h2 := (hW.block b hbl).trans hh
    rw [← hnL]
    simp [World.cell?, h2]
  have k3 := hcell w (Below.refl _ _)
  obtain ⟨w1, hmk, hown1, hg1⟩ := run_makeSlice_full w w.heap.size 28 42 ib _ 3 Try.underlying28 hi hz0 hz1 .i64 .i64 nL (by omega) (by rw [hz2]; omega) (by unfold maxLen; omega) (Nat.le_refl _)
  have hb1 : Below w.heap.size w w1 := ⟨hg1.os, hg1.tape, hg1.output, hg1.size, fun k hk => hg1.block k hk (by simp)⟩
  have k31 := hcell w1 hb1
  have HB1 := Lib.hid hb1
  have HO1 : Hid (SentAt w w1 w.heap.size nL L 0) := Lib.hid ⟨[], _, by simp, rfl, hown1, by have := hown1.1; simpa using this, fun x hx => by simp at hx⟩
  clear hh hs hown1 hg1 hb1 hcell
  rw [hnL]
  rw [hnL] at hL
  go_enter Try.func27, Try.ntmps27
  go_wp2
  go_loopw [19] (fun iv wr => ∃ i : Nat, i ≤ nL ∧ iv = .int .i64 i ∧ SentAt w wr w.heap.size nL L i ∧ Below w.heap.size w wr) (fun iv _ => nL - (intOf iv).toNat)
  case atStart => exact ⟨0, Nat.zero_le _, rfl, HO1.out, HB1.out⟩
  case round =>
    obtain ⟨i, hin, rfl, hA, hB⟩ := hrel
    have HA := Lib.hid hA
    have HB := Lib.hid hB
    by_cases hlt : i < nL
    · obtain ⟨Mi, zs, hm1, hm2, hrow, hzl, hat⟩ := hA
      have hSo := HS.out
      obtain ⟨x, hx⟩ : ∃ x, M[i]? = some x := ⟨_, List.getElem?_eq_getElem (by have := congrArg List.length hSo.map; simp at this; have := HnL.out; omega)⟩
      have hLx : L[i]? = some x.1 := by rw [← hSo.map, List.getElem?_map, hx]; rfl
      obtain ⟨a0, n0, cp0, hxv, hr0, _⟩ := hSo.at_ x (List.mem_iff_getElem?.2 ⟨i, hx⟩)
      obtain ⟨g, rfl⟩ : ∃ g, p = some ⟨g, 0, none⟩ := by
        rcases hSo.row.2 with ⟨e, e2⟩ | ⟨g, cap, cur, e, _⟩
        · have := HnL.out; omega
        · exact ⟨g, by injection e⟩
      have hgl : g < w.heap.size := (hSo.row.lt g rfl).2
      have src : ∀ j, j < 3 → w.cell? ⟨g, i * 3 + j, none⟩ = (dgC x)[j]? := fun j hj => by
        rw [hSo.row.cellAt (i * 3 + j) (by rw [HnL.out]; omega), dgC_at M i j x hx hj]
      have s0 : wr.cell? ⟨g, i * 3, none⟩ = some (.string x.1.1) := (hB.cell (p := ⟨g, i * 3, none⟩) hgl).trans (src 0 (by decide))
      have s1 : wr.cell? ⟨g, i * 3 + 1, none⟩ = some (.bool x.1.2.1) := (hB.cell (p := ⟨g, i * 3 + 1, none⟩) hgl).trans (src 1 (by decide))
      have s2 : wr.cell? ⟨g, i * 3 + 2, none⟩ = some (.slice a0 n0 cp0) := (hB.cell (p := ⟨g, i * 3 + 2, none⟩) hgl).trans ((src 2 (by decide)).trans (by rw [← hxv]; rfl))
      obtain ⟨z0, z1, z2, zs', rfl⟩ : ∃ z0 z1 z2 zs', zs = z0 :: z1 :: z2 :: zs' := by
        match zs, (show 3 ≤ zs.length by omega) with
        | z0 :: z1 :: z2 :: zs', _ => exact ⟨z0, z1, z2, zs', rfl⟩
      have hMl : (Mi.flatMap dgC).length = i * 3 := by rw [dgC_len, hm2]
      have hgm : w.heap.size < wr.heap.size := (hrow.lt w.heap.size rfl).2
      have hD : Below wr.heap.size wr (wr.alloc (.cells #[.string x.1.1, .bool x.1.2.1, .slice a0 n0 cp0] 42)) := (Below.refl _ _).alloc (Nat.le_refl _) _
      have HCp := Lib.hid (copyD_any x.1.1 x.1.2.1 a0 n0 cp0 x.1.2.2 (wr.alloc (.cells #[.string x.1.1, .bool x.1.2.1, .slice a0 n0 cp0] 42)) ((hr0.below hB).below hD) (hl x.1 (List.mem_iff_getElem?.2 ⟨i, hLx⟩)))
      have d0 : (wr.alloc (.cells #[.string x.1.1, .bool x.1.2.1, .slice a0 n0 cp0] 42)).cell? ⟨wr.heap.size, 0, none⟩ = some (.string x.1.1) := by rw [World.cell?_alloc_new]; rfl
      have d1 : (wr.alloc (.cells #[.string x.1.1, .bool x.1.2.1, .slice a0 n0 cp0] 42)).cell? ⟨wr.heap.size, 1, none⟩ = some (.bool x.1.2.1) := by rw [World.cell?_alloc_new]; rfl
      have d2 : (wr.alloc (.cells #[.string x.1.1, .bool x.1.2.1, .slice a0 n0 cp0] 42)).cell? ⟨wr.heap.size, 2, none⟩ = some (.slice a0 n0 cp0) := by rw [World.cell?_alloc_new]; rfl
      have HW3 : Hid (∀ w3, Below (wr.alloc (.cells #[.string x.1.1, .bool x.1.2.1, .slice a0 n0 cp0] 42)).heap.size (wr.alloc (.cells #[.string x.1.1, .bool x.1.2.1, .slice a0 n0 cp0] 42)) w3 → Hid (Below wr.heap.size wr w3) ∧ Hid (w3.ownsRow w.heap.size 42 3 (.slice (some ⟨w.heap.size, 0, none⟩) nL nL) nL (Mi.flatMap dgC ++ z0 :: z1 :: z2 :: zs')) ∧ w3.cell? ⟨w.heap.size, i * 3, none⟩ = some z0 ∧ w3.cell? ⟨w.heap.size, i * 3 + 1, none⟩ = some z1 ∧ w3.cell? ⟨w.heap.size, i * 3 + 2, none⟩ = some z2 ∧ w3.frozen? ⟨w.heap.size, i * 3, none⟩ = false ∧ w3.frozen? ⟨w.heap.size, i * 3 + 1, none⟩ = false ∧ w3.frozen? ⟨w.heap.size, i * 3 + 2, none⟩ = false) := Lib.hid (fun w3 h3 => by
        have hb3 := hD.trans (h3.mono hD.size)
        have hr3 : w3.ownsRow w.heap.size 42 3 (.slice (some ⟨w.heap.size, 0, none⟩) nL nL) nL (Mi.flatMap dgC ++ z0 :: z1 :: z2 :: zs') := ⟨hrow.1, hrow.2.imp id (fun ⟨g, cp, cur, e, r1, r2, r3⟩ => ⟨g, cp, cur, e, r1, (hb3.block g (Array.getElem?_eq_some_iff.1 r2).1).trans r2, r3⟩)⟩
        refine ⟨Lib.hid hb3, Lib.hid hr3, ?_, ?_, ?_, hr3.frozenAt _, hr3.frozenAt _, hr3.frozenAt _⟩
        · rw [hr3.cellAt _ (by omega), List.getElem?_append_right (by omega), hMl]; simp
        · rw [hr3.cellAt _ (by omega), List.getElem?_append_right (by omega), hMl]; simp
        · rw [hr3.cellAt _ (by omega), List.getElem?_append_right (by omega), hMl]; simp)
      have e1 : (i : Int) < (nL : Int) := by omega
      have e2 : (0 : Int) ≤ (i : Int) := by omega
      have HAt := Lib.hid hat
      have HM := Lib.hid (show Mi.map (·.1) = L.take i ∧ Mi.length = i ∧ (Mi.flatMap dgC).length = i * 3 ∧ (z0 :: z1 :: z2 :: zs').length = (nL - i) * 3 ∧ L[i]? = some x.1 from ⟨hm1, hm2, hMl, hzl, hLx⟩)
      clear hm1 hm2 hrow hzl hat hSo hx hLx hxv hr0 src hMl hD hB hl
      go_wp2_with (go_at_call 33; refine HCp.out.mono ?_; rintro e w3 ⟨p1, c1, rfl, hr3, hb3⟩; obtain ⟨HB3, HR3, y0, y1, y2, f0, f1, f2⟩ := HW3.out w3 hb3; have HRb := Lib.hid hr3; have HB33 := Lib.hid hb3; clear hr3 hb3)
      go_roundw
      case rel =>
        have st3 := (((HR3.out.stored (i * 3) (.string x.1.1)).1.stored (i * 3 + 1) (.bool x.1.2.1)).1.stored (i * 3 + 2) (.slice p1 x.1.2.2.length c1)).1
        rw [set3 _ _ HM.out.2.2.1] at st3
        have hgm3 : ∀ (a : Addr) n c l, RB w.heap.size w3 (.slice (some a) n c) l → a.block ≠ w.heap.size := fun a n c l hr e => by
          obtain ⟨_, _, _, _, _, cur, fr, hcur⟩ := RB.obj hr
          rcases HR3.out.2 with ⟨e5, _⟩ | ⟨g', cp, cur2, e5, _, hg, _⟩
          · cases e5
          · have : w.heap.size = g' := by injection e5 with e6; injection e6 with e6; injection e6
            rw [← this, ← e, hcur] at hg
            injection hg with hg
            injection hg with _ hg
            exact absurd hg (by decide)
        have keep : ∀ (a : Option Addr) n c l, RB w.heap.size w3 (.slice a n c) l → RB w.heap.size (((w3.setCell ⟨w.heap.size, i * 3, none⟩ (.string x.1.1)).setCell ⟨w.heap.size, i * 3 + 1, none⟩ (.bool x.1.2.1)).setCell ⟨w.heap.size, i * 3 + 2, none⟩ (.slice p1 x.1.2.2.length c1)) (.slice a n c) l := fun a n c l hr => RB.same hr (fun q n' c' e => by
          injection e with e1
          subst e1
          have hq := hgm3 q _ _ _ hr
          exact (heap_setCell_ne _ _ _ _ _ hq).trans ((heap_setCell_ne _ _ _ _ _ hq).trans (heap_setCell_ne _ _ _ _ _ hq)))
        refine ⟨i + 1, hlt, by go_num, ⟨Mi ++ [(x.1, .slice p1 x.1.2.2.length c1)], zs', ?_, ?_, ?_, ?_, fun y hy => ?_⟩, ?_⟩
        · rw [List.map_append, HM.out.1, List.take_add_one, HM.out.2.2.2.2]; rfl
        · rw [List.length_append, HM.out.2.1]; rfl
        · rw [List.flatMap_append]; exact st3
        · have := HM.out.2.2.2.1; simp at this; omega
        · rcases List.mem_append.1 hy with hy | hy
          · obtain ⟨a, n, c, e, hr⟩ := HAt.out y hy
            exact ⟨a, n, c, e, keep _ _ _ _ (hr.below HB3.out)⟩
          · rw [List.mem_singleton.1 hy]
            exact ⟨p1, _, c1, rfl, keep _ _ _ _ (RB.base HRb.out (by rw [size_alloc1]; omega))⟩
        · exact (((HB.out.trans (HB3.out.mono HB.out.size)).setCell (p := ⟨w.heap.size, i * 3, none⟩) (Nat.le_refl _) _).setCell (p := ⟨w.heap.size, i * 3 + 1, none⟩) (Nat.le_refl _) _).setCell (p := ⟨w.heap.size, i * 3 + 2, none⟩) (Nat.le_refl _) _
      case measure => simp [intOf]; omega
    · obtain rfl : i = nL := by omega
      clear hA hB
      go_wp2
      go_ret
      exact ⟨_, rfl, HA.out, HB.out⟩
end Go.Proofs.Ytaaiicfclaeapaa

namespace Go.Proofs.Ytaaiicfclaeapaa
open Go.RowKit Go.Mp Go.Rb Go.Lib
/-- What changes lies in R, in a block of one of these types. -/
structure Chg (R : Nat → Prop) (Ty : TypeId → Prop) (w w' : World) : Prop where
  os : w'.os = w.os
  tape : w'.tape = w.tape
  output : w'.output = w.output
  size : w.heap.size ≤ w'.heap.size
  keep : ∀ j, j < w.heap.size → (¬ R j ∨ ∀ cs t fr, w.heap[j]? = some (.cells cs t fr) → ¬ Ty t) → w'.heap[j]? = w.heap[j]?
theorem Chg.refl (R : Nat → Prop) (Ty : TypeId → Prop) (w : World) : Chg R Ty w w := ⟨rfl, rfl, rfl, Nat.le_refl _, fun _ _ _ => rfl⟩
theorem Chg.of {R : Nat → Prop} {Ty : TypeId → Prop} {w w' : World} (h : Below w.heap.size w w') : Chg R Ty w w' :=
  ⟨h.os, h.tape, h.output, h.size, fun j hj _ => h.block j hj⟩
/-- R may have grown between by what is new. -/
theorem Chg.trans {R R' : Nat → Prop} {Ty : TypeId → Prop} {a b c : World} (h : Chg R Ty a b) (k : Chg R' Ty b c) (hR : ∀ j, j < a.heap.size → R' j → R j) : Chg R Ty a c :=
  ⟨k.os.trans h.os, k.tape.trans h.tape, k.output.trans h.output, Nat.le_trans h.size k.size, fun j hj hn => by
    refine (k.keep j (Nat.lt_of_lt_of_le hj h.size) ?_).trans (h.keep j hj hn)
    rcases hn with hn | hn
    · exact .inl (fun e => hn (hR j hj e))
    · refine .inr (fun cs t fr e => hn cs t fr ?_)
      have := h.keep j hj (.inr hn)
      rw [← this]
      exact e⟩
theorem Chg.ty {R : Nat → Prop} {Ty Ty' : TypeId → Prop} {a b : World} (h : Chg R Ty a b) (hT : ∀ t, Ty t → Ty' t) : Chg R Ty' a b :=
  ⟨h.os, h.tape, h.output, h.size, fun j hj hn => h.keep j hj (hn.imp id (fun hn cs t fr e ht => hn cs t fr e (hT t ht)))⟩
theorem Chg.kx {R : Nat → Prop} {Ty : TypeId → Prop} {a b : World} (h : Chg R Ty a b) : KX (fun k => ¬ R k) a b := ⟨h.os, h.tape, h.output, h.size, fun k hk hl => h.keep k hl (.inl hk)⟩
theorem Chg.set {R : Nat → Prop} {Ty : TypeId → Prop} {w : World} {b : Nat} {cs : Array Value} {t : TypeId} {fr : Nat × Nat} (hb : w.heap[b]? = some (.cells cs t fr)) (hR : R b) (hT : Ty t) (j : Nat) (v : Value) : Chg R Ty w (w.setCell ⟨b, j, none⟩ v) :=
  ⟨rfl, rfl, rfl, by rw [size_setCell']; exact Nat.le_refl _, fun k hk hn => heap_setCell_ne _ _ _ _ _ (fun e => by
    subst e
    rcases hn with hn | hn
    · exact hn hR
    · exact hn _ _ _ hb hT)⟩
def nw (R : Nat → Prop) (w w' : World) : Nat → Prop := fun k => R k ∨ (w.heap.size ≤ k ∧ k < w'.heap.size)
/-- A row of structs, each with bytes; all of it in R. -/
def GRow {α : Type} (R : Nat → Prop) (w : World) (e : TypeId) (k : Nat) (c : α → Value → List Value) (f : α → List UInt8) (v : Value) (L : List α) : Prop :=
  ∃ M : List (α × Value), M.map (·.1) = L ∧ w.ownsRow 0 e k v L.length (M.flatMap fun x => c x.1 x.2) ∧ (∀ q, v.ownBlock = some q → R q) ∧ ∀ x ∈ M, ∃ (a : Option Addr) (n ca : Nat), x.2 = .slice a n ca ∧ RB 0 w (.slice a n ca) (f x.1) ∧ ∀ q, a = some q → R q.block
section
variable {α : Type} {R R' : Nat → Prop} {w w' : World} {e : TypeId} {k : Nat} {c : α → Value → List Value} {f : α → List UInt8} {v : Value} {L : List α}
theorem GRow.nil (R : Nat → Prop) (w : World) (e : TypeId) (k : Nat) (c : α → Value → List Value) (f : α → List UInt8) : GRow R w e k c f (.slice none 0 0) [] := by
  refine ⟨[], rfl, World.ownsRow_nil _ _ _ _, ?_, ?_⟩
  · intro q h
    cases h
  · intro x h
    cases h
theorem GRow.shape (h : GRow R w e k c f v L) : ∃ p ca, v = .slice p L.length ca := by
  obtain ⟨M, _, h, _⟩ := h
  rcases h.2 with ⟨a, b⟩ | ⟨g, cap, cur, a, _⟩
  · exact ⟨none, 0, by rw [a, b]⟩
  · exact ⟨_, _, a⟩
theorem RB.keepB {w w' : World} {a : Option Addr} {n ca : Nat} {l : List UInt8} (h : RB 0 w (.slice a n ca) l) (hh : ∀ (q : Addr) cs fr, a = some q → w.heap[q.block]? = some (.cells cs 5 fr) → w'.heap[q.block]? = w.heap[q.block]?) : RB 0 w' (.slice a n ca) l :=
  RB.same h (fun q n' c' e => by
    injection e with e1
    subst e1
    obtain ⟨_, _, _, _, _, cur, fr, hcur⟩ := RB.obj h
    exact hh q cur fr rfl hcur)
/-- Where rows of another type change, this one stays. -/
theorem GRow.chg {Q : Nat → Prop} {Ty : TypeId → Prop} (h : GRow R w e k c f v L) (hc : Chg Q Ty w w') (he : ¬ Ty e) (h8 : ¬ Ty 5) (hR : ∀ k, R k → R' k) : GRow R' w' e k c f v L := by
  obtain ⟨M, h1, h2, h3, h4⟩ := h
  refine ⟨M, h1, ⟨h2.1, ?_⟩, fun q hq => hR q (h3 q hq), fun x hx => ?_⟩
  · rcases h2.2 with h2 | ⟨g, cp, cur, a, r1, r2, r3⟩
    · exact .inl h2
    refine .inr ⟨g, cp, cur, a, r1, ?_, r3⟩
    refine (hc.keep g (Array.getElem?_eq_some_iff.1 r2).1 (.inr (fun cs t fr e2 ht => ?_))).trans r2
    rw [r2] at e2
    cases e2
    exact he ht
  · obtain ⟨a, n, ca, e2, hr, ha⟩ := h4 x hx
    refine ⟨a, n, ca, e2, RB.keepB hr (fun q cs fr ea hq => hc.keep _ (Array.getElem?_eq_some_iff.1 hq).1 (.inr (fun cs' t fr' e3 ht => ?_))), fun q ea => hR _ (ha q ea)⟩
    rw [hq] at e3
    cases e3
    exact h8 ht
/-- All of R stays. -/
theorem GRow.same (h : GRow R w e k c f v L) (hh : ∀ k, R k → w'.heap[k]? = w.heap[k]?) (hR : ∀ k, R k → R' k) : GRow R' w' e k c f v L := by
  obtain ⟨M, h1, h2, h3, h4⟩ := h
  refine ⟨M, h1, ⟨h2.1, h2.2.imp id (fun ⟨g, cp, cur, a, r1, r2, r3⟩ => ⟨g, cp, cur, a, r1, (hh g (h3 g (by rw [a]; rfl))).trans r2, r3⟩)⟩, fun q hq => hR q (h3 q hq), fun x hx => ?_⟩
  obtain ⟨a, n, ca, e2, hr, ha⟩ := h4 x hx
  exact ⟨a, n, ca, e2, RB.keepB hr (fun q cs fr ea _ => hh _ (ha q ea)), fun q ea => hR _ (ha q ea)⟩
theorem flatC_len {k : Nat} {c : α → Value → List Value} (hk : ∀ x v, (c x v).length = k) : ∀ M : List (α × Value), (M.flatMap fun x => c x.1 x.2).length = M.length * k
  | [] => by simp
  | y :: M => by rw [List.flatMap_cons, List.length_append, hk, flatC_len hk M, List.length_cons, Nat.add_mul]; omega
theorem flatC_at {k : Nat} {c : α → Value → List Value} (hk : ∀ x v, (c x v).length = k) : ∀ (M : List (α × Value)) (i j : Nat) (x : α × Value), M[i]? = some x → j < k → (M.flatMap fun x => c x.1 x.2)[i * k + j]? = (c x.1 x.2)[j]?
  | [], i, j, x, h, _ => by simp at h
  | y :: M, 0, j, x, h, hj => by
    simp at h
    subst h
    rw [List.flatMap_cons, List.getElem?_append_left (by rw [hk]; omega)]
    simp
  | y :: M, i + 1, j, x, h, hj => by
    rw [List.getElem?_cons_succ] at h
    rw [List.flatMap_cons, List.getElem?_append_right (by rw [hk, Nat.add_mul]; omega), hk, ← flatC_at hk M i j x h hj]
    congr 1
    rw [Nat.add_mul]
    omega
/-- One element of the row: its cells, its bytes. -/
theorem GRow.get (h : GRow R w e k c f v L) (hk : ∀ x v, (c x v).length = k) {i : Nat} {x : α} (hi : L[i]? = some x) : ∃ (g cap : Nat) (a : Option Addr) (n ca : Nat), v = .slice (some ⟨g, 0, none⟩) L.length cap ∧ R g ∧ L.length ≤ cap ∧ cap ≤ maxLen ∧ (∃ cs, w.heap[g]? = some (.cells cs e (0, 0))) ∧ RB 0 w (.slice a n ca) (f x) ∧ (∀ q, a = some q → R q.block) ∧
    ∀ j u, (c x (.slice a n ca))[j]? = some u → w.cell? ⟨g, i * k + j, none⟩ = some u := by
  obtain ⟨M, h1, h2, h3, h4⟩ := h
  subst h1
  obtain ⟨y, hy, rfl⟩ : ∃ y, M[i]? = some y ∧ y.1 = x := by simpa using hi
  obtain ⟨a, n, ca, e2, hr, ha⟩ := h4 y (List.mem_of_getElem? hy)
  rcases h2.2 with ⟨_, b⟩ | ⟨g, cap, cur, hv, _, hg, hlc, hcm, _⟩
  · have hlt := (List.getElem?_eq_some_iff.1 hy).1
    rw [List.length_map] at b
    omega
  · refine ⟨g, cap, a, n, ca, hv, h3 g (by rw [hv]; rfl), hlc, hcm, ⟨cur, hg⟩, hr, ha, fun j u hu => ?_⟩
    have hj : j < k := by have := (List.getElem?_eq_some_iff.1 hu).1; rw [hk] at this; exact this
    have ha' : ({ block := g, off := 0 } : Addr).add (i * k + j) = ⟨g, i * k + j, none⟩ := by unfold Addr.add; split <;> simp_all
    rw [← ha']
    refine World.ownsRow.cells h2 (g := g) (by rw [hv]; rfl) _ _ ?_
    rw [flatC_at hk M i j y hy hj, e2]
    exact hu
end
end Go.Proofs.Ytaaiicfclaeapaa

namespace Go.Proofs.Ytaaiicfclaeapaa
open Go.RowKit Go.Mp Go.Rb Go.Lib
/-- A file as the document has it. -/
abbrev FilD := ByteArray × List UInt8 × Int × Bool
abbrev RawD := ByteArray × List UInt8 × Bool
def filC (x : FilD) (v : Value) : List Value := [.string x.1, v, .int .i64 x.2.2.1, .bool x.2.2.2]
def rawC (x : RawD) (v : Value) : List Value := [.string x.1, v, .bool x.2.2]
def dgrC (x : DgT) (v : Value) : List Value := [.string x.1, .bool x.2.1, v]
def strC (x : StmT) (v : Value) : List Value := [.string x.1, v, .bool x.2.2]
theorem filC_len (x : FilD) (v : Value) : (filC x v).length = 4 := rfl
theorem rawC_len (x : RawD) (v : Value) : (rawC x v).length = 3 := rfl
theorem dgrC_len (x : DgT) (v : Value) : (dgrC x v).length = 3 := rfl
theorem strC_len (x : StmT) (v : Value) : (strC x v).length = 3 := rfl
abbrev FRow (R : Nat → Prop) (w : World) (v : Value) (L : List FilD) : Prop := GRow R w 69 4 filC (·.2.1) v L
abbrev RRow (R : Nat → Prop) (w : World) (v : Value) (L : List RawD) : Prop := GRow R w 47 3 rawC (·.2.1) v L
abbrev SRow (R : Nat → Prop) (w : World) (v : Value) (L : List DgT) : Prop := GRow R w 42 3 dgrC (·.2.2) v L
abbrev TRow (R : Nat → Prop) (w : World) (v : Value) (L : List StmT) : Prop := GRow R w 72 3 strC (·.2.1) v L
def W7 (w : World) (r : Nat) (now cnt : Int) (vF vS vT vR : Value) (syn : Int) : Prop := w.heap[r]? = some (.cells #[.int .i64 now, .int .i64 cnt, vF, vS, vT, vR, .int .i64 syn] 32 (0, 0))
theorem W7.lt {w : World} {r : Nat} {now cnt : Int} {vF vS vT vR : Value} {syn : Int} (h : W7 w r now cnt vF vS vT vR syn) : r < w.heap.size := (Array.getElem?_eq_some_iff.1 h).1
def fidx (p : ByteArray) : List FilD → Nat
  | [] => 0
  | x :: L => if x.1 = p then 0 else fidx p L + 1
def fadd (p : ByteArray) (L : List FilD) : List FilD := if fidx p L < L.length then L else L ++ [(p, [], 0, false)]
theorem fidx_le (p : ByteArray) : ∀ L : List FilD, fidx p L ≤ L.length
  | [] => Nat.le_refl _
  | x :: L => by
    unfold fidx
    have := fidx_le p L
    split
    · exact Nat.zero_le _
    · simp; omega
theorem fidx_hit (p : ByteArray) : ∀ (L : List FilD) (i : Nat) (x : FilD), L[i]? = some x → x.1 = p → (∀ j y, j < i → L[j]? = some y → y.1 ≠ p) → fidx p L = i
  | [], i, x, h, _, _ => by simp at h
  | y :: L, 0, x, h, hp, _ => by
    simp at h
    subst h
    unfold fidx
    rw [if_pos hp]
  | y :: L, i + 1, x, h, hp, hn => by
    rw [List.getElem?_cons_succ] at h
    unfold fidx
    rw [if_neg (hn 0 y (by omega) rfl), fidx_hit p L i x h hp (fun j z hj hz => hn (j + 1) z (by omega) (by simpa using hz))]
theorem fidx_none (p : ByteArray) : ∀ (L : List FilD), (∀ (j : Nat) y, L[j]? = some y → y.1 ≠ p) → fidx p L = L.length
  | [], _ => rfl
  | y :: L, h => by
    unfold fidx
    rw [if_neg (h 0 y rfl), fidx_none p L (fun j z hz => h (j + 1) z (by simpa using hz))]
    rfl
theorem infoFil : (Try.prog.info? 69).map (fun i => (i.zero, i.size, i.bytes)) = some (some (.agg #[.string ⟨#[]⟩, .slice none 0 0, .int .i64 0, .bool false]), 4, 56) := by kernel_rfl
theorem new_cells4 (w : World) (x y z u : Value) (e : TypeId) : ∀ j q, [x, y, z, u][j]? = some q → (w.alloc (.cells #[x, y, z, u] e)).cell? ((⟨w.heap.size, 0, none⟩ : Addr).add j) = some q := by
  intro j q hj
  have ha : (⟨w.heap.size, 0, none⟩ : Addr).add j = ⟨w.heap.size, j, none⟩ := by unfold Addr.add; split <;> simp_all
  rw [ha, World.cell?_alloc_new]
  simpa using hj
def WTy (t : TypeId) : Prop := t = 32
def FTy (t : TypeId) : Prop := t = 69 ∨ t = 32
/-- What an append to a row leaves. -/
theorem GRow.grown {α : Type} {R : Nat → Prop} {w wA w4 : World} {e : TypeId} {k : Nat} {c : α → Value → List Value} {f : α → List UInt8} {v : Value} {L : List α} {M : List (α × Value)} {x : α} {a : Option Addr} {n ca : Nat} {g4 cap4 : Nat} {Ty : TypeId → Prop}
    (hM : M.map (·.1) = L) (hrow : w.ownsRow 0 e k v L.length (M.flatMap fun x => c x.1 x.2)) (hown : ∀ q, v.ownBlock = some q → R q) (hat : ∀ x ∈ M, ∃ (a : Option Addr) (n ca : Nat), x.2 = .slice a n ca ∧ RB 0 w (.slice a n ca) (f x.1) ∧ ∀ q, a = some q → R q.block)
    (hA : Below w.heap.size w wA) (hne8 : e ≠ 5) (hTe : Ty e)
    (ho4 : w4.ownsRow 0 e k (.slice (some ⟨g4, 0, none⟩) (L.length + 1) cap4) (L.length + 1) ((M.flatMap fun x => c x.1 x.2) ++ c x (.slice a n ca))) (hg4 : wA.grownBy w4 v.ownBlock) (hat4 : v.ownBlock = some g4 ∨ w.heap.size ≤ g4)
    (hx : RB 0 wA (.slice a n ca) (f x)) (hxR : ∀ q, a = some q → nw R w w4 q.block) :
    GRow (nw R w w4) w4 e k c f (.slice (some ⟨g4, 0, none⟩) (L.length + 1) cap4) (L ++ [x]) ∧ Chg R Ty w w4 := by
  have hz := hA.size
  have hz4 := hg4.size
  have keep8 : ∀ (q : Addr) cs fr, wA.heap[q.block]? = some (.cells cs 5 fr) → w4.heap[q.block]? = wA.heap[q.block]? := fun q cs fr hq => hg4.block _ (Array.getElem?_eq_some_iff.1 hq).1 (fun e2 => by
    rcases hrow.2 with ⟨e3, _⟩ | ⟨g, cp, cur2, e3, _, hg, _⟩
    · rw [e3] at e2; cases e2
    · rw [e3] at e2
      have : g = q.block := by injection e2 with e2; exact e2.symm
      have h2 := (hA.block g (Array.getElem?_eq_some_iff.1 hg).1).trans hg
      rw [this, hq] at h2
      cases h2
      exact hne8 rfl)
  refine ⟨⟨M ++ [(x, .slice a n ca)], by simp [hM], ?_, fun q hq => ?_, fun y hy => ?_⟩, ?_⟩
  · rw [List.length_append, List.flatMap_append]
    simpa using ho4
  · have : g4 = q := by injection hq
    subst this
    rcases hat4 with h | h
    · exact .inl (hown _ h)
    · refine .inr ⟨h, ?_⟩
      rcases ho4.2 with ⟨e3, _⟩ | ⟨g, cp, cur2, e3, _, hg, _⟩
      · cases e3
      · cases e3
        exact (Array.getElem?_eq_some_iff.1 hg).1
  · rcases List.mem_append.1 hy with hy | hy
    · obtain ⟨a', n', c', e2, hr, ha⟩ := hat y hy
      exact ⟨a', n', c', e2, RB.keepB (hr.below hA) (fun q cs fr _ hq => keep8 q cs fr hq), fun q e3 => .inl (ha q e3)⟩
    · rw [List.mem_singleton.1 hy]
      exact ⟨a, n, ca, rfl, RB.keepB hx (fun q cs fr _ hq => keep8 q cs fr hq), hxR⟩
  · refine ⟨hg4.os.trans hA.os, hg4.tape.trans hA.tape, hg4.output.trans hA.output, Nat.le_trans hz hz4, fun j hj hn => ?_⟩
    · refine (hg4.block j (by omega) (fun e2 => ?_)).trans (hA.block j hj)
      rcases hrow.2 with ⟨e3, _⟩ | ⟨g, cp, cur2, e3, _, hg, _⟩
      · rw [e3] at e2; cases e2
      · rw [e3] at e2
        have : g = j := by injection e2 with e2; exact e2.symm
        subst this
        rcases hn with hn | hn
        · exact hn (hown g (by rw [e3]; rfl))
        · exact hn _ _ _ hg hTe
end Go.Proofs.Ytaaiicfclaeapaa

namespace Go.Proofs.Ytaaiicfclaeapaa
open Go.RowKit Go.Mp Go.Rb Go.Lib
theorem ba_no {x y : ByteArray} (h : ¬ x = y) : ¬ x = y ∧ (x.toList == y.toList) = false :=
  ⟨h, beq_eq_false_iff_ne.2 (by rw [Go.Lib.toList_data, Go.Lib.toList_data]; exact fun e => h (ByteArray.ext (Array.ext' e)))⟩
section
variable {R : Nat → Prop} {r : Nat} {now cnt syn : Int} {v vS vT vR : Value} {L : List FilD}
set_option maxHeartbeats 4000000 in
set_option maxRecDepth 100000 in
theorem at_d {w : World} (hW : W7 w r now cnt v vS vT vR syn) (hF : FRow R w v L) (hR : R r) (hL : L.length ≤ 1000) (p : ByteArray) :
    Calls Try.prog 32 #[.pointer (some ⟨r, 0, none⟩), .string p] w fun e w' => e = .returned (.int .i64 (fidx p L : Int)) ∧ ∃ v', W7 w' r now cnt v' vS vT vR syn ∧ FRow (nw R w w') w' v' (fadd p L) ∧ Chg R FTy w w' := by
  obtain ⟨q, cap, rfl⟩ := hF.shape
  have hrl := hW.lt
  have HW := Lib.hid hW
  have HF := Lib.hid hF
  have k2 : w.cell? ⟨r, 2, none⟩ = some (.slice q L.length cap) := by unfold W7 at hW; simp [World.cell?, hW]
  have hsz : (w.alloc (.cells #[.string p, .slice none 0 0, .int .i64 0, .bool false] 69)).heap.size = w.heap.size + 1 := by show (w.heap.push _).size = _; simp
  have k2b : (w.alloc (.cells #[.string p, .slice none 0 0, .int .i64 0, .bool false] 69)).cell? ⟨r, 2, none⟩ = some (.slice q L.length cap) := by
    have : (w.alloc (.cells #[.string p, .slice none 0 0, .int .i64 0, .bool false] 69)).heap[r]? = _ := (heap_alloc_lt w _ r hrl).trans hW
    simp [World.cell?, this]
  obtain ⟨ib, hib, hz0, hz1, hz2⟩ := info_parts' infoFil
  obtain ⟨M, hM, hrow, hown, hat⟩ := hF
  have hqr : ∀ g, (Value.slice q L.length cap).ownBlock = some g → g ≠ r := fun g hg e => by
    subst e
    rcases hrow.2 with ⟨e3, _⟩ | ⟨g2, cp, cur2, e3, _, hg2, _⟩
    · rw [e3] at hg; cases hg
    · rw [e3] at hg
      have : g2 = g := by injection hg
      rw [this, show w.heap[g]? = _ from hW] at hg2
      cases hg2
  have HQ := Lib.hid hqr
  have HG : Hid (∀ w4, (w.alloc (.cells #[.string p, .slice none 0 0, .int .i64 0, .bool false] 69)).grownBy w4 (Value.slice q L.length cap).ownBlock → W7 w4 r now cnt (.slice q L.length cap) vS vT vR syn ∧ w4.cell? ⟨r, 2, none⟩ = some (.slice q L.length cap) ∧ w4.frozen? ⟨r, 2, none⟩ = false) := Lib.hid (fun w4 hg4 => by
    have h2 : W7 w4 r now cnt (.slice q L.length cap) vS vT vR syn := (hg4.block r (by rw [hsz]; omega) (fun e => hqr r e.symm rfl)).trans ((heap_alloc_lt w _ r hrl).trans hW)
    have h3 := h2
    unfold W7 at h3
    exact ⟨h2, by simp [World.cell?, h3], by simp [World.frozen?, h3]⟩)
  have HM := Lib.hid hM
  have HRow := Lib.hid hrow
  have HOwn := Lib.hid hown
  have HAt := Lib.hid hat
  clear hW hM hrow hown hat hqr
  go_enter Try.func32, Try.ntmps32
  go_wp2
  go_loopw [5] (fun iv wr => ∃ i : Nat, i ≤ L.length ∧ iv = .int .i64 i ∧ w = wr ∧ ∀ j y, j < i → L[j]? = some y → y.1 ≠ p) (fun iv _ => L.length - (intOf iv).toNat)
  case atStart => exact ⟨0, Nat.zero_le _, rfl, rfl, fun j y h => by omega⟩
  case round =>
    obtain ⟨i, hi, rfl, rfl, hno⟩ := hrel
    by_cases hlt : i < L.length
    · obtain ⟨x, hx⟩ : ∃ x, L[i]? = some x := ⟨_, List.getElem?_eq_getElem hlt⟩
      obtain ⟨g, cp, a, n, ca, hv, _, hlc, hcm, _, _, _, hc⟩ := HF.out.get filC_len hx
      cases hv
      have c0 : w.cell? ⟨g, i * 4, none⟩ = some (.string x.1) := hc 0 _ rfl
      have hii : (0 : Int) ≤ (i : Int) := by omega
      have hil : (i : Int) < (L.length : Int) := by omega
      unfold maxLen at hcm
      by_cases hp : x.1 = p
      · subst hp
        have hfi := fidx_hit x.1 L i x hx rfl hno
        clear hno hx
        go_wp2
        go_ret
        refine ⟨by rw [hfi]; rfl, _, HW.out, ?_, Chg.refl _ _ _⟩
        unfold fadd
        rw [if_pos (by rw [hfi]; exact hlt)]
        exact HF.out.same (fun _ _ => rfl) (fun k hk => .inl hk)
      · obtain ⟨hn1, hn2⟩ := ba_no hp
        have HNo := Lib.hid hno
        clear hno
        go_wp2
        go_roundw
        case rel => exact ⟨i + 1, hlt, by go_num, trivial, fun j y hj hy => by
          by_cases hji : j = i
          · subst hji
            rw [hx] at hy
            cases hy
            exact hp
          · exact HNo.out j y (by omega) hy⟩
        case measure => simp [intOf]; omega
    · obtain rfl : i = L.length := by omega
      have hfi := fidx_none p L (fun j y hy => hno j y (List.getElem?_eq_some_iff.1 hy).1 hy)
      clear hno hlt
      go_upto_region 7 with (at_builtin; refine wpList_append_lies _ (by rfl) _ _ _ (by rfl) 0 69 ib (.agg #[.string ⟨#[]⟩, .slice none 0 0, .int .i64 0, .bool false]) 4 56 Try.underlying27 hib hz0 hz1 hz2 rfl (by decide) (.slice q L.length cap) L.length (M.flatMap fun x => filC x.1 x.2) (by rfl) (World.ownsRow.alloc HRow.out _) ⟨w.heap.size, 0, none⟩ 1 1 [.string p, .slice none 0 0, .int .i64 0, .bool false] (by rfl) rfl (new_cells4 _ _ _ _ _ _) (by simp [Value.oneCell']) (by decide) (by unfold maxLen; omega) (by omega) (Nat.zero_le _) (w.heap.size + 1) hsz ?_; intro g4 cap4 w4 hown4 hg4 hat4 hlt4; obtain ⟨hb4, c4, f4'⟩ := HG.out w4 hg4; have HB4 := Lib.hid hb4; have HO4 := Lib.hid hown4; have HG4 := Lib.hid hg4; have HA4 := Lib.hid hat4; clear hb4 hown4 hg4 hat4)
      obtain ⟨hgr, hch⟩ := GRow.grown (Ty := FTy) (x := ((p, [], 0, false) : FilD)) (a := none) (n := 0) (ca := 0) (f := fun x : FilD => x.2.1) HM.out HRow.out HOwn.out HAt.out ((Below.refl _ _).alloc (Nat.le_refl _) _) (by decide) (.inl rfl) HO4.out HG4.out (by rcases HA4.out with h | h; exact .inl h; exact .inr (by omega)) (.inl ⟨rfl, rfl⟩) (fun q e => by cases e)
      have hw5 : W7 (w4.setCell ⟨r, 2, none⟩ (.slice (some ⟨g4, 0, none⟩) (L.length + 1) cap4)) r now cnt (.slice (some ⟨g4, 0, none⟩) (L.length + 1) cap4) vS vT vR syn := heap_setCell_eq _ _ _ _ _ _ _ HB4.out
      have hs5 : (w4.setCell ⟨r, 2, none⟩ (.slice (some ⟨g4, 0, none⟩) (L.length + 1) cap4)).heap.size = w4.heap.size := size_setCell' _ _ _
      have hch5 : Chg (nw R w w4) WTy w4 (w4.setCell ⟨r, 2, none⟩ (.slice (some ⟨g4, 0, none⟩) (L.length + 1) cap4)) := Chg.set (R := nw R w w4) (Ty := WTy) HB4.out (Or.inl hR) (show WTy _ from rfl) 2 _
      clear c4 f4'
      generalize (w4.setCell ⟨r, 2, none⟩ (.slice (some ⟨g4, 0, none⟩) (L.length + 1) cap4)) = w5 at *
      have HW5 := Lib.hid hw5
      have k5 : w5.cell? ⟨r, 2, none⟩ = some (.slice (some ⟨g4, 0, none⟩) (L.length + 1) cap4) := by unfold W7 at hw5; simp [World.cell?, hw5]
      have hwr : IntKind.i64.wrap (((L.length + 1 : Nat) : Int) - 1) = (L.length : Int) := by simp [IntKind.wrap, IntKind.bits, IntKind.signed]; omega
      have HGr := Lib.hid hgr
      have HCh := Lib.hid hch
      have HCh5 := Lib.hid hch5
      clear hw5 hgr hch hch5
      go_wp2
      go_ret
      refine ⟨by rw [hfi]; simp, _, HW5.out, ?_, HCh.out.trans (HCh5.out.ty (fun t e => .inr e)) (fun j hj h => h.elim id (fun h => by omega))⟩
      unfold fadd
      rw [if_neg (by rw [hfi]; omega)]
      have := HGr.out.chg (R' := nw R w w5) HCh5.out (by unfold WTy; decide) (by unfold WTy; decide) (fun k hk => hk.elim .inl (fun h => .inr ⟨h.1, by rw [hs5]; exact h.2⟩))
      simpa using this
end
end Go.Proofs.Ytaaiicfclaeapaa

namespace Go.Proofs.Ytaaiicfclaeapaa
open Go.RowKit Go.Mp Go.Rb Go.Lib
theorem RB.src {B : Nat} {w : World} {v : Value} {l : List UInt8} (h : RB B w v l) : Src Try.prog w v l := by
  rcases h with ⟨rfl, rfl⟩ | ⟨b, cap, rfl, _, _, hr⟩
  · exact ⟨fun w' => rfl, fun w' _ => run_firstCells_none w' 1 0 0 0⟩
  · exact Src.row hr
theorem step_append_rb {P : Program} {ops : Array Oper} {o : Oper} {a : Act} {w : World} {K : Act → World → Prop} {Q : Exit → Act → World → Prop} {E : Prop} (hgd : o.guard = none) (s x : Operand) (t u : TypeId)
    (ho : o.op = .call { callee := .builtin .append, args := #[s, x], argTypes := #[t, u] }) {d : TypeDesc} {i : TypeInfo}
    (ht : P.underlying t = some (.slice 5)) (hu : P.underlying u = some d) (hd : ∀ k, d ≠ .int k) (hi : P.info? 5 = some i) (hz0 : i.zero = some (.int .u8 0)) (hz1 : i.size = 1) (hz2 : i.bytes = 1)
    {B : Nat} {l m : List UInt8} {sv v : Value} (hs : a.eval s = sv) (hx : a.eval x = v) (hr : RB B w sv l) (hv : Src P w v m) (hB : B ≤ w.heap.size) (hbd : l.length + m.length ≤ 1000000)
    (h : ∀ s' w', RB B w' s' (l ++ m) → Below B w w' → K (a.put o.dst s') w') : if Region.wanted o (yielded ops a.tmps) = true then Oper.wp P o a w K Q else E := by
  have hw : Region.wanted o (yielded ops a.tmps) = true := by simp [Region.wanted, hgd]
  rw [if_pos hw]
  obtain ⟨s', w', e1, e2, e3⟩ := run_append_rb (P := P) (ts := #[t, u]) (ty := o.type) (t := t) (u := u) rfl rfl ht hu hd hi hz0 hz1 hz2 hr hv hB hbd
  unfold Oper.wp execOp
  simp only [ho, resolve, invoke, builtin, Sem.run_bind, Sem.run_pure, Result.andThen_ok, List.map_toArray, List.map_cons, List.map_nil, hs, hx, e1]
  exact h s' w' e2 e3
theorem infoU8 : (Try.prog.info? 5).map (fun i => (i.zero, i.size, i.bytes)) = some (some (.int .u8 0), 1, 1) := by kernel_rfl
theorem set4 (A : List Value) (k : Nat) (hk : A.length = k) (z0 z1 z2 z3 u0 u1 u2 u3 : Value) (zs : List Value) : ((((A ++ z0 :: z1 :: z2 :: z3 :: zs).set k u0).set (k + 1) u1).set (k + 2) u2).set (k + 3) u3 = (A ++ [u0, u1, u2, u3]) ++ zs := by
  subst hk
  simp [List.set_append]
section
variable {α : Type}
theorem flat_split {k : Nat} {c : α → Value → List Value} (hk : ∀ x v, (c x v).length = k) {M : List (α × Value)} {i : Nat} {y : α × Value} (h : M[i]? = some y) (z : α × Value) :
    ∃ A zs, A.length = i * k ∧ (M.flatMap fun x => c x.1 x.2) = A ++ (c y.1 y.2 ++ zs) ∧ ((M.set i z).flatMap fun x => c x.1 x.2) = A ++ (c z.1 z.2 ++ zs) := by
  have hlt := (List.getElem?_eq_some_iff.1 h).1
  have he : M[i] = y := (List.getElem?_eq_some_iff.1 h).2
  refine ⟨(M.take i).flatMap fun x => c x.1 x.2, (M.drop (i + 1)).flatMap fun x => c x.1 x.2, ?_, ?_, ?_⟩
  · rw [flatC_len hk, List.length_take, Nat.min_eq_left (by omega)]
  · have e : M = M.take i ++ y :: M.drop (i + 1) := by rw [← he, List.getElem_cons_drop, List.take_append_drop]
    have e2 := congrArg (fun l => List.flatMap (fun x : α × Value => c x.1 x.2) l) e
    simp only [List.flatMap_append, List.flatMap_cons] at e2
    exact e2
  · rw [List.set_eq_take_append_cons_drop, if_pos hlt, List.flatMap_append, List.flatMap_cons]
theorem GRow.upd {R : Nat → Prop} {w wA wB : World} {e : TypeId} {k : Nat} {c : α → Value → List Value} {f : α → List UInt8} {L : List α} {M : List (α × Value)} {x : α} {a : Option Addr} {n ca g cap i : Nat} {Ty : TypeId → Prop}
    (hM : M.map (·.1) = L) (hrow : w.ownsRow 0 e k (.slice (some ⟨g, 0, none⟩) L.length cap) L.length (M.flatMap fun x => c x.1 x.2)) (hown : R g) (hat : ∀ x ∈ M, ∃ (a : Option Addr) (n ca : Nat), x.2 = .slice a n ca ∧ RB 0 w (.slice a n ca) (f x.1) ∧ ∀ q, a = some q → R q.block)
    (hA : Below w.heap.size w wA) (hne8 : e ≠ 5) (hTe : Ty e)
    (hB : wB.ownsRow 0 e k (.slice (some ⟨g, 0, none⟩) L.length cap) L.length ((M.set i (x, .slice a n ca)).flatMap fun x => c x.1 x.2)) (hs : wB.heap.size = wA.heap.size) (ho : wB.os = wA.os ∧ wB.tape = wA.tape ∧ wB.output = wA.output) (hk : ∀ j, j ≠ g → wB.heap[j]? = wA.heap[j]?)
    (hx : RB 0 wA (.slice a n ca) (f x)) (hxR : ∀ q, a = some q → nw R w wA q.block) :
    GRow (nw R w wB) wB e k c f (.slice (some ⟨g, 0, none⟩) L.length cap) (L.set i x) ∧ Chg R Ty w wB := by
  have hz := hA.size
  have hg : ∃ cs, w.heap[g]? = some (.cells cs e (0, 0)) := by
    rcases hrow.2 with ⟨e3, _⟩ | ⟨g2, cp, cur2, e3, _, hg, _⟩
    · cases e3
    · cases e3; exact ⟨_, hg⟩
  obtain ⟨cs, hg⟩ := hg
  have hgA := (hA.block g (Array.getElem?_eq_some_iff.1 hg).1).trans hg
  have hR' : ∀ q, nw R w wA q → nw R w wB q := fun q h => h.imp id (fun h => ⟨h.1, by rw [hs]; exact h.2⟩)
  have keep8 : ∀ (q : Addr) cs' fr, wA.heap[q.block]? = some (.cells cs' 5 fr) → wB.heap[q.block]? = wA.heap[q.block]? := fun q cs' fr hq => hk _ (fun e2 => by
    rw [e2, hgA] at hq
    cases hq
    exact hne8 rfl)
  refine ⟨⟨M.set i (x, .slice a n ca), by rw [List.map_set, hM], ?_, fun q hq => ?_, fun y hy => ?_⟩, ho.1.trans hA.os, ho.2.1.trans hA.tape, ho.2.2.trans hA.output, by rw [hs]; exact hz, fun j hj hn => ?_⟩
  · rw [List.length_set]
    exact hB
  · have : g = q := by injection hq
    exact .inl (this ▸ hown)
  · rcases List.mem_or_eq_of_mem_set hy with hy | hy
    · obtain ⟨a', n', c', e2, hr, ha⟩ := hat y hy
      exact ⟨a', n', c', e2, RB.keepB (hr.below hA) (fun q cs fr _ hq => keep8 q cs fr hq), fun q e3 => .inl (ha q e3)⟩
    · rw [hy]
      exact ⟨a, n, ca, rfl, RB.keepB hx (fun q cs fr _ hq => keep8 q cs fr hq), fun q e3 => hR' _ (hxR q e3)⟩
  · refine (hk j (fun e2 => ?_)).trans (hA.block j hj)
    subst e2
    rcases hn with hn | hn
    · exact hn hown
    · exact hn _ _ _ hg hTe
end
end Go.Proofs.Ytaaiicfclaeapaa

namespace Go.Proofs.Ytaaiicfclaeapaa
open Go.RowKit Go.Mp Go.Rb Go.Lib
def TTy (t : TypeId) : Prop := t = 72 ∨ t = 32
section
variable {R : Nat → Prop} {r : Nat} {now cnt syn : Int} {vF vS v vR : Value}
set_option maxRecDepth 100000 in
theorem advance_d {w : World} {vT : Value} (hW : W7 w r now cnt vF vS vT vR syn) (hR : R r) (h0 : 0 ≤ now) (h1 : now ≤ 1152921504606846976) (n : Int) (hn : -9223372036854775808 ≤ n ∧ n ≤ 9223372036854775807) :
    Calls Try.prog 8 #[.pointer (some ⟨r, 0, none⟩), .int .i64 n] w fun e w' => e = .returned (.tuple #[]) ∧ W7 w' r (advT now n) cnt vF vS vT vR syn ∧ Chg R WTy w w' := by
  have HW := Lib.hid hW
  have k0 : w.cell? ⟨r, 0, none⟩ = some (.int .i64 now) := by unfold W7 at hW; simp [World.cell?, hW]
  have f0 : w.frozen? ⟨r, 0, none⟩ = false := by unfold W7 at hW; simp [World.frozen?, hW]
  clear hW
  by_cases hn1 : n < 1
  · go_enter Try.func8, Try.ntmps8
    go_wp2
    refine bodyPost_ret (results_none rfl _ _ _) rfl ?_
    refine ⟨rfl, ?_, Chg.refl _ _ _⟩
    unfold advT
    rw [if_pos hn1]
    exact HW.out
  · have hw1 : IntKind.i64.wrap (1152921504606846976 - now) = 1152921504606846976 - now := by simp [IntKind.wrap, IntKind.bits, IntKind.signed]; omega
    by_cases hle : n ≤ 1152921504606846976 - now
    · have hw2 : IntKind.i64.wrap (now + n) = now + n := by simp [IntKind.wrap, IntKind.bits, IntKind.signed]; omega
      have hlt : ¬ (1152921504606846976 - now < n) := by omega
      go_enter Try.func8, Try.ntmps8
      go_wp2
      go_end0
      refine ⟨rfl, ?_, Chg.set (Ty := WTy) HW.out hR (show WTy _ from rfl) 0 _⟩
      unfold advT
      rw [if_neg (by omega), if_pos hle]
      exact heap_setCell_eq _ _ _ _ _ _ _ HW.out
    · have hlt : 1152921504606846976 - now < n := by omega
      go_enter Try.func8, Try.ntmps8
      go_wp2
      refine bodyPost_ret (results_none rfl _ _ _) rfl ?_
      refine ⟨rfl, ?_, Chg.set (Ty := WTy) HW.out hR (show WTy _ from rfl) 0 _⟩
      unfold advT
      rw [if_neg (by omega), if_neg (by omega)]
      exact heap_setCell_eq _ _ _ _ _ _ _ HW.out
set_option maxHeartbeats 4000000 in
set_option maxRecDepth 100000 in
theorem open_d {w : World} {L : List StmT} (hW : W7 w r now cnt vF vS v vR syn) (hT : TRow R w v L) (hR : R r) (hL : L.length ≤ 1000) (p : ByteArray) :
    Calls Try.prog 15 #[.pointer (some ⟨r, 0, none⟩), .string p] w fun e w' => e = .returned (.int .i64 (L.length : Int)) ∧ ∃ v', W7 w' r now cnt vF vS v' vR syn ∧ TRow (nw R w w') w' v' (L ++ [(p, [], false)]) ∧ Chg R TTy w w' := by
  obtain ⟨q, cap, rfl⟩ := hT.shape
  have hrl := hW.lt
  have HW := Lib.hid hW
  have k2 : w.cell? ⟨r, 4, none⟩ = some (.slice q L.length cap) := by unfold W7 at hW; simp [World.cell?, hW]
  have hsz : (w.alloc (.cells #[.string p, .slice none 0 0, .bool false] 72)).heap.size = w.heap.size + 1 := by show (w.heap.push _).size = _; simp
  have k2b : (w.alloc (.cells #[.string p, .slice none 0 0, .bool false] 72)).cell? ⟨r, 4, none⟩ = some (.slice q L.length cap) := by
    have : (w.alloc (.cells #[.string p, .slice none 0 0, .bool false] 72)).heap[r]? = _ := (heap_alloc_lt w _ r hrl).trans hW
    simp [World.cell?, this]
  obtain ⟨ib, hi, hz0, hz1, hz2⟩ := info_parts' infoStm
  obtain ⟨M, hM, hrow, hown, hat⟩ := hT
  have hqr : ∀ g, (Value.slice q L.length cap).ownBlock = some g → g ≠ r := fun g hg e => by
    subst e
    rcases hrow.2 with ⟨e3, _⟩ | ⟨g2, cp, cur2, e3, _, hg2, _⟩
    · rw [e3] at hg; cases hg
    · rw [e3] at hg
      have : g2 = g := by injection hg
      rw [this, show w.heap[g]? = _ from hW] at hg2
      cases hg2
  have HG : Hid (∀ w4, (w.alloc (.cells #[.string p, .slice none 0 0, .bool false] 72)).grownBy w4 (Value.slice q L.length cap).ownBlock → W7 w4 r now cnt vF vS (.slice q L.length cap) vR syn ∧ w4.cell? ⟨r, 4, none⟩ = some (.slice q L.length cap) ∧ w4.frozen? ⟨r, 4, none⟩ = false) := Lib.hid (fun w4 hg4 => by
    have h2 : W7 w4 r now cnt vF vS (.slice q L.length cap) vR syn := (hg4.block r (by rw [hsz]; omega) (fun e => hqr r e.symm rfl)).trans ((heap_alloc_lt w _ r hrl).trans hW)
    have h3 := h2
    unfold W7 at h3
    exact ⟨h2, by simp [World.cell?, h3], by simp [World.frozen?, h3]⟩)
  have HM := Lib.hid hM
  have HRow := Lib.hid hrow
  have HOwn := Lib.hid hown
  have HAt := Lib.hid hat
  clear hW hM hrow hown hat hqr
  go_enter Try.func15, Try.ntmps15
  go_upto_region 2 with (at_builtin; refine wpList_append_lies _ (by rfl) _ _ _ (by rfl) 0 72 ib (.agg #[.string ⟨#[]⟩, .slice none 0 0, .bool false]) 3 48 Try.underlying29 hi hz0 hz1 hz2 rfl (by decide) (.slice q L.length cap) L.length (M.flatMap fun x => strC x.1 x.2) (by rfl) (World.ownsRow.alloc HRow.out _) ⟨w.heap.size, 0, none⟩ 1 1 [.string p, .slice none 0 0, .bool false] (by rfl) rfl (new_cells3 _ _ _ _ _) (by simp [Value.oneCell']) (by decide) (by unfold maxLen; omega) (by omega) (Nat.zero_le _) (w.heap.size + 1) hsz ?_; intro g4 cap4 w4 hown4 hg4 hat4 hlt4; obtain ⟨hb4, c4, f4'⟩ := HG.out w4 hg4; have HB4 := Lib.hid hb4; have HO4 := Lib.hid hown4; have HG4 := Lib.hid hg4; have HA4 := Lib.hid hat4; clear hb4 hown4 hg4 hat4)
  obtain ⟨hgr, hch⟩ := GRow.grown (Ty := TTy) (x := ((p, [], false) : StmT)) (a := none) (n := 0) (ca := 0) (f := fun x : StmT => x.2.1) HM.out HRow.out HOwn.out HAt.out ((Below.refl _ _).alloc (Nat.le_refl _) _) (by decide) (.inl rfl) HO4.out HG4.out (by rcases HA4.out with h | h; exact .inl h; exact .inr (by omega)) (.inl ⟨rfl, rfl⟩) (fun q e => by cases e)
  have hw5 : W7 (w4.setCell ⟨r, 4, none⟩ (.slice (some ⟨g4, 0, none⟩) (L.length + 1) cap4)) r now cnt vF vS (.slice (some ⟨g4, 0, none⟩) (L.length + 1) cap4) vR syn := heap_setCell_eq _ _ _ _ _ _ _ HB4.out
  have hs5 : (w4.setCell ⟨r, 4, none⟩ (.slice (some ⟨g4, 0, none⟩) (L.length + 1) cap4)).heap.size = w4.heap.size := size_setCell' _ _ _
  have hch5 : Chg (nw R w w4) WTy w4 (w4.setCell ⟨r, 4, none⟩ (.slice (some ⟨g4, 0, none⟩) (L.length + 1) cap4)) := Chg.set (R := nw R w w4) (Ty := WTy) HB4.out (Or.inl hR) (show WTy _ from rfl) 4 _
  clear c4 f4'
  generalize (w4.setCell ⟨r, 4, none⟩ (.slice (some ⟨g4, 0, none⟩) (L.length + 1) cap4)) = w5 at *
  have HW5 := Lib.hid hw5
  have k5 : w5.cell? ⟨r, 4, none⟩ = some (.slice (some ⟨g4, 0, none⟩) (L.length + 1) cap4) := by unfold W7 at hw5; simp [World.cell?, hw5]
  have hwr : IntKind.i64.wrap (((L.length + 1 : Nat) : Int) - 1) = (L.length : Int) := by simp [IntKind.wrap, IntKind.bits, IntKind.signed]; omega
  have HGr := Lib.hid hgr
  have HCh := Lib.hid hch
  have HCh5 := Lib.hid hch5
  clear hw5 hgr hch hch5
  go_wp2
  go_ret
  refine ⟨by simp, _, HW5.out, ?_, HCh.out.trans (HCh5.out.ty (fun t e => .inr e)) (fun j hj h => h.elim id (fun h => by omega))⟩
  have := HGr.out.chg (R' := nw R w w5) HCh5.out (by unfold WTy; decide) (by unfold WTy; decide) (fun k hk => hk.elim .inl (fun h => .inr ⟨h.1, by rw [hs5]; exact h.2⟩))
  simpa using this
end
end Go.Proofs.Ytaaiicfclaeapaa

namespace Go.Proofs.Ytaaiicfclaeapaa
open Go.RowKit Go.Mp Go.Rb Go.Lib
def fput (p : ByteArray) (x : FilD) (L : List FilD) : List FilD := (fadd p L).set (fidx p L) x
theorem fidx_lt (p : ByteArray) (L : List FilD) : fidx p L < (fadd p L).length := by
  unfold fadd
  split
  · assumption
  · have := fidx_le p L
    rw [List.length_append]
    simp
    omega
theorem fadd_len (p : ByteArray) (L : List FilD) : (fadd p L).length ≤ L.length + 1 := by
  unfold fadd
  split
  · omega
  · simp
theorem RB.chg {Q : Nat → Prop} {Ty : TypeId → Prop} {w w' : World} {a : Option Addr} {n ca : Nat} {l : List UInt8} (h : RB 0 w (.slice a n ca) l) (hc : Chg Q Ty w w') (h8 : ¬ Ty 5) : RB 0 w' (.slice a n ca) l :=
  RB.keepB h (fun q cs fr _ hq => hc.keep _ (Array.getElem?_eq_some_iff.1 hq).1 (.inr (fun cs' t fr' e3 ht => by
    rw [hq] at e3
    cases e3
    exact h8 ht)))
theorem cse {w : World} {g j : Nat} {v : Value} {a : Addr} (h : a.block ≠ g) : (w.setCell ⟨g, j, none⟩ v).cell? a = w.cell? a := World.cell?_of_block (heap_setCell_ne _ _ _ _ _ h)
theorem nw_nw {R : Nat → Prop} {w w2 w3 w5 : World} (h1 : w.heap.size ≤ w3.heap.size) (h2 : w2.heap.size ≤ w5.heap.size) (k : Nat) (h : nw (nw R w w2) w3 w5 k) : nw R w w5 k := by
  rcases h with (h | h) | h
  · exact .inl h
  · exact .inr ⟨h.1, by omega⟩
  · exact .inr ⟨by omega, h.2⟩
section
variable {R : Nat → Prop} {r : Nat} {now cnt syn : Int} {v vS vT vR : Value} {L : List FilD}
/-- The element of the row ahead of its writing. -/
theorem el4 {R : Nat → Prop} {w : World} {v : Value} {L : List FilD} (h : FRow R w v L) {i : Nat} (hi : i < L.length) :
    ∃ (M : List (FilD × Value)) (g cap : Nat) (z0 z1 z2 z3 : Value) (A zs : List Value), M.map (·.1) = L ∧ v = .slice (some ⟨g, 0, none⟩) L.length cap ∧ L.length ≤ cap ∧ cap ≤ maxLen ∧ R g ∧ w.ownsRow 0 69 4 (.slice (some ⟨g, 0, none⟩) L.length cap) L.length (M.flatMap fun x => filC x.1 x.2) ∧ (∀ x ∈ M, ∃ (a : Option Addr) (n ca : Nat), x.2 = .slice a n ca ∧ RB 0 w (.slice a n ca) x.1.2.1 ∧ ∀ q, a = some q → R q.block) ∧
      A.length = i * 4 ∧ (M.flatMap fun x => filC x.1 x.2) = A ++ z0 :: z1 :: z2 :: z3 :: zs ∧ (∀ x va, (M.set i (x, va)).flatMap (fun x => filC x.1 x.2) = (A ++ filC x va) ++ zs) ∧
      ∀ W, Below w.heap.size w W → W.cell? ⟨g, i * 4, none⟩ = some z0 ∧ W.cell? ⟨g, i * 4 + 1, none⟩ = some z1 ∧ W.cell? ⟨g, i * 4 + 2, none⟩ = some z2 ∧ W.cell? ⟨g, i * 4 + 3, none⟩ = some z3 ∧ W.frozen? ⟨g, i * 4, none⟩ = false ∧ W.frozen? ⟨g, i * 4 + 1, none⟩ = false ∧ W.frozen? ⟨g, i * 4 + 2, none⟩ = false ∧ W.frozen? ⟨g, i * 4 + 3, none⟩ = false := by
  obtain ⟨M, hM, hrow, hown, hat⟩ := h
  have hMl : M.length = L.length := by rw [← hM]; simp
  obtain ⟨y, hy⟩ : ∃ y, M[i]? = some y := ⟨_, List.getElem?_eq_getElem (by omega)⟩
  rcases hrow.2 with ⟨_, b⟩ | ⟨g, cap, cur, hv, _, hg, hlc, hcm, hcs, htk⟩
  · omega
  · subst hv
    obtain ⟨A, zs, hA, hf, _⟩ := flat_split filC_len hy y
    have hAset : ∀ x va, (M.set i (x, va)).flatMap (fun x => filC x.1 x.2) = (A ++ filC x va) ++ zs := fun x va => by
      obtain ⟨A', zs', hA', hf', hz'⟩ := flat_split filC_len hy (x, va)
      have e : A' ++ (filC y.1 y.2 ++ zs') = A ++ (filC y.1 y.2 ++ zs) := by rw [← hf', hf]
      have e1 := List.append_inj e (by rw [hA, hA'])
      have e2 := List.append_inj e1.2 rfl
      rw [hz', e1.1, e2.2, List.append_assoc]
    refine ⟨M, g, cap, .string y.1.1, y.2, .int .i64 y.1.2.2.1, .bool y.1.2.2.2, A, zs, hM, rfl, hlc, hcm, hown g rfl, hrow, hat, hA, hf, hAset, fun W hW => ?_⟩
    have hgl := (Array.getElem?_eq_some_iff.1 hg).1
    have hr2 : W.ownsRow 0 69 4 (.slice (some ⟨g, 0, none⟩) L.length cap) L.length (M.flatMap fun x => filC x.1 x.2) := ⟨hrow.1, .inr ⟨g, cap, cur, rfl, Nat.zero_le _, (hW.block g hgl).trans hg, hlc, hcm, hcs, htk⟩⟩
    refine ⟨?_, ?_, ?_, ?_, hr2.frozenAt _, hr2.frozenAt _, hr2.frozenAt _, hr2.frozenAt _⟩
    · rw [hr2.cellAt _ (by omega)]; exact flatC_at filC_len M i 0 y hy (by decide)
    · rw [hr2.cellAt _ (by omega)]; exact flatC_at filC_len M i 1 y hy (by decide)
    · rw [hr2.cellAt _ (by omega)]; exact flatC_at filC_len M i 2 y hy (by decide)
    · rw [hr2.cellAt _ (by omega)]; exact flatC_at filC_len M i 3 y hy (by decide)
set_option maxHeartbeats 1000000 in
set_option maxRecDepth 100000 in
theorem put_d {w : World} (hW : W7 w r now cnt v vS vT vR syn) (hF : FRow R w v L) (hR : R r) (hL : L.length ≤ 900) (hc0 : 0 ≤ cnt) (hc1 : cnt ≤ 1000000) (p : ByteArray) (a : Option Addr) (n c : Nat) (l : List UInt8) (hr : RB 0 w (.slice a n c) l) (hl : l.length ≤ 1000000) :
    Calls Try.prog 10 #[.pointer (some ⟨r, 0, none⟩), .string p, .slice a n c] w fun e w' => e = .returned (.tuple #[]) ∧ ∃ v', W7 w' r now (cnt + 1) v' vS vT vR syn ∧ FRow (nw R w w') w' v' (fput p (p, l, cnt + 1, true) L) ∧ Chg R FTy w w' := by
  have HAt := Lib.hid (at_d hW hF hR (by omega) p)
  have HBd := Lib.hid hr
  obtain ⟨i, hi⟩ : ∃ i, fidx p L = i := ⟨_, rfl⟩
  obtain ⟨L2, hL2⟩ : ∃ L2, fadd p L = L2 := ⟨_, rfl⟩
  have hil : i < L2.length := by rw [← hi, ← hL2]; exact fidx_lt p L
  have hL2l : L2.length ≤ 1000 := by have := fadd_len p L; rw [hL2] at this; omega
  unfold fput
  rw [hi, hL2] at HAt ⊢
  clear hW hF hr hi hL2
  obtain ⟨ib, hib, hz0, hz1, hz2⟩ := info_parts' infoU8
  have hwr : IntKind.i64.wrap (cnt + 1) = cnt + 1 := by simp [IntKind.wrap, IntKind.bits, IntKind.signed]; omega
  have H1 : Hid (∀ w2, (∃ v', W7 w2 r now cnt v' vS vT vR syn ∧ FRow (nw R w w2) w2 v' L2 ∧ Chg R FTy w w2) → w2.cell? ⟨r, 1, none⟩ = some (.int .i64 cnt) ∧ w2.frozen? ⟨r, 1, none⟩ = false ∧
      ∃ (M : List (FilD × Value)) (g cap : Nat) (z0 z1 z2 z3 : Value) (A zs : List Value), L2.length ≤ cap ∧ cap ≤ maxLen ∧ Hid (M.map (·.1) = L2 ∧ nw R w w2 g ∧ (w2.setCell ⟨r, 1, none⟩ (.int .i64 (cnt + 1))).ownsRow 0 69 4 (.slice (some ⟨g, 0, none⟩) L2.length cap) L2.length (M.flatMap fun x => filC x.1 x.2) ∧ (∀ x ∈ M, ∃ (a : Option Addr) (n ca : Nat), x.2 = .slice a n ca ∧ RB 0 (w2.setCell ⟨r, 1, none⟩ (.int .i64 (cnt + 1))) (.slice a n ca) x.1.2.1 ∧ ∀ q, a = some q → nw R w w2 q.block) ∧
      A.length = i * 4 ∧ (M.flatMap fun x => filC x.1 x.2) = A ++ z0 :: z1 :: z2 :: z3 :: zs ∧ (∀ x va, (M.set i (x, va)).flatMap (fun x => filC x.1 x.2) = (A ++ filC x va) ++ zs)) ∧ Hid (W7 (w2.setCell ⟨r, 1, none⟩ (.int .i64 (cnt + 1))) r now (cnt + 1) (.slice (some ⟨g, 0, none⟩) L2.length cap) vS vT vR syn) ∧ Hid (Chg R FTy w (w2.setCell ⟨r, 1, none⟩ (.int .i64 (cnt + 1)))) ∧ Hid (RB 0 (w2.setCell ⟨r, 1, none⟩ (.int .i64 (cnt + 1))) (.slice a n c) l) ∧ Hid (w2.heap.size = (w2.setCell ⟨r, 1, none⟩ (.int .i64 (cnt + 1))).heap.size) ∧
      Hid (∀ W, Below (w2.setCell ⟨r, 1, none⟩ (.int .i64 (cnt + 1))).heap.size (w2.setCell ⟨r, 1, none⟩ (.int .i64 (cnt + 1))) W → W.cell? ⟨r, 1, none⟩ = some (.int .i64 (cnt + 1)) ∧ W.cell? ⟨r, 2, none⟩ = some (.slice (some ⟨g, 0, none⟩) L2.length cap) ∧ W.cell? ⟨g, i * 4, none⟩ = some z0 ∧ W.cell? ⟨g, i * 4 + 1, none⟩ = some z1 ∧ W.cell? ⟨g, i * 4 + 2, none⟩ = some z2 ∧ W.cell? ⟨g, i * 4 + 3, none⟩ = some z3 ∧ W.frozen? ⟨g, i * 4, none⟩ = false ∧ W.frozen? ⟨g, i * 4 + 1, none⟩ = false ∧ W.frozen? ⟨g, i * 4 + 2, none⟩ = false ∧ W.frozen? ⟨g, i * 4 + 3, none⟩ = false)) := Lib.hid (fun w2 ⟨v', h1, h2, h3⟩ => by
    have hch : Chg (nw R w w2) WTy w2 (w2.setCell ⟨r, 1, none⟩ (.int .i64 (cnt + 1))) := Chg.set (R := nw R w w2) (Ty := WTy) h1 (Or.inl hR) (show WTy _ from rfl) 1 _
    have h4 := h2.chg (R' := nw R w w2) hch (by unfold WTy; decide) (by unfold WTy; decide) (fun _ h => h)
    obtain ⟨M, g, cap, z0, z1, z2, z3, A, zs, e1, e2, e3, e4, e5, e6, e7, e8, e9, e10, e11⟩ := el4 h4 hil
    subst e2
    have h5 : W7 (w2.setCell ⟨r, 1, none⟩ (.int .i64 (cnt + 1))) r now (cnt + 1) (.slice (some ⟨g, 0, none⟩) L2.length cap) vS vT vR syn := heap_setCell_eq _ _ _ _ _ _ _ h1
    have h6 : Chg R FTy w (w2.setCell ⟨r, 1, none⟩ (.int .i64 (cnt + 1))) := h3.trans (hch.ty (fun t e => .inr e)) (fun j hj h => h.elim id (fun h => by omega))
    have h1' := h1
    unfold W7 at h1'
    refine ⟨by simp [World.cell?, h1'], by simp [World.frozen?, h1'], M, g, cap, z0, z1, z2, z3, A, zs, e3, e4, Lib.hid ⟨e1, e5, e6, e7, e8, e9, e10⟩, Lib.hid h5, Lib.hid h6, Lib.hid (RB.chg HBd.out h6 (by unfold FTy; decide)), Lib.hid (size_setCell' _ _ _).symm, Lib.hid (fun W hW => ?_)⟩
    have h7 : W7 W r now (cnt + 1) (.slice (some ⟨g, 0, none⟩) L2.length cap) vS vT vR syn := (hW.block r h5.lt).trans h5
    unfold W7 at h7
    exact ⟨by simp [World.cell?, h7], by simp [World.cell?, h7], e11 W hW⟩)
  go_enter Try.func10, Try.ntmps10
  go_upto_region 2 with (go_at_call 32; refine HAt.out.mono ?_; rintro e w2 ⟨rfl, h2⟩; obtain ⟨k1, f1, M, g, cap, z0, z1, z2, z3, A, zs, q1, q2, HM, HW3, HC3, HB3, HSz, HX⟩ := H1.out w2 h2)
  clear k1 f1 h2
  generalize (w2.setCell ⟨r, 1, none⟩ (.int .i64 (cnt + 1))) = w3 at *
  obtain ⟨k1, k2, y0, y1, y2, y3, g0, g1, g2, g3⟩ := HX.out w3 (Below.refl _ _)
  have hi0 : (0 : Int) ≤ (i : Int) := by omega
  have hi1 : (i : Int) < (L2.length : Int) := by omega
  unfold maxLen at q2
  have HSrc : Hid (∀ W, Below w3.heap.size w3 W → Src Try.prog W (.slice a n c) l) := Lib.hid (fun W hW => RB.src (RB.below HB3.out hW))
  have hgr : r ≠ g := fun e => by
    subst e
    have h1 := HW3.out
    unfold W7 at h1
    rcases HM.out.2.2.1.2 with ⟨e3, _⟩ | ⟨g2, cp, cur2, e3, _, hg, _⟩
    · cases e3
    · cases e3
      rw [h1] at hg
      cases hg
  have HS : Hid (∀ W, Below w3.heap.size w3 W → W.cell? ⟨r, 1, none⟩ = some (.int .i64 (cnt + 1)) ∧ W.cell? ⟨r, 2, none⟩ = some (.slice (some ⟨g, 0, none⟩) L2.length cap)) := Lib.hid (fun W hW => ⟨(HX.out W hW).1, (HX.out W hW).2.1⟩)
  have HY : Hid (∀ W, Below w3.heap.size w3 W → W.cell? ⟨g, i * 4, none⟩ = some z0 ∧ W.cell? ⟨g, i * 4 + 1, none⟩ = some z1 ∧ W.cell? ⟨g, i * 4 + 2, none⟩ = some z2 ∧ W.cell? ⟨g, i * 4 + 3, none⟩ = some z3 ∧ W.frozen? ⟨g, i * 4, none⟩ = false ∧ W.frozen? ⟨g, i * 4 + 1, none⟩ = false ∧ W.frozen? ⟨g, i * 4 + 2, none⟩ = false ∧ W.frozen? ⟨g, i * 4 + 3, none⟩ = false) := Lib.hid (fun W hW => (HX.out W hW).2.2)
  clear H1 HAt HBd k1 k2 y0 y1 y2 y3 g0 g1 g2 g3 HX
  go_region_held3 (fun W => W.cell? ⟨r, 1, none⟩ = some (.int .i64 (cnt + 1)) ∧ W.cell? ⟨r, 2, none⟩ = some (.slice (some ⟨g, 0, none⟩) L2.length cap)) (first | exact HS.out _ (Below.refl _ _) | exact HS.out _ (Below.refl _ _).drew | exact HS.out _ HB4.out | exact ⟨by rw [cse hgr, cse hgr, cse hgr, cse hgr]; exact (HS.out _ HB4.out).1, by rw [cse hgr, cse hgr, cse hgr, cse hgr]; exact (HS.out _ HB4.out).2⟩) (((refine step_append_rb (B := w3.heap.size) (l := []) (m := l) (sv := .slice none 0 0) (v := .slice a n c) rfl _ _ 33 33 rfl Try.underlying33 Try.underlying33 (by intro k h; cases h) hib hz0 hz1 hz2 rfl rfl (.inl ⟨rfl, rfl⟩) (HSrc.out _ (Below.refl _ _).drew) (Nat.le_refl _) (by simpa using hl) ?_; intro s4 w4 hr4 hb4; obtain ⟨p4, c4, rfl, hp4, hp5⟩ := RB.shape hr4; have HR4 := Lib.hid hr4; have HB4 := Lib.hid ((Below.refl _ w3).drew.trans hb4); obtain ⟨y0', y1', y2', y3', g0', g1', g2', g3'⟩ := HY.out _ HB4.out; clear hr4 hb4)))
  go_end0
  have hz4 := HB4.out.size
  have hs2 := HSz.out
  have hsz5 : ∀ (W : World) j1 v1 j2 v2 j3 v3 j4 v4, ((((W.setCell ⟨g, j1, none⟩ v1).setCell ⟨g, j2, none⟩ v2).setCell ⟨g, j3, none⟩ v3).setCell ⟨g, j4, none⟩ v4).heap.size = W.heap.size := fun W j1 v1 j2 v2 j3 v3 j4 v4 => by rw [size_setCell', size_setCell', size_setCell', size_setCell']
  have hne5 : ∀ (W : World) j1 v1 j2 v2 j3 v3 j4 v4 k, k ≠ g → ((((W.setCell ⟨g, j1, none⟩ v1).setCell ⟨g, j2, none⟩ v2).setCell ⟨g, j3, none⟩ v3).setCell ⟨g, j4, none⟩ v4).heap[k]? = W.heap[k]? := fun W j1 v1 j2 v2 j3 v3 j4 v4 k hk => by rw [heap_setCell_ne _ _ _ _ _ hk, heap_setCell_ne _ _ _ _ _ hk, heap_setCell_ne _ _ _ _ _ hk, heap_setCell_ne _ _ _ _ _ hk]
  obtain ⟨m1, m2, m3, m4, m5, m6, m7⟩ := HM.out
  have hrow4 : w4.ownsRow 0 69 4 (.slice (some ⟨g, 0, none⟩) L2.length cap) L2.length (A ++ z0 :: z1 :: z2 :: z3 :: zs) := by
    rw [← m6]
    exact ⟨m3.1, m3.2.imp id (fun ⟨g, cp, cur, e, r1, r2, r3⟩ => ⟨g, cp, cur, e, r1, (HB4.out.block g (Array.getElem?_eq_some_iff.1 r2).1).trans r2, r3⟩)⟩
  have hrow5 := ((((hrow4.stored (i * 4) (.string p)).1.stored (i * 4 + 1) (.slice p4 l.length c4)).1.stored (i * 4 + 2) (.int .i64 (cnt + 1))).1.stored (i * 4 + 3) (.bool true)).1
  rw [set4 A (i * 4) m5] at hrow5
  have hgu := GRow.upd (Ty := FTy) (f := fun x : FilD => x.2.1) (x := ((p, l, cnt + 1, true) : FilD)) (a := p4) (n := l.length) (ca := c4) (i := i) (c := filC) (wB := (((w4.setCell ⟨g, i * 4, none⟩ (.string p)).setCell ⟨g, i * 4 + 1, none⟩ (.slice p4 l.length c4)).setCell ⟨g, i * 4 + 2, none⟩ (.int .i64 (cnt + 1))).setCell ⟨g, i * 4 + 3, none⟩ (.bool true)) m1 m3 m2 m4 HB4.out (by decide) (.inl rfl) (by rw [m7]; exact hrow5) (hsz5 _ _ _ _ _ _ _ _ _) ⟨rfl, rfl, rfl⟩ (fun j hj => hne5 _ _ _ _ _ _ _ _ _ j hj) (RB.base HR4.out (Nat.zero_le _)) (fun q e => .inr (RB.blk HR4.out e))
  have hw3 := HC3.out.size
  refine ⟨rfl, .slice (some ⟨g, 0, none⟩) L2.length cap, (hne5 _ _ _ _ _ _ _ _ _ r hgr).trans ((HB4.out.block r HW3.out.lt).trans HW3.out), hgu.1.same (fun _ _ => rfl) (nw_nw hw3 (by rw [hsz5]; omega)), HC3.out.trans hgu.2 (fun j hj h => h.elim id (fun h => by omega))⟩
end
end Go.Proofs.Ytaaiicfclaeapaa

namespace Go.Proofs.Ytaaiicfclaeapaa
open Go.RowKit Go.Mp Go.Rb Go.Lib
theorem cdr {w : World} {a : Addr} : w.drew.cell? a = w.cell? a := rfl
section
variable {R : Nat → Prop} {r : Nat} {now cnt syn : Int} {v vS vT vR : Value} {L : List FilD}
set_option maxHeartbeats 1000000 in
set_option maxRecDepth 100000 in
theorem remove_d {w : World} (hW : W7 w r now cnt v vS vT vR syn) (hF : FRow R w v L) (hR : R r) (hL : L.length ≤ 900) (hc0 : 0 ≤ cnt) (hc1 : cnt ≤ 1000000) (p : ByteArray) :
    Calls Try.prog 12 #[.pointer (some ⟨r, 0, none⟩), .string p] w fun e w' => e = .returned (.tuple #[]) ∧ ∃ v', W7 w' r now (cnt + 1) v' vS vT vR syn ∧ FRow (nw R w w') w' v' (fput p (p, [], cnt + 1, false) L) ∧ Chg R FTy w w' := by
  have HAt := Lib.hid (at_d hW hF hR (by omega) p)
  obtain ⟨i, hi⟩ : ∃ i, fidx p L = i := ⟨_, rfl⟩
  obtain ⟨L2, hL2⟩ : ∃ L2, fadd p L = L2 := ⟨_, rfl⟩
  have hil : i < L2.length := by rw [← hi, ← hL2]; exact fidx_lt p L
  have hL2l : L2.length ≤ 1000 := by have := fadd_len p L; rw [hL2] at this; omega
  unfold fput
  rw [hi, hL2] at HAt ⊢
  clear hW hF hi hL2
  obtain ⟨ib, hib, hz0, hz1, hz2⟩ := info_parts' infoU8
  have hwr : IntKind.i64.wrap (cnt + 1) = cnt + 1 := by simp [IntKind.wrap, IntKind.bits, IntKind.signed]; omega
  have H1 : Hid (∀ w2, (∃ v', W7 w2 r now cnt v' vS vT vR syn ∧ FRow (nw R w w2) w2 v' L2 ∧ Chg R FTy w w2) → w2.cell? ⟨r, 1, none⟩ = some (.int .i64 cnt) ∧ w2.frozen? ⟨r, 1, none⟩ = false ∧
      ∃ (M : List (FilD × Value)) (g cap : Nat) (z0 z1 z2 z3 : Value) (A zs : List Value), L2.length ≤ cap ∧ cap ≤ maxLen ∧ Hid (M.map (·.1) = L2 ∧ nw R w w2 g ∧ (w2.setCell ⟨r, 1, none⟩ (.int .i64 (cnt + 1))).ownsRow 0 69 4 (.slice (some ⟨g, 0, none⟩) L2.length cap) L2.length (M.flatMap fun x => filC x.1 x.2) ∧ (∀ x ∈ M, ∃ (a : Option Addr) (n ca : Nat), x.2 = .slice a n ca ∧ RB 0 (w2.setCell ⟨r, 1, none⟩ (.int .i64 (cnt + 1))) (.slice a n ca) x.1.2.1 ∧ ∀ q, a = some q → nw R w w2 q.block) ∧
      A.length = i * 4 ∧ (M.flatMap fun x => filC x.1 x.2) = A ++ z0 :: z1 :: z2 :: z3 :: zs ∧ (∀ x va, (M.set i (x, va)).flatMap (fun x => filC x.1 x.2) = (A ++ filC x va) ++ zs)) ∧ Hid (W7 (w2.setCell ⟨r, 1, none⟩ (.int .i64 (cnt + 1))) r now (cnt + 1) (.slice (some ⟨g, 0, none⟩) L2.length cap) vS vT vR syn) ∧ Hid (Chg R FTy w (w2.setCell ⟨r, 1, none⟩ (.int .i64 (cnt + 1)))) ∧ Hid (w2.heap.size = (w2.setCell ⟨r, 1, none⟩ (.int .i64 (cnt + 1))).heap.size) ∧
      Hid (∀ W, Below (w2.setCell ⟨r, 1, none⟩ (.int .i64 (cnt + 1))).heap.size (w2.setCell ⟨r, 1, none⟩ (.int .i64 (cnt + 1))) W → W.cell? ⟨r, 1, none⟩ = some (.int .i64 (cnt + 1)) ∧ W.cell? ⟨r, 2, none⟩ = some (.slice (some ⟨g, 0, none⟩) L2.length cap) ∧ W.cell? ⟨g, i * 4, none⟩ = some z0 ∧ W.cell? ⟨g, i * 4 + 1, none⟩ = some z1 ∧ W.cell? ⟨g, i * 4 + 2, none⟩ = some z2 ∧ W.cell? ⟨g, i * 4 + 3, none⟩ = some z3 ∧ W.frozen? ⟨g, i * 4, none⟩ = false ∧ W.frozen? ⟨g, i * 4 + 1, none⟩ = false ∧ W.frozen? ⟨g, i * 4 + 2, none⟩ = false ∧ W.frozen? ⟨g, i * 4 + 3, none⟩ = false)) := Lib.hid (fun w2 ⟨v', h1, h2, h3⟩ => by
    have hch : Chg (nw R w w2) WTy w2 (w2.setCell ⟨r, 1, none⟩ (.int .i64 (cnt + 1))) := Chg.set (R := nw R w w2) (Ty := WTy) h1 (Or.inl hR) (show WTy _ from rfl) 1 _
    have h4 := h2.chg (R' := nw R w w2) hch (by unfold WTy; decide) (by unfold WTy; decide) (fun _ h => h)
    obtain ⟨M, g, cap, z0, z1, z2, z3, A, zs, e1, e2, e3, e4, e5, e6, e7, e8, e9, e10, e11⟩ := el4 h4 hil
    subst e2
    have h5 : W7 (w2.setCell ⟨r, 1, none⟩ (.int .i64 (cnt + 1))) r now (cnt + 1) (.slice (some ⟨g, 0, none⟩) L2.length cap) vS vT vR syn := heap_setCell_eq _ _ _ _ _ _ _ h1
    have h6 : Chg R FTy w (w2.setCell ⟨r, 1, none⟩ (.int .i64 (cnt + 1))) := h3.trans (hch.ty (fun t e => .inr e)) (fun j hj h => h.elim id (fun h => by omega))
    have h1' := h1
    unfold W7 at h1'
    refine ⟨by simp [World.cell?, h1'], by simp [World.frozen?, h1'], M, g, cap, z0, z1, z2, z3, A, zs, e3, e4, Lib.hid ⟨e1, e5, e6, e7, e8, e9, e10⟩, Lib.hid h5, Lib.hid h6, Lib.hid (size_setCell' _ _ _).symm, Lib.hid (fun W hW => ?_)⟩
    have h7 : W7 W r now (cnt + 1) (.slice (some ⟨g, 0, none⟩) L2.length cap) vS vT vR syn := (hW.block r h5.lt).trans h5
    unfold W7 at h7
    exact ⟨by simp [World.cell?, h7], by simp [World.cell?, h7], e11 W hW⟩)
  go_enter Try.func12, Try.ntmps12
  go_upto_region 2 with (go_at_call 32; refine HAt.out.mono ?_; rintro e w2 ⟨rfl, h2⟩; obtain ⟨k1, f1, M, g, cap, z0, z1, z2, z3, A, zs, q1, q2, HM, HW3, HC3, HSz, HX⟩ := H1.out w2 h2)
  clear k1 f1 h2
  generalize (w2.setCell ⟨r, 1, none⟩ (.int .i64 (cnt + 1))) = w3 at *
  obtain ⟨k1, k2, y0, y1, y2, y3, g0, g1, g2, g3⟩ := HX.out w3 (Below.refl _ _)
  have hi0 : (0 : Int) ≤ (i : Int) := by omega
  have hi1 : (i : Int) < (L2.length : Int) := by omega
  unfold maxLen at q2
  have hgr : r ≠ g := fun e => by
    subst e
    have h1 := HW3.out
    unfold W7 at h1
    rcases HM.out.2.2.1.2 with ⟨e3, _⟩ | ⟨g2, cp, cur2, e3, _, hg, _⟩
    · cases e3
    · cases e3
      rw [h1] at hg
      cases hg
  have HS : Hid (∀ W, Below w3.heap.size w3 W → W.cell? ⟨r, 1, none⟩ = some (.int .i64 (cnt + 1)) ∧ W.cell? ⟨r, 2, none⟩ = some (.slice (some ⟨g, 0, none⟩) L2.length cap)) := Lib.hid (fun W hW => ⟨(HX.out W hW).1, (HX.out W hW).2.1⟩)
  have HY : Hid (∀ W, Below w3.heap.size w3 W → W.cell? ⟨g, i * 4, none⟩ = some z0 ∧ W.cell? ⟨g, i * 4 + 1, none⟩ = some z1 ∧ W.cell? ⟨g, i * 4 + 2, none⟩ = some z2 ∧ W.cell? ⟨g, i * 4 + 3, none⟩ = some z3 ∧ W.frozen? ⟨g, i * 4, none⟩ = false ∧ W.frozen? ⟨g, i * 4 + 1, none⟩ = false ∧ W.frozen? ⟨g, i * 4 + 2, none⟩ = false ∧ W.frozen? ⟨g, i * 4 + 3, none⟩ = false) := Lib.hid (fun W hW => (HX.out W hW).2.2)
  clear H1 HAt k1 k2 y0 y1 y2 y3 g0 g1 g2 g3 HX
  obtain ⟨y0', y1', y2', y3', g0', g1', g2', g3'⟩ := HY.out _ (Below.refl _ _)
  go_region_held3 (fun W => W.cell? ⟨r, 1, none⟩ = some (.int .i64 (cnt + 1)) ∧ W.cell? ⟨r, 2, none⟩ = some (.slice (some ⟨g, 0, none⟩) L2.length cap)) (first | exact HS.out _ (Below.refl _ _) | exact HS.out _ (Below.refl _ _).drew | exact ⟨by rw [cdr, cse hgr, cse hgr, cse hgr, cse hgr]; exact (HS.out _ (Below.refl _ _)).1, by rw [cdr, cse hgr, cse hgr, cse hgr, cse hgr]; exact (HS.out _ (Below.refl _ _)).2⟩) (fail)
  have HB4 : Hid (Below w3.heap.size w3 w3) := Lib.hid (Below.refl _ _)
  go_end0
  have hz4 := HB4.out.size
  have hs2 := HSz.out
  have hsz5 : ∀ (W : World) j1 v1 j2 v2 j3 v3 j4 v4, ((((W.setCell ⟨g, j1, none⟩ v1).setCell ⟨g, j2, none⟩ v2).setCell ⟨g, j3, none⟩ v3).setCell ⟨g, j4, none⟩ v4).heap.size = W.heap.size := fun W j1 v1 j2 v2 j3 v3 j4 v4 => by rw [size_setCell', size_setCell', size_setCell', size_setCell']
  have hne5 : ∀ (W : World) j1 v1 j2 v2 j3 v3 j4 v4 k, k ≠ g → ((((W.setCell ⟨g, j1, none⟩ v1).setCell ⟨g, j2, none⟩ v2).setCell ⟨g, j3, none⟩ v3).setCell ⟨g, j4, none⟩ v4).heap[k]? = W.heap[k]? := fun W j1 v1 j2 v2 j3 v3 j4 v4 k hk => by rw [heap_setCell_ne _ _ _ _ _ hk, heap_setCell_ne _ _ _ _ _ hk, heap_setCell_ne _ _ _ _ _ hk, heap_setCell_ne _ _ _ _ _ hk]
  obtain ⟨m1, m2, m3, m4, m5, m6, m7⟩ := HM.out
  have hrow4 : w3.ownsRow 0 69 4 (.slice (some ⟨g, 0, none⟩) L2.length cap) L2.length (A ++ z0 :: z1 :: z2 :: z3 :: zs) := by
    rw [← m6]
    exact ⟨m3.1, m3.2.imp id (fun ⟨g, cp, cur, e, r1, r2, r3⟩ => ⟨g, cp, cur, e, r1, (HB4.out.block g (Array.getElem?_eq_some_iff.1 r2).1).trans r2, r3⟩)⟩
  have hrow5 := ((((hrow4.stored (i * 4) (.string p)).1.stored (i * 4 + 1) (.slice none 0 0)).1.stored (i * 4 + 2) (.int .i64 (cnt + 1))).1.stored (i * 4 + 3) (.bool false)).1
  rw [set4 A (i * 4) m5] at hrow5
  have hgu := GRow.upd (Ty := FTy) (f := fun x : FilD => x.2.1) (x := ((p, [], cnt + 1, false) : FilD)) (a := none) (n := 0) (ca := 0) (i := i) (c := filC) (wB := ((((w3.setCell ⟨g, i * 4, none⟩ (.string p)).setCell ⟨g, i * 4 + 1, none⟩ (.slice none 0 0)).setCell ⟨g, i * 4 + 2, none⟩ (.int .i64 (cnt + 1))).setCell ⟨g, i * 4 + 3, none⟩ (.bool false)).drew) m1 m3 m2 m4 HB4.out (by decide) (.inl rfl) (by rw [m7]; exact hrow5) (hsz5 _ _ _ _ _ _ _ _ _) ⟨rfl, rfl, rfl⟩ (fun j hj => hne5 _ _ _ _ _ _ _ _ _ j hj) (.inl ⟨rfl, rfl⟩) (fun q e => by cases e)
  have hw3 := HC3.out.size
  refine ⟨rfl, .slice (some ⟨g, 0, none⟩) L2.length cap, (hne5 _ _ _ _ _ _ _ _ _ r hgr).trans ((HB4.out.block r HW3.out.lt).trans HW3.out), hgu.1.same (fun _ _ => rfl) (nw_nw hw3 (by show _ ≤ (((((w3.setCell ⟨g, i * 4, none⟩ (.string p)).setCell ⟨g, i * 4 + 1, none⟩ (.slice none 0 0)).setCell ⟨g, i * 4 + 2, none⟩ (.int .i64 (cnt + 1))).setCell ⟨g, i * 4 + 3, none⟩ (.bool false)).heap.size); rw [hsz5]; omega)), HC3.out.trans hgu.2 (fun j hj h => h.elim id (fun h => by omega))⟩
/-- What is told of a file. -/
def lookF (p : ByteArray) (L : List FilD) : FilD := ((fadd p L)[fidx p L]?).getD (p, [], 0, false)
set_option maxHeartbeats 1000000 in
set_option maxRecDepth 100000 in
theorem read_d {w : World} (hW : W7 w r now cnt v vS vT vR syn) (hF : FRow R w v L) (hR : R r) (hL : L.length ≤ 900) (p : ByteArray) (l : List UInt8) (st : Int) (th : Bool) (hx : (lookF p L).2 = (l, st, th)) :
    Calls Try.prog 40 #[.pointer (some ⟨r, 0, none⟩), .string p] w fun e w' => ∃ (a : Option Addr) (n ca : Nat), e = .returned (.tuple #[.slice a n ca, .int .i64 st, .bool th]) ∧ RB 0 w' (.slice a n ca) l ∧ ∃ v', W7 w' r now cnt v' vS vT vR syn ∧ FRow (nw R w w') w' v' (fadd p L) ∧ Chg R FTy w w' := by
  have HAt := Lib.hid (at_d hW hF hR (by omega) p)
  obtain ⟨i, hi⟩ : ∃ i, fidx p L = i := ⟨_, rfl⟩
  obtain ⟨L2, hL2⟩ : ∃ L2, fadd p L = L2 := ⟨_, rfl⟩
  have hil : i < L2.length := by rw [← hi, ← hL2]; exact fidx_lt p L
  have hL2l : L2.length ≤ 1000 := by have := fadd_len p L; rw [hL2] at this; omega
  unfold lookF at hx
  rw [hi, hL2] at hx
  rw [hi, hL2] at HAt
  rw [hL2]
  obtain ⟨x, hxi⟩ : ∃ x, L2[i]? = some x := ⟨_, List.getElem?_eq_getElem hil⟩
  rw [hxi] at hx
  obtain ⟨x0, x1, x2, x3⟩ := x
  cases hx
  have HXi := Lib.hid hxi
  clear hW hF hi hL2 hxi
  have H1 : Hid (∀ w2, (∃ v', W7 w2 r now cnt v' vS vT vR syn ∧ FRow (nw R w w2) w2 v' L2 ∧ Chg R FTy w w2) → ∃ (g cap : Nat) (a0 : Option Addr) (n0 ca0 : Nat), L2.length ≤ cap ∧ cap ≤ maxLen ∧ w2.cell? ⟨r, 2, none⟩ = some (.slice (some ⟨g, 0, none⟩) L2.length cap) ∧ w2.cell? ⟨g, i * 4, none⟩ = some (.string x0) ∧ w2.cell? ⟨g, i * 4 + 1, none⟩ = some (.slice a0 n0 ca0) ∧ w2.cell? ⟨g, i * 4 + 2, none⟩ = some (.int .i64 st) ∧ w2.cell? ⟨g, i * 4 + 3, none⟩ = some (.bool th) ∧ Hid (RB 0 w2 (.slice a0 n0 ca0) l) ∧ Hid (W7 w2 r now cnt (.slice (some ⟨g, 0, none⟩) L2.length cap) vS vT vR syn ∧ FRow (nw R w w2) w2 (.slice (some ⟨g, 0, none⟩) L2.length cap) L2 ∧ Chg R FTy w w2)) := Lib.hid (fun w2 ⟨v', h1, h2, h3⟩ => by
    obtain ⟨g, cap, a0, n0, ca0, hv, _, e1, e2, _, e3, _, e4⟩ := h2.get filC_len HXi.out
    subst hv
    have h1' := h1
    unfold W7 at h1'
    exact ⟨g, cap, a0, n0, ca0, e1, e2, by simp [World.cell?, h1'], e4 0 _ rfl, e4 1 _ rfl, e4 2 _ rfl, e4 3 _ rfl, Lib.hid e3, Lib.hid ⟨h1, h2, h3⟩⟩)
  go_enter Try.func40, Try.ntmps40
  go_upto_region 2 with (go_at_call 32; refine HAt.out.mono ?_; rintro e w2 ⟨rfl, h2⟩; obtain ⟨g, cap, a0, n0, ca0, q1, q2, k2, y0, y1, y2, y3, HR2, HA2⟩ := H1.out w2 h2)
  clear h2 H1 HAt
  have hi0 : (0 : Int) ≤ (i : Int) := by omega
  have hi1 : (i : Int) < (L2.length : Int) := by omega
  unfold maxLen at q2
  go_upto_region 3 with (fail)
  have hb3 : Below w2.heap.size w2 (w2.alloc (.cells #[.string x0, .slice a0 n0 ca0, .int .i64 st, .bool th] 69)) := (Below.refl _ _).alloc (Nat.le_refl _) _
  go_quiet (fail)
  have hb9 := bel_drewN hb3 nq
  obtain ⟨m1, m2, m3⟩ := HA2.out
  go_wp2
  refine bodyPost_ret (v := .tuple #[.slice a0 n0 ca0, .int .i64 st, .bool th]) (by simp [results, Try.results40, go_sem]) rfl ?_
  exact ⟨a0, n0, ca0, rfl, RB.below HR2.out hb9, _, (hb9.block r m1.lt).trans m1, m2.chg (R' := nw R w _) (Ty := fun _ => False) (Q := R) (Chg.of hb9) (fun h => h) (fun h => h) (fun k hk => hk.elim .inl (fun h => .inr ⟨h.1, Nat.lt_of_lt_of_le h.2 hb9.size⟩)), m3.trans (Chg.of (R := R) hb9) (fun _ _ h => h)⟩
end
end Go.Proofs.Ytaaiicfclaeapaa

namespace Go.Proofs.Ytaaiicfclaeapaa
open Go.RowKit Go.Mp Go.Rb Go.Lib
theorem el3 {R : Nat → Prop} {w : World} {v : Value} {L : List StmT} (h : TRow R w v L) {i : Nat} {x : StmT} (hx : L[i]? = some x) :
    ∃ (M : List (StmT × Value)) (g cap : Nat) (a0 : Option Addr) (n0 ca0 : Nat) (A zs : List Value), M.map (·.1) = L ∧ v = .slice (some ⟨g, 0, none⟩) L.length cap ∧ L.length ≤ cap ∧ cap ≤ maxLen ∧ R g ∧ w.ownsRow 0 72 3 (.slice (some ⟨g, 0, none⟩) L.length cap) L.length (M.flatMap fun x => strC x.1 x.2) ∧ (∀ x ∈ M, ∃ (a : Option Addr) (n ca : Nat), x.2 = .slice a n ca ∧ RB 0 w (.slice a n ca) x.1.2.1 ∧ ∀ q, a = some q → R q.block) ∧
      A.length = i * 3 ∧ (M.flatMap fun x => strC x.1 x.2) = A ++ .string x.1 :: .slice a0 n0 ca0 :: .bool x.2.2 :: zs ∧ (∀ y va, (M.set i (y, va)).flatMap (fun x => strC x.1 x.2) = (A ++ strC y va) ++ zs) ∧ RB 0 w (.slice a0 n0 ca0) x.2.1 ∧ (∀ q, a0 = some q → R q.block) ∧
      ∀ W, Below w.heap.size w W → W.cell? ⟨g, i * 3, none⟩ = some (.string x.1) ∧ W.cell? ⟨g, i * 3 + 1, none⟩ = some (.slice a0 n0 ca0) ∧ W.cell? ⟨g, i * 3 + 2, none⟩ = some (.bool x.2.2) ∧ W.frozen? ⟨g, i * 3, none⟩ = false ∧ W.frozen? ⟨g, i * 3 + 1, none⟩ = false ∧ W.frozen? ⟨g, i * 3 + 2, none⟩ = false := by
  obtain ⟨M, hM, hrow, hown, hat⟩ := h
  have hMl : M.length = L.length := by rw [← hM]; simp
  have hil := (List.getElem?_eq_some_iff.1 hx).1
  obtain ⟨y, hy⟩ : ∃ y, M[i]? = some y := ⟨_, List.getElem?_eq_getElem (by omega)⟩
  have hyx : y.1 = x := by rw [← hM, List.getElem?_map, hy] at hx; simpa using hx
  subst hyx
  obtain ⟨a0, n0, ca0, hy2, hr0, hq0⟩ := hat y (List.mem_of_getElem? hy)
  rcases hrow.2 with ⟨_, b⟩ | ⟨g, cap, cur, hv, _, hg, hlc, hcm, hcs, htk⟩
  · omega
  · subst hv
    obtain ⟨A, zs, hA, hf, _⟩ := flat_split strC_len hy y
    have hAset : ∀ x va, (M.set i (x, va)).flatMap (fun x => strC x.1 x.2) = (A ++ strC x va) ++ zs := fun x va => by
      obtain ⟨A', zs', hA', hf', hz'⟩ := flat_split strC_len hy (x, va)
      have e : A' ++ (strC y.1 y.2 ++ zs') = A ++ (strC y.1 y.2 ++ zs) := by rw [← hf', hf]
      have e1 := List.append_inj e (by rw [hA, hA'])
      have e2 := List.append_inj e1.2 rfl
      rw [hz', e1.1, e2.2, List.append_assoc]
    refine ⟨M, g, cap, a0, n0, ca0, A, zs, hM, rfl, hlc, hcm, hown g rfl, hrow, hat, hA, by rw [hf, ← hy2]; rfl, hAset, hr0, hq0, fun W hW => ?_⟩
    have hgl := (Array.getElem?_eq_some_iff.1 hg).1
    have hr2 : W.ownsRow 0 72 3 (.slice (some ⟨g, 0, none⟩) L.length cap) L.length (M.flatMap fun x => strC x.1 x.2) := ⟨hrow.1, .inr ⟨g, cap, cur, rfl, Nat.zero_le _, (hW.block g hgl).trans hg, hlc, hcm, hcs, htk⟩⟩
    refine ⟨?_, ?_, ?_, hr2.frozenAt _, hr2.frozenAt _, hr2.frozenAt _⟩
    · rw [hr2.cellAt _ (by omega)]; exact flatC_at strC_len M i 0 y hy (by decide)
    · rw [hr2.cellAt _ (by omega), ← hy2]; exact flatC_at strC_len M i 1 y hy (by decide)
    · rw [hr2.cellAt _ (by omega)]; exact flatC_at strC_len M i 2 y hy (by decide)
theorem set3_1 (A : List Value) (k : Nat) (hk : A.length = k) (z0 z1 z2 u : Value) (zs : List Value) : (A ++ z0 :: z1 :: z2 :: zs).set (k + 1) u = (A ++ [z0, u, z2]) ++ zs := by
  subst hk
  simp [List.set_append]
theorem set3_2 (A : List Value) (k : Nat) (hk : A.length = k) (z0 z1 z2 u : Value) (zs : List Value) : (A ++ z0 :: z1 :: z2 :: zs).set (k + 2) u = (A ++ [z0, z1, u]) ++ zs := by
  subst hk
  simp [List.set_append]
theorem closeL_out {L : List StmT} {k : Int} (h : k < 0 ∨ (L.length : Int) ≤ k) : closeL L k = L ∧ openB L k = false := by
  have : openB L k = false := by
    unfold openB
    by_cases h0 : k < 0
    · rw [if_pos h0]
    · rw [if_neg h0, List.getElem?_eq_none (by omega)]
  exact ⟨by unfold closeL; rw [this]; rfl, this⟩
theorem closeL_in {L : List StmT} {i : Nat} {x : StmT} (h : L[i]? = some x) : closeL L (i : Int) = L.set i (x.1, x.2.1, true) := by
  have ho : openB L (i : Int) = !x.2.2 := by
    unfold openB
    rw [if_neg (by omega)]
    simp [h]
  unfold closeL
  rw [ho]
  cases hx : x.2.2 with
  | false =>
    simp [h]
  | true =>
    simp only [Bool.not_true, Bool.false_eq_true, if_false]
    refine (List.ext_getElem? fun j => ?_)
    by_cases hj : i = j
    · subst hj
      rw [List.getElem?_set_self (List.getElem?_eq_some_iff.1 h).1, h, ← hx]
    · rw [List.getElem?_set_ne hj]
section
variable {R : Nat → Prop} {r : Nat} {now cnt syn : Int} {vF vS v vR : Value} {L : List StmT}
set_option maxHeartbeats 1000000 in
set_option maxRecDepth 100000 in
theorem close_d {w : World} (hW : W7 w r now cnt vF vS v vR syn) (hT : TRow R w v L) (hR : R r) (hL : L.length ≤ 1000) (k : Int) (hk : -9223372036854775808 ≤ k ∧ k ≤ 9223372036854775807) :
    Calls Try.prog 19 #[.pointer (some ⟨r, 0, none⟩), .int .i64 k] w fun e w' => e = .returned (.tuple #[]) ∧ W7 w' r now cnt vF vS v vR syn ∧ TRow (nw R w w') w' v (closeL L k) ∧ Chg R TTy w w' := by
  obtain ⟨q, cap, rfl⟩ := hT.shape
  have HW := Lib.hid hW
  have k4 : w.cell? ⟨r, 4, none⟩ = some (.slice q L.length cap) := by unfold W7 at hW; simp [World.cell?, hW]
  by_cases hin : k < 0 ∨ (L.length : Int) ≤ k
  · rw [(closeL_out hin).1]
    have HT := Lib.hid hT
    clear hW hT
    have hfin : TRow (nw R w w) w (.slice q L.length cap) L := HT.out.same (fun _ _ => rfl) (fun k hk => .inl hk)
    have HF := Lib.hid hfin
    clear hfin
    by_cases h0 : k < 0
    · have h1 : ¬ (0 : Int) ≤ k := by omega
      go_enter Try.func19, Try.ntmps19
      go_wp2
      go_end0
      exact ⟨rfl, HW.out, HF.out, Chg.refl _ _ _⟩
    · have h1 : (0 : Int) ≤ k := by omega
      have h2 : ¬ k < (L.length : Int) := by omega
      go_enter Try.func19, Try.ntmps19
      go_wp2
      go_end0
      exact ⟨rfl, HW.out, HF.out, Chg.refl _ _ _⟩
  · obtain ⟨i, rfl⟩ : ∃ i : Nat, k = (i : Int) := ⟨k.toNat, by omega⟩
    have hil : i < L.length := by omega
    obtain ⟨x, hx⟩ : ∃ x, L[i]? = some x := ⟨_, List.getElem?_eq_getElem hil⟩
    rw [closeL_in hx]
    obtain ⟨M, g, cap2, a0, n0, ca0, A, zs, m1, hv, q1, q2, m2, m3, m4, m5, m6, m7, m8, m9, hX⟩ := el3 hT hx
    cases hv
    obtain ⟨y0, y1, y2, g0, g1, g2⟩ := hX w (Below.refl _ _)
    have h1 : (0 : Int) ≤ (i : Int) := by omega
    have h2 : (i : Int) < (L.length : Int) := by omega
    unfold maxLen at q2
    have hgr : r ≠ g := fun e => by
      subst e
      have h1 := HW.out
      unfold W7 at h1
      rcases m3.2 with ⟨e3, _⟩ | ⟨g2, cp, cur2, e3, _, hg, _⟩
      · cases e3
      · cases e3
        rw [h1] at hg
        cases hg
    have hrow5 := (m3.stored (i * 3 + 2) (.bool true)).1
    rw [m6, set3_2 A (i * 3) m5] at hrow5
    have hgu := GRow.upd (Ty := TTy) (f := fun x : StmT => x.2.1) (x := ((x.1, x.2.1, true) : StmT)) (a := a0) (n := n0) (ca := ca0) (i := i) (c := strC) (wB := w.setCell ⟨g, i * 3 + 2, none⟩ (.bool true)) m1 m3 m2 m4 (Below.refl _ _) (by decide) (.inl rfl) (by rw [m7]; exact hrow5) (size_setCell' _ _ _) ⟨rfl, rfl, rfl⟩ (fun j hj => heap_setCell_ne _ _ _ _ _ hj) m8 (fun q e => .inl (m9 q e))
    have HGu := Lib.hid hgu
    clear hW hT hx m1 m3 m4 m5 m6 m7 m8 m9 hX hrow5 hgu hin
    go_enter Try.func19, Try.ntmps19
    go_wp2
    go_end0
    exact ⟨rfl, (heap_setCell_ne _ _ _ _ _ hgr).trans HW.out, HGu.out.1, HGu.out.2⟩
set_option maxHeartbeats 2000000 in
set_option maxRecDepth 100000 in
theorem write_d {w : World} (hW : W7 w r now cnt vF vS v vR syn) (hT : TRow R w v L) (hR : R r) (hL : L.length ≤ 1000) (k : Int) (hk : -9223372036854775808 ≤ k ∧ k ≤ 9223372036854775807) (a : Option Addr) (n c : Nat) (l : List UInt8) (hr : RB 0 w (.slice a n c) l) (hl : ∀ x ∈ L, x.2.1.length + l.length ≤ 1000000) :
    Calls Try.prog 17 #[.pointer (some ⟨r, 0, none⟩), .int .i64 k, .slice a n c] w fun e w' => e = .returned (.tuple #[]) ∧ W7 w' r now cnt vF vS v vR syn ∧ TRow (nw R w w') w' v (writeL L k l) ∧ Chg R TTy w w' := by
  obtain ⟨q, cap, rfl⟩ := hT.shape
  have HW := Lib.hid hW
  have k4 : w.cell? ⟨r, 4, none⟩ = some (.slice q L.length cap) := by unfold W7 at hW; simp [World.cell?, hW]
  cases hob : openB L k with
  | false =>
    have hwl : writeL L k l = L := by unfold writeL; rw [hob]; rfl
    rw [hwl]
    have HF : Hid (TRow (nw R w w) w (.slice q L.length cap) L) := Lib.hid (hT.same (fun _ _ => rfl) (fun k hk => .inl hk))
    have hway : k < 0 ∨ (¬ k < 0 ∧ (L.length : Int) ≤ k) ∨ ∃ (i : Nat) (x : StmT), k = (i : Int) ∧ L[i]? = some x ∧ x.2.2 = true := by
      by_cases h0 : k < 0
      · exact .inl h0
      · by_cases h1 : (L.length : Int) ≤ k
        · exact .inr (.inl ⟨h0, h1⟩)
        · refine .inr (.inr ⟨k.toNat, L[k.toNat]'(by omega), by omega, List.getElem?_eq_getElem (by omega), ?_⟩)
          unfold openB at hob
          rw [if_neg h0, List.getElem?_eq_getElem (by omega)] at hob
          simpa using hob
    rcases hway with h0 | ⟨h0, h2⟩ | ⟨i, x, rfl, hx, hcl⟩
    · have h1 : ¬ (0 : Int) ≤ k := by omega
      clear hW hT hr hl hob
      go_enter Try.func17, Try.ntmps17
      go_wp2
      go_end0
      exact ⟨rfl, HW.out, HF.out, Chg.refl _ _ _⟩
    · have h1 : (0 : Int) ≤ k := by omega
      have h3 : ¬ k < (L.length : Int) := by omega
      clear hW hT hr hl hob
      go_enter Try.func17, Try.ntmps17
      go_wp2
      go_end0
      exact ⟨rfl, HW.out, HF.out, Chg.refl _ _ _⟩
    · have hil := (List.getElem?_eq_some_iff.1 hx).1
      obtain ⟨M, g, cap2, a0, n0, ca0, A, zs, m1, hv, q1, q2, m2, m3, m4, m5, m6, m7, m8, m9, hX⟩ := el3 hT hx
      cases hv
      obtain ⟨y0, y1, y2, g0, g1, g2⟩ := hX w (Below.refl _ _)
      rw [hcl] at y2
      have h1 : (0 : Int) ≤ (i : Int) := by omega
      have h2 : (i : Int) < (L.length : Int) := by omega
      unfold maxLen at q2
      clear hW hT hr hl hob hx m1 m3 m4 m5 m6 m7 m8 m9 hX
      go_enter Try.func17, Try.ntmps17
      go_wp2
      go_end0
      exact ⟨rfl, HW.out, HF.out, Chg.refl _ _ _⟩
  | true =>
    obtain ⟨i, x, rfl, hx, hcl⟩ := openB_some hob
    have hil := (List.getElem?_eq_some_iff.1 hx).1
    have hwl : writeL L (i : Int) l = L.set i (x.1, x.2.1 ++ l, x.2.2) := by
      unfold writeL
      rw [hob, if_pos rfl]
      simp [hx]
    rw [hwl]
    have hlx := hl x (List.mem_of_getElem? hx)
    obtain ⟨M, g, cap2, a0, n0, ca0, A, zs, m1, hv, q1, q2, m2, m3, m4, m5, m6, m7, m8, m9, hX⟩ := el3 hT hx
    cases hv
    obtain ⟨ib, hib, hz0, hz1, hz2⟩ := info_parts' infoU8
    obtain ⟨y0, y1, y2, g0, g1, g2⟩ := hX w (Below.refl _ _)
    rw [hcl] at y2
    have h1 : (0 : Int) ≤ (i : Int) := by omega
    have h2 : (i : Int) < (L.length : Int) := by omega
    unfold maxLen at q2
    have hgr : r ≠ g := fun e => by
      subst e
      have h1 := HW.out
      unfold W7 at h1
      rcases m3.2 with ⟨e3, _⟩ | ⟨g2, cp, cur2, e3, _, hg, _⟩
      · cases e3
      · cases e3
        rw [h1] at hg
        cases hg
    have HM := Lib.hid (show M.map (·.1) = L ∧ R g ∧ w.ownsRow 0 72 3 (.slice (some ⟨g, 0, none⟩) L.length cap) L.length (M.flatMap fun x => strC x.1 x.2) ∧ (∀ x ∈ M, ∃ (a : Option Addr) (n ca : Nat), x.2 = .slice a n ca ∧ RB 0 w (.slice a n ca) x.1.2.1 ∧ ∀ q, a = some q → R q.block) ∧ A.length = i * 3 ∧ (M.flatMap fun x => strC x.1 x.2) = A ++ .string x.1 :: .slice a0 n0 ca0 :: .bool x.2.2 :: zs ∧ (∀ y va, (M.set i (y, va)).flatMap (fun x => strC x.1 x.2) = (A ++ strC y va) ++ zs) from ⟨m1, m2, m3, m4, m5, m6, m7⟩)
    have HS : Hid (∀ W, Below w.heap.size w W → W.cell? ⟨r, 4, none⟩ = some (.slice (some ⟨g, 0, none⟩) L.length cap)) := Lib.hid (fun W hW2 => by
      have h7 : W7 W r now cnt vF vS (.slice (some ⟨g, 0, none⟩) L.length cap) vR syn := (hW2.block r hW.lt).trans hW
      unfold W7 at h7
      simp [World.cell?, h7])
    have HY : Hid (∀ W, Below w.heap.size w W → W.frozen? ⟨g, i * 3 + 1, none⟩ = false ∧ W.cell? ⟨g, i * 3 + 1, none⟩ = some (.slice a0 n0 ca0)) := Lib.hid (fun W hW2 => ⟨(hX W hW2).2.2.2.2.1, (hX W hW2).2.1⟩)
    have HSr0 : Hid (∀ W, Below w.heap.size w W → Src Try.prog W (.slice a0 n0 ca0) x.2.1) := Lib.hid (fun W hW => RB.src (RB.below m8 hW))
    have HSr1 : Hid (∀ W, Below w.heap.size w W → Src Try.prog W (.slice a n c) l) := Lib.hid (fun W hW => RB.src (RB.below hr hW))
    clear hW hT hr hl hob hx m1 m3 m4 m5 m6 m7 m8 m9 hX hwl
    go_enter Try.func17, Try.ntmps17
    go_upto_region 1 with (fail)
    clear y0 y2 g0 g1 g2
    have r0 := HS.out _ (Below.refl _ _)
    go_region_law (first | ((refine step_append_rb (B := w.heap.size) (l := x.2.1) (m := l) (sv := .slice p4 x.2.1.length c4) (v := .slice a n c) rfl _ _ 33 33 rfl Try.underlying33 Try.underlying33 (by intro k h; cases h) hib hz0 hz1 hz2 rfl rfl HR4.out (HSr1.out _ HB4.out) HB4.out.size hlx ?_; intro s5 w5 hr5 hb5; obtain ⟨p5, c5, rfl, hp5, hp6⟩ := RB.shape hr5; have HR5 := Lib.hid hr5; have HB5 := Lib.hid (HB4.out.trans hb5); obtain ⟨f5, k5⟩ := HY.out _ HB5.out; have r5 := HS.out _ HB5.out; clear hr5 hb5)) | ((refine step_append_rb (B := w.heap.size) (l := []) (m := x.2.1) (sv := .slice none 0 0) (v := .slice a0 n0 ca0) rfl _ _ 33 33 rfl Try.underlying33 Try.underlying33 (by intro k h; cases h) hib hz0 hz1 hz2 rfl rfl (.inl ⟨rfl, rfl⟩) (HSr0.out _ (Below.refl _ _).drew) (Nat.le_refl _) (by simp; omega) ?_; intro s4 w4 hr4 hb4; rw [List.nil_append] at hr4; obtain ⟨p4, c4, rfl, hp4, hp4'⟩ := RB.shape hr4; have HR4 := Lib.hid hr4; have HB4 := Lib.hid ((Below.refl _ w).drew.trans hb4); have r4 := HS.out _ HB4.out; clear hr4 hb4)))
    all_goals (
      go_end0
      obtain ⟨m1, m2, m3, m4, m5, m6, m7⟩ := HM.out
      have hrow5w : w5.ownsRow 0 72 3 (.slice (some ⟨g, 0, none⟩) L.length cap) L.length (A ++ .string x.1 :: .slice a0 n0 ca0 :: .bool x.2.2 :: zs) := by
        rw [← m6]
        exact ⟨m3.1, m3.2.imp id (fun ⟨g, cp, cur, e, r1, r2, r3⟩ => ⟨g, cp, cur, e, r1, (HB5.out.block g (Array.getElem?_eq_some_iff.1 r2).1).trans r2, r3⟩)⟩
      have hrow5 := (hrow5w.stored (i * 3 + 1) (.slice p5 (x.2.1.length + l.length) c5)).1
      rw [set3_1 A (i * 3) m5] at hrow5
      have hgu := GRow.upd (Ty := TTy) (f := fun x : StmT => x.2.1) (x := ((x.1, x.2.1 ++ l, x.2.2) : StmT)) (a := p5) (n := x.2.1.length + l.length) (ca := c5) (i := i) (c := strC) (wB := w5.setCell ⟨g, i * 3 + 1, none⟩ (.slice p5 (x.2.1.length + l.length) c5)) m1 m3 m2 m4 HB5.out (by decide) (.inl rfl) (by rw [m7]; exact hrow5) (size_setCell' _ _ _) ⟨rfl, rfl, rfl⟩ (fun j hj => heap_setCell_ne _ _ _ _ _ hj) (by have := RB.base HR5.out (Nat.zero_le _); rw [List.length_append] at this; exact this) (fun q e => .inr (RB.blk HR5.out e))
      exact ⟨rfl, (heap_setCell_ne _ _ _ _ _ hgr).trans ((HB5.out.block r HW.out.lt).trans HW.out), hgu.1, hgu.2⟩)
end
end Go.Proofs.Ytaaiicfclaeapaa

namespace Go.Proofs.Ytaaiicfclaeapaa
open Go.RowKit Go.Mp Go.Rb Go.Lib
/-- What a file of the disk holds behind these raw writes. -/
def stepR (t : ByteArray) (b : List UInt8) (x : RawD) : List UInt8 := if x.1 = t then (if x.2.2 then x.2.1 else b ++ x.2.1) else b
def loadL (L : List RawD) (t : ByteArray) : List UInt8 := L.foldl (stepR t) []
theorem loadL_snoc (L : List RawD) (x : RawD) (t : ByteArray) : loadL (L ++ [x]) t = stepR t (loadL L t) x := by
  unfold loadL
  rw [List.foldl_append]
  rfl
theorem foldR_len (t : ByteArray) (m : Nat) : ∀ (L : List RawD) (b : List UInt8), (∀ x ∈ L, x.2.1.length ≤ m) → (L.foldl (stepR t) b).length ≤ b.length + m * L.length
  | [], b, _ => by simp
  | x :: L, b, h => by
    have h1 := foldR_len t m L (stepR t b x) (fun y hy => h y (List.mem_cons_of_mem _ hy))
    have h2 := h x (List.mem_cons_self ..)
    have h3 : (stepR t b x).length ≤ b.length + m := by
      unfold stepR
      split
      · split
        · omega
        · rw [List.length_append]; omega
      · omega
    rw [List.foldl_cons, List.length_cons, Nat.mul_add, Nat.mul_one]
    omega
theorem loadL_len (t : ByteArray) {m : Nat} {L : List RawD} (h : ∀ x ∈ L, x.2.1.length ≤ m) : (loadL L t).length ≤ m * L.length := by
  have := foldR_len t m L [] h
  unfold loadL
  simpa using this
section
variable {R : Nat → Prop} {r : Nat} {now cnt syn : Int} {vF vS vT v : Value} {L : List RawD}
set_option maxHeartbeats 2000000 in
set_option maxRecDepth 100000 in
theorem load_d {w : World} (hW : W7 w r now cnt vF vS vT v syn) (hT : RRow R w v L) (hL : L.length ≤ 900) (hb : ∀ x ∈ L, x.2.1.length ≤ 1000) (t : ByteArray) :
    Calls Try.prog 42 #[.pointer (some ⟨r, 0, none⟩), .string t, .int .i64 (L.length : Int)] w fun e w' => ∃ p c', e = .returned (.slice p (loadL L t).length c') ∧ RB w.heap.size w' (.slice p (loadL L t).length c') (loadL L t) ∧ Below w.heap.size w w' := by
  obtain ⟨q, cap, rfl⟩ := hT.shape
  obtain ⟨ib, hib, hz0, hz1, hz2⟩ := info_parts' infoU8
  have HW := Lib.hid hW
  have HT := Lib.hid hT
  have HB := Lib.hid hb
  obtain ⟨nL, hnL⟩ : ∃ nL, L.length = nL := ⟨_, rfl⟩
  have HN := Lib.hid hnL
  have hk5 : ∀ W, Below w.heap.size w W → W.cell? ⟨r, 5, none⟩ = some (.slice q nL cap) := fun W hW2 => by
    have h7 : W7 W r now cnt vF vS vT (.slice q L.length cap) syn := (hW2.block r hW.lt).trans hW
    unfold W7 at h7
    rw [← hnL]
    simp [World.cell?, h7]
  have HK := Lib.hid hk5
  rw [hnL] at hL ⊢
  clear hW hT hb hk5 hnL
  go_enter Try.func42, Try.ntmps42
  go_wp2
  go_loopw [7, 8] (fun bv iv wr => ∃ i : Nat, i ≤ nL ∧ iv = .int .i64 i ∧ RB w.heap.size wr bv (loadL (L.take i) t) ∧ Below w.heap.size w wr) (fun _ iv _ => nL - (intOf iv).toNat)
  case atStart => exact ⟨0, Nat.zero_le _, rfl, .inl ⟨rfl, rfl⟩, Below.refl _ _⟩
  case round =>
    obtain ⟨i, hi, rfl, hrb, hbl⟩ := hrel
    have HRb := Lib.hid hrb
    have HBl := Lib.hid hbl
    have k5 := HK.out _ hbl
    by_cases hlt : i < nL
    · have hi0 : (0 : Int) ≤ (i : Int) := by omega
      have hi1 : (i : Int) < (nL : Int) := by omega
      obtain ⟨x, hx⟩ : ∃ x, L[i]? = some x := ⟨_, List.getElem?_eq_getElem (by rw [HN.out]; exact hlt)⟩
      have hmem := List.mem_of_getElem? hx
      have htk : L.take (i + 1) = L.take i ++ [x] := by rw [List.take_add_one, hx]; rfl
      obtain ⟨g, cap2, a0, n0, ca0, hv, _, hc1, hc2, hcg, hr0, _, hc⟩ := HT.out.get rawC_len hx
      have hvq : q = some ⟨g, 0, none⟩ ∧ cap2 = cap := by injection hv with e1 e2 e3; exact ⟨e1, e3.symm⟩
      obtain ⟨rfl, rfl⟩ := hvq
      have hgl : g < w.heap.size := by obtain ⟨cs, h⟩ := hcg; exact (Array.getElem?_eq_some_iff.1 h).1
      have y0 : wr.cell? ⟨g, i * 3, none⟩ = some (.string x.1) := (hbl.cell (p := ⟨g, i * 3, none⟩) hgl).trans (hc 0 _ rfl)
      have y1 : wr.cell? ⟨g, i * 3 + 1, none⟩ = some (.slice a0 n0 ca0) := (hbl.cell (p := ⟨g, i * 3 + 1, none⟩) hgl).trans (hc 1 _ rfl)
      have y2 : wr.cell? ⟨g, i * 3 + 2, none⟩ = some (.bool x.2.2) := (hbl.cell (p := ⟨g, i * 3 + 2, none⟩) hgl).trans (hc 2 _ rfl)
      rw [HN.out] at hc1
      unfold maxLen at hc2
      have hD : Below wr.heap.size wr (wr.alloc (.cells #[.string x.1, .slice a0 n0 ca0, .bool x.2.2] 47)) := (Below.refl _ _).alloc (Nat.le_refl _) _
      have HD := Lib.hid hD
      have d0 : (wr.alloc (.cells #[.string x.1, .slice a0 n0 ca0, .bool x.2.2] 47)).cell? ⟨wr.heap.size, 0, none⟩ = some (.string x.1) := by rw [World.cell?_alloc_new]; rfl
      have d1 : (wr.alloc (.cells #[.string x.1, .slice a0 n0 ca0, .bool x.2.2] 47)).cell? ⟨wr.heap.size, 1, none⟩ = some (.slice a0 n0 ca0) := by rw [World.cell?_alloc_new]; rfl
      have d2 : (wr.alloc (.cells #[.string x.1, .slice a0 n0 ca0, .bool x.2.2] 47)).cell? ⟨wr.heap.size, 2, none⟩ = some (.bool x.2.2) := by rw [World.cell?_alloc_new]; rfl
      have HSr : Hid (Src Try.prog (wr.alloc (.cells #[.string x.1, .slice a0 n0 ca0, .bool x.2.2] 47)) (.slice a0 n0 ca0) x.2.1) := Lib.hid (RB.src (RB.below (RB.below hr0 hbl) hD))
      have hBs := hbl.size
      have hBD : w.heap.size ≤ (wr.alloc (.cells #[.string x.1, .slice a0 n0 ca0, .bool x.2.2] 47)).heap.size := by have := hD.size; omega
      have hlen : (loadL (L.take i) t).length + x.2.1.length ≤ 1000000 := by
        have h1 := loadL_len t (m := 1000) (L := L.take i) (fun y hy => HB.out y (List.mem_of_mem_take hy))
        have h2 := HB.out x hmem
        rw [List.length_take] at h1
        have h3 : 1000 * min i L.length ≤ 1000 * 900 := Nat.mul_le_mul_left _ (by omega)
        omega
      have hl0 : ([] : List UInt8).length + x.2.1.length ≤ 1000000 := by simp; omega
      have hBw := hbl.trans (hD.mono hBs)
      have HBw := Lib.hid hBw
      have HRb2 := Lib.hid (RB.below hrb hD)
      clear hrb hbl hc hcg hr0 hx hmem hD hBw
      by_cases hp : x.1 = t
      · subst hp
        cases hrep : x.2.2 with
        | true =>
          rw [hrep] at y2 d2 d0 d1 HD HSr hBD HBw HRb2
          have hst : loadL (L.take (i + 1)) x.1 = x.2.1 := by rw [htk, loadL_snoc]; unfold stepR; rw [if_pos rfl, hrep, if_pos rfl]
          go_wp2_with (at_builtin; refine wpList_append_rb rfl _ _ 33 33 rfl Try.underlying33 Try.underlying33 (by intro k h; cases h) hib hz0 hz1 hz2 (B := w.heap.size) (l := []) (m := x.2.1) rfl rfl (.inl ⟨rfl, rfl⟩) HSr.out hBD hl0 ?_; intro s5 w5 hr5 hb5; have HR5 := Lib.hid hr5; have HB5 := Lib.hid hb5; clear hr5 hb5)
          go_roundw
          case rel => exact ⟨i + 1, hlt, by go_num, by rw [hst]; exact HR5.out, HBw.out.trans HB5.out⟩
          case measure => simp [intOf]; omega
        | false =>
          rw [hrep] at y2 d2 d0 d1 HD HSr hBD HBw HRb2
          have hst : loadL (L.take (i + 1)) x.1 = loadL (L.take i) x.1 ++ x.2.1 := by rw [htk, loadL_snoc]; unfold stepR; rw [if_pos rfl, hrep, if_neg (by decide)]
          go_wp2_with (at_builtin; refine wpList_append_rb rfl _ _ 33 33 rfl Try.underlying33 Try.underlying33 (by intro k h; cases h) hib hz0 hz1 hz2 (B := w.heap.size) (l := loadL (L.take i) x.1) (m := x.2.1) rfl rfl HRb2.out HSr.out hBD hlen ?_; intro s5 w5 hr5 hb5; have HR5 := Lib.hid hr5; have HB5 := Lib.hid hb5; clear hr5 hb5)
          go_roundw
          case rel => exact ⟨i + 1, hlt, by go_num, by rw [hst]; exact HR5.out, HBw.out.trans HB5.out⟩
          case measure => simp [intOf]; omega
      · obtain ⟨hn1, hn2⟩ := ba_no hp
        have hst : loadL (L.take (i + 1)) t = loadL (L.take i) t := by rw [htk, loadL_snoc]; unfold stepR; rw [if_neg hp]
        go_wp2
        go_roundw
        case rel => exact ⟨i + 1, hlt, by go_num, by rw [hst]; exact HRb2.out, HBw.out⟩
        case measure => simp [intOf]; omega
    · obtain rfl : i = nL := by omega
      have hf : loadL (L.take i) t = loadL L t := by rw [← HN.out, List.take_length]
      clear hrb hbl
      go_wp2
      go_ret
      have h1 := HRb.out
      rw [hf] at h1
      obtain ⟨p, c', rfl, _, _⟩ := RB.shape h1
      exact ⟨p, c', rfl, h1, HBl.out⟩
end
end Go.Proofs.Ytaaiicfclaeapaa

namespace Go.Proofs.Ytaaiicfclaeapaa
open Go.RowKit Go.Mp Go.Rb Go.Lib Go.Ev
theorem run_append_rows {w : World} (t ty : TypeId) (e : TypeId) (i : TypeInfo) (z : Value) (size bytes : Nat) (ht : Try.prog.underlying t = some (.slice e)) (hi : Try.prog.info? e = some i) (hz : i.zero = some z)
    (hsize : i.size = size) (hby : i.bytes = bytes) (hzs : z.cells.size = size) (hsz : 0 < size) (q : Option Addr) (m c : Nat) (news : List Value) (hl : news.length = m * size) (hnews : ∀ ad, q = some ad → ∀ j u, news[j]? = some u → w.cell? (ad.add j) = some u) (hq : q = none → m = 0) (h1 : ∀ u ∈ news, u.oneCell' = true)
    (h63 : m ≤ maxLen) (hbytes : m * bytes ≤ 140737488355328) :
    ∃ v' w', (Builtin.append_ #[t, t] ty #[.slice none 0 0, .slice q m c]).run Try.prog w = .ok v' w' ∧ w'.ownsRow w.heap.size e size v' m news ∧ Below w.heap.size w w' := by
  cases q with
  | none =>
    obtain rfl := hq rfl
    obtain rfl : news = [] := List.length_eq_zero_iff.1 (by rw [hl]; simp)
    have hfit := append_fits (P := Try.prog) (w := w) (ty := ty) (ts := #[t, t]) (base := none) (sLen := 0) (sCap := 0) (v := .slice none 0 c) (vs := []) rfl rfl ht ht (by intro k h; cases h) hi (fun w' => rfl) (run_firstCells_none w i.size 0 0 c) (Nat.le_refl _)
    exact ⟨_, _, hfit, World.ownsRow_nil _ _ _ _, Below.refl _ _⟩
  | some ad =>
    obtain ⟨v', w', hr, h2, h3, _, _⟩ := run_append_own_at (P := Try.prog) w w.heap.size t ty e i z size bytes ht hi hz hsize hby hzs hsz (.slice none 0 0) 0 [] (World.ownsRow_nil _ _ _ _) ad m c news hl (hnews ad rfl) h1 (by omega) (by rw [Nat.zero_add]; exact hbytes) (Nat.le_refl _)
    rw [Nat.zero_add, List.nil_append] at h2
    exact ⟨v', w', hr, h2, h3.os, h3.tape, h3.output, h3.size, fun k hk => h3.block k hk (by simp [Value.ownBlock])⟩
theorem step_append_rows {w : World} {ops : Array Oper} {o : Oper} {a : Act} {K : Act → World → Prop} {Q : Exit → Act → World → Prop} {E : Prop} (hgd : o.guard = none) (s x : Operand) (t : TypeId)
    (ho : o.op = .call { callee := .builtin .append, args := #[s, x], argTypes := #[t, t] }) (e : TypeId) (i : TypeInfo) (z : Value) (size bytes : Nat) (ht : Try.prog.underlying t = some (.slice e)) (hi : Try.prog.info? e = some i) (hz : i.zero = some z)
    (hsize : i.size = size) (hby : i.bytes = bytes) (hzs : z.cells.size = size) (hsz : 0 < size) (q : Option Addr) (m c : Nat) (news : List Value) (hs : a.eval s = .slice none 0 0) (hx : a.eval x = .slice q m c) (hl : news.length = m * size) (hnews : ∀ ad, q = some ad → ∀ j u, news[j]? = some u → w.cell? (ad.add j) = some u) (hq : q = none → m = 0) (h1 : ∀ u ∈ news, u.oneCell' = true)
    (h63 : m ≤ maxLen) (hbytes : m * bytes ≤ 140737488355328) (h : ∀ p' c' w', w'.ownsRow w.heap.size e size (.slice p' m c') m news → Below w.heap.size w w' → K (a.put o.dst (.slice p' m c')) w') :
    if Region.wanted o (yielded ops a.tmps) = true then Oper.wp Try.prog o a w K Q else E := by
  have hw : Region.wanted o (yielded ops a.tmps) = true := by simp [Region.wanted, hgd]
  rw [if_pos hw]
  obtain ⟨v', w', hr, h2, h3⟩ := run_append_rows (w := w) t o.type e i z size bytes ht hi hz hsize hby hzs hsz q m c news hl hnews hq h1 h63 hbytes
  obtain ⟨p', c', rfl⟩ : ∃ p' c', v' = .slice p' m c' := by
    rcases h2.2 with ⟨e1, e2⟩ | ⟨g, cap, cur, e1, _⟩
    · exact ⟨none, 0, by rw [e1, e2]⟩
    · exact ⟨_, _, e1⟩
  unfold Oper.wp execOp
  simp only [ho, resolve, invoke, builtin, Sem.run_bind, Sem.run_pure, Result.andThen_ok, List.map_toArray, List.map_cons, List.map_nil, hs, hx, hr]
  exact h p' c' w' h2 h3
theorem infoRaw : (Try.prog.info? 47).map (fun i => (i.zero, i.size, i.bytes)) = some (some (.agg #[.string ⟨#[]⟩, .slice none 0 0, .bool false]), 3, 48) := by kernel_rfl
/-- The cells of the first m elements, and what they are copied into. -/
theorem GRow.front {α : Type} {R : Nat → Prop} {w : World} {e : TypeId} {k : Nat} {c : α → Value → List Value} {f : α → List UInt8} {q : Option Addr} {n cap : Nat} {L : List α} (h : GRow R w e k c f (.slice q n cap) L) (hk : ∀ x v, (c x v).length = k) (hone : ∀ x a n ca, ∀ u ∈ c x (.slice a n ca), u.oneCell' = true) (m : Nat) (hm : m ≤ L.length) :
    ∃ news : List Value, news.length = m * k ∧ (q = none → m = 0) ∧ (∀ u ∈ news, u.oneCell' = true) ∧ (∀ W, Below w.heap.size w W → ∀ ad, q = some ad → ∀ j u, news[j]? = some u → W.cell? (ad.add j) = some u) ∧
      ∀ (W w' : World) (v' : Value), Below w.heap.size w W → Below W.heap.size W w' → w'.ownsRow W.heap.size e k v' m news → GRow (nw R w w') w' e k c f v' (L.take m) ∧ ∀ g, v'.ownBlock = some g → w.heap.size ≤ g := by
  obtain ⟨M, h1, h2, h3, h4⟩ := h
  have hMl : M.length = L.length := by rw [← h1]; simp
  have hfl : ((M.take m).flatMap fun x => c x.1 x.2) = (M.flatMap fun x => c x.1 x.2).take (m * k) := by
    have e1 : M = M.take m ++ M.drop m := (List.take_append_drop m M).symm
    have e2 := congrArg (fun l => List.flatMap (fun x : α × Value => c x.1 x.2) l) e1
    simp only [List.flatMap_append] at e2
    rw [e2, List.take_left' (by rw [flatC_len hk, List.length_take, Nat.min_eq_left (by omega)])]
  refine ⟨(M.take m).flatMap fun x => c x.1 x.2, by rw [flatC_len hk, List.length_take, Nat.min_eq_left (by omega)], fun hq => ?_, fun u hu => ?_, fun W hW ad hq j u hu => ?_, fun W w' v' hW hw' hrow => ?_⟩
  · rcases h2.2 with ⟨_, b⟩ | ⟨g, cp, cur, hv, _⟩
    · omega
    · rw [hq] at hv; cases hv
  · obtain ⟨x, hx, hxu⟩ := List.mem_flatMap.1 hu
    obtain ⟨a, n', ca, e2, _⟩ := h4 x (List.mem_of_mem_take hx)
    rw [e2] at hxu
    exact hone _ _ _ _ u hxu
  · subst hq
    rcases h2.2 with ⟨hv, _⟩ | ⟨g, cp, cur, hv, _, hg, _⟩
    · cases hv
    · cases hv
      have hu2 : (M.flatMap fun x => c x.1 x.2)[j]? = some u := by
        rw [hfl] at hu
        by_cases hj : j < m * k
        · rwa [List.getElem?_take_of_lt hj] at hu
        · rw [List.getElem?_eq_none (by rw [List.length_take]; omega)] at hu; cases hu
      have hc := World.ownsRow.cells h2 (g := g) rfl j u hu2
      refine (hW.cell (p := ({ block := g, off := 0 } : Addr).add j) ?_).trans hc
      have : (({ block := g, off := 0 } : Addr).add j).block = g := by unfold Addr.add; split <;> rfl
      rw [this]
      exact (Array.getElem?_eq_some_iff.1 hg).1
  · have hz := hW.size
    have hB := hW.trans (hw'.mono hz)
    refine ⟨⟨M.take m, by rw [List.map_take, h1], ?_, fun g hg => ?_, fun x hx => ?_⟩, fun g hg => by have := (hrow.lt g hg).1; omega⟩
    · rw [List.length_take, Nat.min_eq_left hm]
      exact ⟨hrow.1, hrow.2.imp id (fun ⟨g, cp, cur, a, r1, r2⟩ => ⟨g, cp, cur, a, Nat.zero_le _, r2⟩)⟩
    · have := hrow.lt g hg
      exact .inr ⟨by omega, this.2⟩
    · obtain ⟨a, n', ca, e2, hr, ha⟩ := h4 x (List.mem_of_mem_take hx)
      exact ⟨a, n', ca, e2, RB.below hr hB, fun q e3 => .inl (ha q e3)⟩
end Go.Proofs.Ytaaiicfclaeapaa

