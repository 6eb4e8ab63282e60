/- Contracts of a service table's ByName, ByPort, Len. -/
import Derived.Test.YtmnahgeledddhaaVh
namespace Go.Tx
/-- The port of a name, and whether there is one. -/
def svcN (R : List Svc) (s p : List UInt8) : Option Int := portAt R (s, p.map low)
def svcP (R : List Svc) (n : Int) (p : List UInt8) : Option (List (List UInt8)) := namesOn R (n, p.map low)
end Go.Tx
namespace Go.Proofs.Ytmnahgeledddhaa
open Go.RowKit Go.Lib Go.Tx Go.Mk
theorem clone_any {B : Nat} {v : Value} {T : List (List UInt8)} (w : World) (h : StrC B w v T) (hl : T.length ≤ 1000000) :
    Calls Try.prog 29 #[v] w fun e w' => ∃ v', e = .returned v' ∧ StrC w.heap.size w' v' T ∧ Below w.heap.size w w' := by
  obtain ⟨p, c, rfl, hc, hm, hr⟩ := h.read
  cases p with
  | none =>
    have h0 : T = [] := by
      cases T with
      | nil => rfl
      | cons x T => obtain ⟨g, e, _⟩ := hr 0 x rfl; cases e
    subst h0
    refine (Try.slices_Clone_string_nil 0 c w).mono ?_
    rintro e w' ⟨rfl, rfl⟩
    exact ⟨_, rfl, World.ownsRow_nil _ _ _ _, Below.refl _ _⟩
  | some ad =>
    by_cases h0 : T = []
    · subst h0
      refine (Try.slices_Clone_string_zero ad c w).mono ?_
      rintro e w' ⟨v', rfl, h1, _, h2⟩
      exact ⟨v', rfl, h1, h2⟩
    · have hpos : 0 < T.length := List.length_pos_iff.2 h0
      obtain ⟨g, e, hg, _⟩ := hr 0 T[0] (List.getElem?_eq_getElem hpos)
      cases e
      have hz : ((T.map fun l => (⟨l.toArray⟩ : ByteArray)).take T.length).map Value.string = T.map strV := by
        rw [List.take_of_length_le (by simp), List.map_map]; rfl
      refine (Try.slices_Clone_string g 0 T.length c (T.map fun l => ⟨l.toArray⟩) w (by simp) (by omega) fun j hj => ?_).mono ?_
      · rw [List.length_map] at hj
        obtain ⟨g', e, _, h3⟩ := hr j T[j] (List.getElem?_eq_getElem hj)
        cases e
        rw [Nat.zero_add, h3, List.getD_eq_getElem?_getD, List.getElem?_map, List.getElem?_eq_getElem hj]
        rfl
      · rintro e w' ⟨v', rfl, h1, _, h2⟩
        rw [hz] at h1
        exact ⟨v', rfl, h1, h2⟩
set_option maxHeartbeats 1000000 in
set_option maxRecDepth 100000 in
theorem byName_any {B p : Nat} {R : List Svc} (s t : ByteArray) (w : World) (h : Tab B w p R) (ht : t.size ≤ maxLen) :
    Calls Try.prog 12 #[.pointer (some ⟨p, 0, none⟩), .string s, .string t] w fun e w' => e = .returned (.tuple #[.int .i64 ((svcN R s.data.toList t.data.toList).getD 0), .bool (svcN R s.data.toList t.data.toList).isSome]) ∧ Below w.heap.size w w' := by
  obtain ⟨L, m1, m2, G, h1, h2, h3⟩ := h
  have hd := h3.drewS
  have HF := Lib.hid (fold_any t w.drew ht)
  have HK : Hid (w.drew.cell? ⟨p, 1, none⟩ = some (.map (some m1))) := Lib.hid hd.cells.2.1
  have HL : Hid (∀ W, Below w.drew.heap.size w.drew W → (Instr.lookup 44 (.map (some m1)) (.agg #[.string s, .string ⟨(t.data.toList.map low).toArray⟩]) true).run Try.prog W = .ok (.tuple #[((svcN R s.data.toList t.data.toList).map (Value.int .i64)).getD (.int .i64 0), .bool ((svcN R s.data.toList t.data.toList).map (Value.int .i64)).isSome]) W ∧ W.cell? ⟨p, 1, none⟩ = some (.map (some m1))) := Lib.hid (fun W hW => by
    have hb := hd.below hW
    have := hb.f.lookup2 keyS Try.underlying44 (zeroI W) (s.data.toList, t.data.toList.map low)
    unfold kS at this
    simp only [bk s] at this
    exact ⟨this, hb.cells.2.1⟩)
  have hp := hd.cells.2.1
  clear hd h3
  generalize svcN R s.data.toList t.data.toList = X at *
  go_enter Try.func12, Try.ntmps12
  cases X with
  | some x =>
    simp only [Option.map_some, Option.getD_some, Option.isSome_some] at HL
    go_wp2
    go_region_held3 (fun w' => w'.cell? ⟨p, 1, none⟩ = some (.map (some m1))) (first | exact HK.out) (first | (go_at_call 28; refine HF.out.mono ?_; rintro e w2 ⟨rfl, hb⟩; obtain ⟨hlk, hc2⟩ := HL.out _ hb; have HK := Lib.hid hc2))
    all_goals
      go_wp2
      go_ret2
      exact ⟨rfl, (Below.refl _ w).drew.trans hb⟩
  | none =>
    simp only [Option.map_none, Option.getD_none, Option.isSome_none] at HL
    go_wp2
    go_region_held3 (fun w' => w'.cell? ⟨p, 1, none⟩ = some (.map (some m1))) (first | exact HK.out) (first | (go_at_call 28; refine HF.out.mono ?_; rintro e w2 ⟨rfl, hb⟩; obtain ⟨hlk, hc2⟩ := HL.out _ hb; have HK := Lib.hid hc2))
    all_goals
      go_wp2
      go_ret2
      exact ⟨rfl, (Below.refl _ w).drew.trans hb⟩
set_option maxHeartbeats 1000000 in
set_option maxRecDepth 100000 in
theorem byPort_any {B p : Nat} {R : List Svc} (n : Int) (t : ByteArray) (w : World) (h : Tab B w p R) (ht : t.size ≤ maxLen) (hf : ((svcP R n t.data.toList).getD []).length ≤ 1000000) :
    Calls Try.prog 14 #[.pointer (some ⟨p, 0, none⟩), .int .i64 n, .string t] w fun e w' => ∃ v, e = .returned (.tuple #[v, .bool (svcP R n t.data.toList).isSome]) ∧ StrC w.heap.size w' v ((svcP R n t.data.toList).getD []) ∧ Below w.heap.size w w' := by
  obtain ⟨L, m1, m2, G, h1, h2, h3⟩ := h
  have hd := h3.drewS
  have HF := Lib.hid (fold_any t w.drew ht)
  have HK : Hid (w.drew.cell? ⟨p, 2, none⟩ = some (.map (some m2))) := Lib.hid hd.cells.2.2.1
  have HL : Hid (∀ W, Below w.drew.heap.size w.drew W → ∃ v b, (Instr.lookup 45 (.map (some m2)) (.agg #[.int .i64 n, .string ⟨(t.data.toList.map low).toArray⟩]) true).run Try.prog W = .ok (.tuple #[v, .bool b]) W ∧ W.cell? ⟨p, 2, none⟩ = some (.map (some m2)) ∧ b = (svcP R n t.data.toList).isSome ∧ StrC L W v ((svcP R n t.data.toList).getD [])) := Lib.hid (fun W hW => by
    have hb := hd.below hW
    have hl := hb.g.lookup2 keyP Try.underlying45 (zeroS W) (n, t.data.toList.map low)
    have hg := hb.hG (n, t.data.toList.map low)
    refine ⟨_, _, hl, hb.cells.2.2.1, ?_⟩
    unfold svcP
    cases hc : namesOn R (n, t.data.toList.map low) with
    | none =>
      rw [hc] at hg
      simp only at hg
      rw [hg]
      exact ⟨rfl, World.ownsRow_nil _ _ _ _⟩
    | some ws =>
      rw [hc] at hg
      obtain ⟨v, e, h⟩ := hg
      rw [e]
      exact ⟨rfl, h⟩)
  have hp := hd.cells.2.2.1
  clear hd h3
  generalize svcP R n t.data.toList = X at *
  go_enter Try.func14, Try.ntmps14
  go_wp2
  go_region_held3 (fun w' => w'.cell? ⟨p, 2, none⟩ = some (.map (some m2))) (first | exact HK.out) (first | (go_at_call 28; refine HF.out.mono ?_; rintro e w2 ⟨rfl, hb⟩; obtain ⟨v, b, hlk, hc2, hbx, hst⟩ := HL.out _ hb; have HK := Lib.hid hc2; have HB := Lib.hid hb; have HST := Lib.hid hst; have HBX := Lib.hid hbx; clear hbx hst hb))
  all_goals
    go_wp2_with (go_at_call 29; refine (clone_any _ HST.out hf).mono ?_; rintro e w3 ⟨v3, rfl, hv3, hb3⟩)
    go_ret2
    have hsz : w.heap.size ≤ w2.heap.size := HB.out.size
    exact ⟨_, by rw [HBX.out]; rfl, own_base hv3 hsz, (Below.refl _ w).drew.trans (HB.out.trans (hb3.mono HB.out.size))⟩
theorem len_any {B p : Nat} {R : List Svc} (w : World) (h : Tab B w p R) :
    Calls Try.prog 11 #[.pointer (some ⟨p, 0, none⟩)] w fun e w' => e = .returned (.int .i64 (R.length : Int)) ∧ w = w' := by
  obtain ⟨L, m1, m2, G, h1, h2, h3⟩ := h
  obtain ⟨d0, d1, d2, _⟩ := h3.cells
  clear h3
  go_enter Try.func11, Try.ntmps11
  go_wp2
  go_ret
  exact ⟨rfl, rfl⟩
theorem byName_nil (s t : ByteArray) (w : World) :
    Calls Try.prog 12 #[.pointer none, .string s, .string t] w fun e w' => e = .returned (.tuple #[.int .i64 0, .bool false]) ∧ w = w' := by
  go_enter Try.func12, Try.ntmps12
  go_wp2
  go_ret2
  exact ⟨rfl, rfl⟩
theorem byPort_nil (n : Int) (t : ByteArray) (w : World) :
    Calls Try.prog 14 #[.pointer none, .int .i64 n, .string t] w fun e w' => e = .returned (.tuple #[.slice none 0 0, .bool false]) ∧ w = w' := by
  go_enter Try.func14, Try.ntmps14
  go_wp2
  go_ret2
  exact ⟨rfl, rfl⟩
theorem len_nil (w : World) :
    Calls Try.prog 11 #[.pointer none] w fun e w' => e = .returned (.int .i64 0) ∧ w = w' := by
  go_enter Try.func11, Try.ntmps11
  go_wp2
  go_ret
  exact ⟨rfl, rfl⟩
end Go.Proofs.Ytmnahgeledddhaa
