/- Contracts of a host table's ByName, ByAddr, Len. -/
import Derived.Test.YtdfapebggghfdaaGreatDoorHf
namespace Go.Tx
open Go.RowKit Go.Mp
/-- The addresses of a name. -/
def byNm (R : List (List UInt8 × List (List UInt8))) (l : List UInt8) : List (List UInt8) := if nameB (bare l) = true then addsOf R ((bare l).map low) else []
def byA (R : List (List UInt8 × List (List UInt8))) (a : List UInt8) : List (List UInt8) := (namesAt R a).getD []
end Go.Tx
namespace Go.Proofs.YtdfapebggghfdaaGreatDoor
open Go.RowKit Go.Lib Go.Tx Go.Mp
theorem clone_any {B : Nat} {v : Value} {T : List (List UInt8)} (w : World) (h : StrC B w v T) (hl : T.length ≤ 1000000) :
    Calls Tryz.prog 27 #[v] w fun e w' => ∃ v', e = .returned v' ∧ StrC w.heap.size w' v' T ∧ Below w.heap.size w w' := by
  obtain ⟨p, c, rfl, hc, hm, hr⟩ := h.read
  cases p with
  | none =>
    have h0 : T = [] := by
      cases T with
      | nil => rfl
      | cons x T => obtain ⟨g, e, _⟩ := hr 0 x rfl; cases e
    subst h0
    refine (Tryz.slices_Clone_string_nil 0 c w).mono ?_
    rintro e w' ⟨rfl, rfl⟩
    exact ⟨_, rfl, World.ownsRow_nil _ _ _ _, Below.refl _ _⟩
  | some ad =>
    by_cases h0 : T = []
    · subst h0
      refine (Tryz.slices_Clone_string_zero ad c w).mono ?_
      rintro e w' ⟨v', rfl, h1, _, h2⟩
      exact ⟨v', rfl, h1, h2⟩
    · have hpos : 0 < T.length := List.length_pos_iff.2 h0
      obtain ⟨g, e, hg, _⟩ := hr 0 T[0] (List.getElem?_eq_getElem hpos)
      cases e
      have hz : ((T.map fun l => (⟨l.toArray⟩ : ByteArray)).take T.length).map Value.string = T.map strV := by
        rw [List.take_of_length_le (by simp), List.map_map]; rfl
      refine (Tryz.slices_Clone_string g 0 T.length c (T.map fun l => ⟨l.toArray⟩) w (by simp) (by omega) fun j hj => ?_).mono ?_
      · rw [List.length_map] at hj
        obtain ⟨g', e, _, h3⟩ := hr j T[j] (List.getElem?_eq_getElem hj)
        cases e
        rw [Nat.zero_add, h3, List.getD_eq_getElem?_getD, List.getElem?_map, List.getElem?_eq_getElem hj]
        rfl
      · rintro e w' ⟨v', rfl, h1, _, h2⟩
        rw [hz] at h1
        exact ⟨v', rfl, h1, h2⟩
def TextsR (w : World) (T : List (List UInt8)) (e : Ending) (w' : World) : Prop := ∃ v, e = .returned v ∧ StrC w.heap.size w' v T ∧ Below w.heap.size w w'
set_option maxHeartbeats 1000000 in
set_option maxRecDepth 100000 in
theorem byName_any {B p : Nat} {R : List (List UInt8 × List (List UInt8))} (s : ByteArray) (w : World) (h : Tab B w p R) (hs : s.size ≤ maxLen) (hm : MaxAt w) :
    Calls Tryz.prog 14 #[.pointer (some ⟨p, 0, none⟩), .string s] w (TextsR w (byNm R s.data.toList)) := by
  have HC := Lib.hid (clean_any s w hs hm)
  have HT := Lib.hid h
  clear h
  rcases cleanV_cases s.data.toList with ⟨hnb, hcv⟩ | ⟨hnb, hcv⟩
  · have HX : Hid (byNm R s.data.toList = addsOf R ((bare s.data.toList).map low)) := Lib.hid (by unfold byNm; rw [if_pos hnb])
    rw [hcv] at HC
    generalize (bare s.data.toList).map low = q at *
    clear hcv hnb hs hm
    go_enter Tryz.func14, Tryz.ntmps14
    go_upto_region 2 with (go_at_call 26; refine HC.out.mono ?_; rintro e w2 ⟨rfl, hb⟩)
    obtain ⟨L, m1, m2, F, G, h1, h2, h3⟩ := HT.out.below hb
    obtain ⟨d0, d1, d2, _⟩ := h3.cells
    have hAk := h3.hF q
    obtain ⟨pa, ca, hva⟩ := hAk.shape
    rw [hva] at hAk
    have hlk : (Instr.lookup 41 (.map (some m1)) (.string ⟨q.toArray⟩) false).run Tryz.prog w2 = .ok (.slice pa (addsOf R q).length ca) w2 := by
      rw [MapAt.lookup h3.f Tryz.underlying41 Tryz.underlying9 (zeroS w2) ⟨q.toArray⟩]
      exact congrArg (fun z => Result.ok z w2) hva
    have hl32 := addsOf_len R q
    have HAk := Lib.hid hAk
    clear h3 hAk hva
    go_wp2_with (go_at_call 27; refine (clone_any _ HAk.out (by omega)).mono ?_; rintro e w3 ⟨v, rfl, hv, hb3⟩)
    go_ret
    exact ⟨_, rfl, by rw [HX.out]; exact lower hv hb.size, hb.trans (hb3.mono hb.size)⟩
  · have HX : Hid (byNm R s.data.toList = []) := Lib.hid (by unfold byNm; rw [if_neg (by rw [hnb]; decide)])
    rw [hcv] at HC
    clear hcv hnb hs hm
    go_enter Tryz.func14, Tryz.ntmps14
    go_wp2_with (go_at_call 26; refine HC.out.mono ?_; rintro e w2 ⟨rfl, hb⟩)
    go_ret
    exact ⟨_, rfl, by rw [HX.out]; exact World.ownsRow_nil _ _ _ _, hb⟩
set_option maxHeartbeats 1000000 in
set_option maxRecDepth 100000 in
theorem byAddr_any {B p : Nat} {R : List (List UInt8 × List (List UInt8))} (s : ByteArray) (w : World) (h : Tab B w p R) (hf : (byA R s.data.toList).length ≤ 1000000) :
    Calls Tryz.prog 16 #[.pointer (some ⟨p, 0, none⟩), .string s] w (TextsR w (byA R s.data.toList)) := by
  obtain ⟨L, m1, m2, F, G, h1, h2, h3⟩ := h
  obtain ⟨d0, d1, d2, _⟩ := h3.cells
  have hG := h3.hG s.data.toList
  rw [bk s] at hG
  have hv : ∃ v, (G s).getD nilV = v ∧ StrC L w v (byA R s.data.toList) := by
    unfold byA
    cases hc : namesAt R s.data.toList with
    | none =>
      rw [hc] at hG
      simp only at hG
      rw [hG]
      exact ⟨_, rfl, World.ownsRow_nil _ _ _ _⟩
    | some ws =>
      rw [hc] at hG
      obtain ⟨v, e, h⟩ := hG
      rw [e]
      exact ⟨v, rfl, h⟩
  obtain ⟨v, hva, hv⟩ := hv
  have hlk : (Instr.lookup 41 (.map (some m2)) (.string s) false).run Tryz.prog w = .ok v w := by
    rw [MapAt.lookup h3.g Tryz.underlying41 Tryz.underlying9 (zeroS w) s]
    exact congrArg (fun z => Result.ok z w) hva
  have HV := Lib.hid hv
  clear h3 hG hva hv
  go_enter Tryz.func16, Tryz.ntmps16
  go_wp2_with (go_at_call 27; refine (clone_any _ HV.out hf).mono ?_; rintro e w3 ⟨v, rfl, hv, hb3⟩)
  go_ret
  exact ⟨_, rfl, hv, hb3⟩
theorem len_any {B p : Nat} {R : List (List UInt8 × List (List UInt8))} (w : World) (h : Tab B w p R) :
    Calls Tryz.prog 12 #[.pointer (some ⟨p, 0, none⟩)] w fun e w' => e = .returned (.int .i64 (R.length : Int)) ∧ w = w' := by
  obtain ⟨L, m1, m2, F, G, h1, h2, h3⟩ := h
  obtain ⟨d0, d1, d2, _⟩ := h3.cells
  clear h3
  go_enter Tryz.func12, Tryz.ntmps12
  go_wp2
  go_ret
  exact ⟨rfl, rfl⟩
theorem byName_nil (s : ByteArray) (w : World) (hs : s.size ≤ maxLen) (hm : MaxAt w) :
    Calls Tryz.prog 14 #[.pointer none, .string s] w fun e w' => e = .returned (.slice none 0 0) ∧ Below w.heap.size w w' := by
  have HC := Lib.hid (clean_any s w hs hm)
  obtain ⟨b1, b2, q, hq⟩ : ∃ (b1 b2 : Bool) (q : ByteArray), cleanV s.data.toList = .tuple #[.string q, .bool b1, .bool b2] := by
    rcases cleanV_cases s.data.toList with ⟨_, h⟩ | ⟨_, h⟩ <;> exact ⟨_, _, _, h⟩
  rw [hq] at HC
  go_enter Tryz.func14, Tryz.ntmps14
  go_wp2_with (go_at_call 26; refine HC.out.mono ?_; rintro e w2 ⟨rfl, hb⟩)
  go_ret
  exact ⟨rfl, hb⟩
theorem byAddr_nil (s : ByteArray) (w : World) :
    Calls Tryz.prog 16 #[.pointer none, .string s] w fun e w' => e = .returned (.slice none 0 0) ∧ w = w' := by
  go_enter Tryz.func16, Tryz.ntmps16
  go_wp2
  go_ret
  exact ⟨rfl, rfl⟩
theorem len_nil (w : World) :
    Calls Tryz.prog 12 #[.pointer none] w fun e w' => e = .returned (.int .i64 0) ∧ w = w' := by
  go_enter Tryz.func12, Tryz.ntmps12
  go_wp2
  go_ret
  exact ⟨rfl, rfl⟩
end Go.Proofs.YtdfapebggghfdaaGreatDoor
