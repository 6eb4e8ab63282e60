/- Contracts: is a text in a list; names with a list's ends. -/
import Derived.Test.YtjlaiimcbkbciaaDoorAt
import Derived.Test.YtjlaiimcbkbciaaDoorCc
import Derived.Test.YtjlaiimcbkbciaaDoorNq
namespace Go.Proofs.YtjlaiimcbkbciaaDoor
open Go.RowKit Go.Lib Go.Tx
theorem contains_any {B : Nat} {v : Value} {T : List (List UInt8)} (x : ByteArray) (w : World) (h : StrC B w v T) (hl : T.length ≤ 1000000) :
    Calls Tryd.prog 33 #[v, .string x] w fun e w' => e = .returned (.bool (decide (x.data.toList ∈ T))) ∧ w' = w := by
  obtain ⟨p, c, rfl, hc, hm, hr⟩ := h.read
  by_cases h0 : T = []
  · subst h0
    refine (Tryd.slices_Contains_string_empty p c x w).mono fun e w' ⟨h1, h2⟩ => ⟨?_, h2⟩
    rw [h1]; simp
  · have hpos : 0 < T.length := by cases T; exact absurd rfl h0; simp
    obtain ⟨g, rfl, hg, _⟩ := hr 0 T[0] (List.getElem?_eq_getElem hpos)
    have hz : ((T.map fun l => (⟨l.toArray⟩ : ByteArray)).take T.length) = T.map fun l => (⟨l.toArray⟩ : ByteArray) := List.take_of_length_le (by simp)
    refine (Tryd.slices_Contains_string g 0 T.length c (T.map fun l => ⟨l.toArray⟩) x w (by simp) (by omega) fun j hj => ?_).mono fun e w' ⟨h1, h2⟩ => ⟨?_, h2⟩
    · rw [List.length_map] at hj
      obtain ⟨g', e, _, h3⟩ := hr j T[j] (List.getElem?_eq_getElem hj)
      cases e
      rw [Nat.zero_add, h3, List.getD_eq_getElem?_getD, List.getElem?_map, List.getElem?_eq_getElem hj]
      rfl
    · rw [h1, hz]
      have : containsS (T.map fun l => (⟨l.toArray⟩ : ByteArray)) x = decide (x.data.toList ∈ T) := by
        rw [Bool.eq_iff_iff, containsS_iff, decide_eq_true_iff, List.mem_map]
        constructor
        · rintro ⟨l, hl, rfl⟩; exact hl
        · intro hx; exact ⟨_, hx, rfl⟩
      rw [this]
/-- Where texts are read. -/
def SrcS (w : World) (p : Option Addr) (ds : List (List UInt8)) : Prop := ∀ (i : Nat) l, ds[i]? = some l → ∃ g, p = some ⟨g, 0, none⟩ ∧ g < w.heap.size ∧ w.cell? ⟨g, i, none⟩ = some (.string ⟨l.toArray⟩)
theorem SrcS.below {w w' : World} {p : Option Addr} {ds : List (List UInt8)} (h : SrcS w p ds) (hb : Below w.heap.size w w') : SrcS w' p ds := fun i l hi => by
  obtain ⟨g, h1, h2, h3⟩ := h i l hi
  exact ⟨g, h1, Nat.lt_of_lt_of_le h2 hb.size, by rw [hb.cell (p := ⟨g, i, none⟩) h2]; exact h3⟩
theorem one_texts (w : World) (x : ByteArray) : TextsIn (w.alloc (.cells #[.string x] 9)) (.slice (some ⟨w.heap.size, 0, none⟩) 1 1) [x.data.toList] := by
  refine .inr ⟨_, 1, rfl, fun i l hi => ?_⟩
  have ha : (⟨w.heap.size, 0, none⟩ : Addr).add i = ⟨w.heap.size, i, none⟩ := by unfold Addr.add; split <;> simp_all
  rw [ha, World.cell?_alloc_new]
  match i, hi with
  | 0, hi => cases hi; rfl
theorem wholeB (N : ByteArray) (d : List UInt8) : (N ++ ⟨#[46]⟩ ++ ⟨((bare d).map low).toArray⟩ : ByteArray).data.toList = whole N.data.toList d := by
  unfold whole
  simp
set_option maxHeartbeats 4000000 in
set_option maxRecDepth 100000 in
theorem extended_any (N : ByteArray) (p : Option Addr) (m c : Nat) (ds : List (List UInt8)) (w : World) (hm : MaxAt w) (hN : N.size ≤ 253) (hlen : ds.length = m) (hd : ∀ d ∈ ds, d.length ≤ 1000000) (h6 : m ≤ 6) (hmc : m ≤ c) (hc : c ≤ 9223372036854775807) (hsrc : SrcS w p ds) :
    Calls Tryd.prog 18 #[.string N, .slice p m c] w fun e w' => ∃ v, e = .returned v ∧ StrC w.heap.size w' v (extE N.data.toList ds) ∧ Below w.heap.size w w' := by
  have HS := Lib.hid hsrc
  have HM := Lib.hid hm
  have HD := Lib.hid hd
  clear hsrc hm hd
  go_enter Tryd.func18, Tryd.ntmps18
  go_wp2
  go_loopw [5, 14] (fun v i wr => ∃ k : Nat, k ≤ m ∧ i = .int .i64 k ∧ StrC w.heap.size wr v ((ds.take k).foldl (stepE N.data.toList) []) ∧ ((ds.take k).foldl (stepE N.data.toList) []).length ≤ k ∧ Below w.heap.size w wr) (fun _ i _ => m - (intOf i).toNat)
  case atStart => exact ⟨0, Nat.zero_le _, rfl, World.ownsRow_nil _ _ _ _, Nat.le_refl _, Below.refl _ _⟩
  case round =>
    obtain ⟨k, hk, rfl, hstr, hfew, hbel⟩ := hrel
    by_cases hlt : k < m
    · have hkl : k < ds.length := by omega
      have HK := Lib.hid (List.getElem?_eq_getElem hkl)
      have hdl := HD.out ds[k] (List.getElem_mem hkl)
      obtain ⟨g, rfl, hg, hcell⟩ := (HS.out.below hbel) k ds[k] HK.out
      have HF := Lib.hid (fold_snoc (stepE N.data.toList) [] ds k ds[k] HK.out)
      generalize ds[k] = d at HK hdl hcell HF
      have HC := Lib.hid (clean_any ⟨d.toArray⟩ wr (by show d.toArray.size ≤ maxLen; simp; unfold maxLen; omega) (HM.out.below hbel))
      have hstrH := Lib.hid hstr
      clear hstr
      obtain ⟨T, hT⟩ : ∃ T, (ds.take k).foldl (stepE N.data.toList) [] = T := ⟨_, rfl⟩
      rw [hT] at HF hstrH hfew
      clear hT
      rcases cleanV_cases d with ⟨hnb, hcv⟩ | ⟨hnb, hcv⟩
      · have hbl : ((bare d).map low).length ≤ 253 := by
          unfold nameB at hnb
          rw [Bool.and_eq_true, decide_eq_true_iff] at hnb
          rw [List.length_map]; exact hnb.1
        have hws := wholeB N d
        obtain ⟨D, hD⟩ : ∃ D : ByteArray, ⟨((bare d).map low).toArray⟩ = D := ⟨_, rfl⟩
        rw [hD] at hcv hws
        have hDs : D.size ≤ 253 := by rw [← hD]; show ((bare d).map low).toArray.size ≤ 253; simpa using hbl
        have HCV : Hid (cleanV (ByteArray.data ⟨d.toArray⟩).toList = .tuple #[.string D, .bool (isRoot d), .bool true]) := Lib.hid hcv
        have HWS := Lib.hid hws
        have HN1 := Lib.hid hnb
        have HIN := Lib.hid (fun wq hm => isName_any (N ++ ⟨#[46]⟩ ++ D) wq hm)
        clear hcv hD hws hnb hbl
        cases hnw : nameB (whole N.data.toList d) with
        | false =>
          have HSt : Hid (stepE N.data.toList T d = T) := Lib.hid (stepE_long hnw)
          have HNW : Hid (nameB (N ++ ⟨#[46]⟩ ++ D : ByteArray).data.toList = false) := Lib.hid (by rw [HWS.out, hnw])
          clear hnw
          go_wp2_with (first | (go_at_call 13; refine HC.out.mono ?_; rw [HCV.out]; rintro e w2 ⟨rfl, hb2⟩) | (go_at_call 25; refine (HIN.out _ ((HM.out.below hbel).below hb2)).mono ?_; rw [HNW.out]; rintro e w3 ⟨rfl, hb3⟩))
          go_roundw
          case rel => exact ⟨k + 1, hlt, by go_num, by rw [HF.out, HSt.out]; exact own_below (own_below hstrH.out hb2) hb3, by rw [HF.out, HSt.out]; omega, (hbel.trans (hb2.mono hbel.size)).trans (hb3.mono (Nat.le_trans hbel.size hb2.size))⟩
          case measure => simp [intOf]; omega
        | true =>
          have HNW : Hid (nameB (N ++ ⟨#[46]⟩ ++ D : ByteArray).data.toList = true) := Lib.hid (by rw [HWS.out, hnw])
          have HNW1 := Lib.hid hnw
          clear hnw
          by_cases hin : whole N.data.toList d ∈ T
          · have HSt : Hid (stepE N.data.toList T d = T) := Lib.hid (stepE_twice hin)
            have HIn : Hid (decide ((N ++ ⟨#[46]⟩ ++ D : ByteArray).data.toList ∈ T) = true) := Lib.hid (by rw [HWS.out]; exact decide_eq_true hin)
            clear hin
            go_wp2_with (first | (go_at_call 13; refine HC.out.mono ?_; rw [HCV.out]; rintro e w2 ⟨rfl, hb2⟩) | (go_at_call 25; refine (HIN.out _ ((HM.out.below hbel).below hb2)).mono ?_; rw [HNW.out]; rintro e w3 ⟨rfl, hb3⟩) | (go_at_call 33; refine (contains_any _ _ (own_below (own_below hstrH.out hb2) hb3) (by omega)).mono ?_; rw [HIn.out]; rintro e w4 ⟨rfl, rfl⟩))
            go_roundw
            case rel => exact ⟨k + 1, hlt, by go_num, by rw [HF.out, HSt.out]; exact own_below (own_below hstrH.out hb2) hb3, by rw [HF.out, HSt.out]; omega, (hbel.trans (hb2.mono hbel.size)).trans (hb3.mono (Nat.le_trans hbel.size hb2.size))⟩
            case measure => simp [intOf]; omega
          · have HSt : Hid (stepE N.data.toList T d = T ++ [whole N.data.toList d]) := Lib.hid (stepE_new HN1.out HNW1.out hin)
            have HIn : Hid (decide ((N ++ ⟨#[46]⟩ ++ D : ByteArray).data.toList ∈ T) = false) := Lib.hid (by rw [HWS.out]; exact decide_eq_false hin)
            clear hin
            go_wp2_with (first | (go_at_call 13; refine HC.out.mono ?_; rw [HCV.out]; rintro e w2 ⟨rfl, hb2⟩) | (go_at_call 25; refine (HIN.out _ ((HM.out.below hbel).below hb2)).mono ?_; rw [HNW.out]; rintro e w3 ⟨rfl, hb3⟩) | (go_at_call 33; refine (contains_any _ _ (own_below (own_below hstrH.out hb2) hb3) (by omega)).mono ?_; rw [HIn.out]; rintro e w4 ⟨rfl, rfl⟩) | (at_builtin; refine wpList_append_texts rfl _ _ rfl (B := w.heap.size) rfl rfl (World.ownsRow.alloc (own_below (own_below hstrH.out hb2) hb3) _) (one_texts _ _) (by simp; omega) (by have := hbel.size; have := hb2.size; have := hb3.size; show w.heap.size ≤ (Array.push _ _).size; simp; omega) ?_; intro v' w5 hown5 hb5))
            go_roundw
            case rel =>
              have hb23 := (hbel.trans (hb2.mono hbel.size)).trans (hb3.mono (Nat.le_trans hbel.size hb2.size))
              exact ⟨k + 1, hlt, by go_num, by rw [HF.out, HSt.out, ← HWS.out]; exact hown5, by rw [HF.out, HSt.out]; simp; omega, (hb23.alloc hb23.size _).trans hb5⟩
            case measure => simp [intOf]; omega
      · have HCV : Hid (cleanV (ByteArray.data ⟨d.toArray⟩).toList = .tuple #[.string ⟨#[]⟩, .bool false, .bool false]) := Lib.hid hcv
        have HSt : Hid (stepE N.data.toList T d = T) := Lib.hid (stepE_none hnb)
        clear hcv hnb
        go_wp2_with (go_at_call 13; refine HC.out.mono ?_; rw [HCV.out]; rintro e w2 ⟨rfl, hb2⟩)
        go_roundw
        case rel => exact ⟨k + 1, hlt, by go_num, by rw [HF.out, HSt.out]; exact own_below hstrH.out hb2, by rw [HF.out, HSt.out]; omega, hbel.trans (hb2.mono hbel.size)⟩
        case measure => simp [intOf]; omega
    · obtain rfl : k = m := by omega
      have HE : Hid ((ds.take k).foldl (stepE N.data.toList) [] = extE N.data.toList ds) := Lib.hid (by rw [List.take_of_length_le (by omega)]; rfl)
      have hstrH := Lib.hid hstr
      clear hstr
      go_wp2
      go_ret
      exact ⟨_, rfl, by rw [← HE.out]; exact hstrH.out, hbel⟩
end Go.Proofs.YtjlaiimcbkbciaaDoor
