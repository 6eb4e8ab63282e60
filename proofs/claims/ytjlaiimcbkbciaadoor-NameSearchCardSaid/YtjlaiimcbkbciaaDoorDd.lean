/- Contract of Candidates, the document's. -/
import Derived.Test.YtjlaiimcbkbciaaDoorDc
namespace Go.Proofs.YtjlaiimcbkbciaaDoor
open Go.RowKit Go.Lib Go.Tx
theorem wholeB2 (N D : ByteArray) (d : List UInt8) (h : (⟨((bare d).map low).toArray⟩ : ByteArray) = D) : (N ++ ⟨#[46]⟩ ++ D : ByteArray).data.toList = whole N.data.toList d := by rw [← h]; exact wholeB N d
theorem of_list (s : ByteArray) : (⟨s.data.toList.toArray⟩ : ByteArray) = s := by cases s; simp
theorem strC_nil (B : Nat) (w : World) : StrC B w (.slice none 0 0) [] := World.ownsRow_nil _ _ _ _
/-- What the document's loop begins with. -/
def accOf (N : List UInt8) (first : Bool) : List (List UInt8) := if first = true then [N] else []
def accK (N : List UInt8) (first : Bool) (ds : List (List UInt8)) (k : Nat) : List (List UInt8) := (ds.take k).foldl (stepE N) (accOf N first)
theorem accK_len (N : List UInt8) (first : Bool) (ds : List (List UInt8)) (k : Nat) : (accK N first ds k).length ≤ k + 1 := by
  have : ∀ (ds acc : List (List UInt8)), (ds.foldl (stepE N) acc).length ≤ acc.length + ds.length := by
    intro ds
    induction ds with
    | nil => intro acc; simp
    | cons d ds ih =>
      intro acc
      rw [List.foldl_cons]
      have h1 := ih (stepE N acc d)
      have h2 := stepE_len N acc d
      simp only [List.length_cons]; omega
  have h := this (ds.take k) (accOf N first)
  have h2 : (accOf N first).length ≤ 1 := by unfold accOf; split <;> simp
  have h3 : (ds.take k).length ≤ k := by rw [List.length_take]; omega
  unfold accK; omega
theorem acc_first (N : List UInt8) (ds : List (List UInt8)) (k : Nat) : accK N true ds k = N :: extE N (ds.take k) := by
  unfold accK accOf extE
  rw [if_pos rfl]
  exact ref_ahead N _ []
theorem acc_last (N : List UInt8) (ds : List (List UInt8)) (k : Nat) : accK N false ds k = extE N (ds.take k) ∧ N ∉ accK N false ds k := by
  refine ⟨rfl, ?_⟩
  unfold accK accOf
  rw [if_neg (by decide)]
  exact ext_not N _ [] (by simp)
set_option maxHeartbeats 1500000 in
set_option maxRecDepth 100000 in
theorem rcands_any (s : ByteArray) (B : Nat) (v : Value) (ds : List (List UInt8)) (dots : Int) (w : World) (hs : s.size ≤ 1000000) (hv : StrC B w v ds) (hd : ∀ d ∈ ds, d.length ≤ 1000000) (hdn : ds.length ≤ 1000000) :
    Calls Tryd.prog 11 #[.string s, v, .int .i64 dots] w fun e w' => ∃ v', e = .returned v' ∧ StrC w.heap.size w' v' (candL s.data.toList (ds.take 6) (decide (dots ≤ (countByte ((bare s.data.toList).map low) 46 : Int)))) ∧ Below w.heap.size w w' := by
  have HC := Lib.hid (rclean_any s w hs)
  rcases cleanV_cases s.data.toList with ⟨hnb, hcv⟩ | ⟨hnb, hcv⟩
  · rw [hcv] at HC
    have hbl : ((bare s.data.toList).map low).length ≤ 253 := by
      have := hnb
      unfold nameB at this
      rw [Bool.and_eq_true, decide_eq_true_iff] at this
      rw [List.length_map]; exact this.1
    have hcl : candL s.data.toList (ds.take 6) (decide (dots ≤ (countByte ((bare s.data.toList).map low) 46 : Int))) = if isRoot s.data.toList = true then [(bare s.data.toList).map low] else if decide (dots ≤ (countByte ((bare s.data.toList).map low) 46 : Int)) = true then (bare s.data.toList).map low :: extE ((bare s.data.toList).map low) (ds.take 6) else extE ((bare s.data.toList).map low) (ds.take 6) ++ [(bare s.data.toList).map low] := by
      unfold candL; rw [if_pos hnb]
    rw [hcl]
    clear hcl hcv
    have hNlow := low_low (bare s.data.toList)
    obtain ⟨N, hN⟩ : ∃ N : ByteArray, ⟨((bare s.data.toList).map low).toArray⟩ = N := ⟨_, rfl⟩
    have hNd : (bare s.data.toList).map low = N.data.toList := by rw [← hN]
    have hNs : N.size ≤ 253 := by rw [hNd] at hbl; exact hbl
    rw [hN] at HC
    rw [hNd] at hNlow ⊢
    clear hbl hNd hN hnb
    cases hr : isRoot s.data.toList with
    | true =>
      rw [hr] at HC
      clear hr
      go_enter Tryd.func11, Tryd.ntmps11
      go_wp2_with (go_at_call 15; refine HC.out.mono ?_; rintro e w2 ⟨rfl, hb⟩)
      go_ret
      exact ⟨_, rfl, one_own _ _ _ hb.size, hb.alloc hb.size _⟩
    | false =>
      rw [hr] at HC
      clear hr
      obtain ⟨p, c, rfl, hc, hmx, hr⟩ := hv.read
      have HS : Hid (SrcS w p ds) := Lib.hid hr
      have HDD := Lib.hid hd
      have HLow := Lib.hid hNlow
      have HD := Lib.hid (fun w => rdots_any N w (by omega))
      clear hr hd hv hs hNlow
      obtain ⟨n, hn⟩ : ∃ n, ds.length = n := ⟨_, rfl⟩
      have HN := Lib.hid hn
      rw [hn] at hc hdn ⊢
      clear hn
      generalize (countByte N.data.toList 46 : Int) = q at *
      cases hq : decide (dots ≤ q) with
      | true =>
        have hq' := of_decide_eq_true hq
        have HQ := Lib.hid hq
        clear hq
        go_enter Tryd.func11, Tryd.ntmps11
        go_wp2_with (first | (go_at_call 15; refine HC.out.mono ?_; rintro e w2 ⟨rfl, hb⟩) | (go_at_call 19; refine (HD.out _).mono ?_; rintro e w3 ⟨rfl, hb3⟩) | (at_builtin; refine wpList_append_texts rfl _ _ rfl (B := w.heap.size) rfl rfl (strC_nil _ _) (one_texts _ _) (by simp only [List.length_nil, List.length_cons]; omega) (by have := hb.size; have := hb3.size; show w.heap.size ≤ (Array.push _ _).size; simp; omega) ?_; intro v0 w5 hown5 hb5))
        go_loopw [10, 12] (fun v i wr => ∃ k : Nat, k ≤ n ∧ k ≤ 6 ∧ i = .int .i64 k ∧ StrC w.heap.size wr v (accK N.data.toList true ds k) ∧ Below w.heap.size w wr) (fun _ i _ => n - (intOf i).toNat)
        case atStart => exact ⟨0, Nat.zero_le _, Nat.zero_le _, rfl, hown5, (((hb.trans (hb3.mono hb.size)).alloc (Nat.le_trans hb.size hb3.size) _).trans hb5)⟩
        case round =>
          obtain ⟨k, hk, hk6, rfl, hstr, hbel⟩ := hrel
          have hfew := accK_len N.data.toList true ds k
          have HStr := Lib.hid hstr
          clear hstr
          by_cases hlt : k < n ∧ k < 6
          · obtain ⟨hl1, hl2⟩ := hlt
            have hl2' : (k : Int) < 6 := by omega
            have hkl : k < ds.length := by rw [HN.out]; exact hl1
            have HK := Lib.hid (List.getElem?_eq_getElem hkl)
            have hdl := HDD.out ds[k] (List.getElem_mem hkl)
            obtain ⟨g, rfl, hg, hcell⟩ := (HS.out.below hbel) k ds[k] HK.out
            have HF : Hid (accK N.data.toList true ds (k + 1) = stepE N.data.toList (accK N.data.toList true ds k) ds[k]) := Lib.hid (fold_snoc (stepE N.data.toList) (accOf N.data.toList true) ds k ds[k] HK.out)
            generalize ds[k] = d at HK hdl hcell HF
            clear hkl
            have HC1 := Lib.hid (rclean_any ⟨d.toArray⟩ wr (by show d.toArray.size ≤ 1000000; simpa using hdl))
            generalize accK N.data.toList true ds k = T at *
            rcases cleanV_cases d with ⟨hnb, hcv⟩ | ⟨hnb, hcv⟩
            · have hbl : ((bare d).map low).length ≤ 253 := by
                unfold nameB at hnb
                rw [Bool.and_eq_true, decide_eq_true_iff] at hnb
                rw [List.length_map]; exact hnb.1
              obtain ⟨D, hD⟩ : ∃ D : ByteArray, ⟨((bare d).map low).toArray⟩ = D := ⟨_, rfl⟩
              have hws := wholeB2 N D d hD
              rw [hD] at hcv
              have hDs : D.size ≤ 253 := by rw [← hD]; show ((bare d).map low).toArray.size ≤ 253; simpa using hbl
              have HCV : Hid (cleanV (ByteArray.data ⟨d.toArray⟩).toList = .tuple #[.string D, .bool (isRoot d), .bool true]) := Lib.hid hcv
              have HWS := Lib.hid hws
              have HN1 := Lib.hid hnb
              have hsz : (N ++ ⟨#[46]⟩ ++ D : ByteArray).size ≤ 1000000 := by
                rw [ByteArray.size_append, ByteArray.size_append]
                have : (ByteArray.mk #[46]).size = 1 := rfl
                omega
              have HIN := Lib.hid (fun wq => rclean_any (N ++ ⟨#[46]⟩ ++ D) wq hsz)
              have HBB := Lib.hid (bare_bare_end d hnb N.data.toList)
              have HWL := Lib.hid (whole_low N.data.toList d HLow.out)
              clear hcv hD hws hnb hbl hsz
              have hcw : cleanV (N ++ ⟨#[46]⟩ ++ D : ByteArray).data.toList = if nameB (whole N.data.toList d) = true then .tuple #[.string (N ++ ⟨#[46]⟩ ++ D), .bool (isRoot (whole N.data.toList d)), .bool true] else .tuple #[.string ⟨#[]⟩, .bool false, .bool false] := by
                have e : (⟨((bare (whole N.data.toList d)).map low).toArray⟩ : ByteArray) = N ++ ⟨#[46]⟩ ++ D := by rw [HBB.out, HWL.out, ← HWS.out]
                unfold cleanV
                rw [HWS.out, HBB.out] at *
                rw [e]
              cases hnw : nameB (whole N.data.toList d) with
              | false =>
                have HSt : Hid (stepE N.data.toList T d = T) := Lib.hid (stepE_long hnw)
                have HNW : Hid (cleanV (N ++ ⟨#[46]⟩ ++ D : ByteArray).data.toList = .tuple #[.string ⟨#[]⟩, .bool false, .bool false]) := Lib.hid (by rw [hcw, if_neg (by rw [hnw]; decide)])
                clear hnw hcw
                go_wp2_with (go_at_call 15; first | (with_reducible refine HC1.out.mono ?_; rw [HCV.out]; rintro e w6 ⟨rfl, hb6⟩) | (with_reducible refine (HIN.out _).mono ?_; rw [HNW.out]; rintro e w7 ⟨rfl, hb7⟩))
                go_roundw
                case rel => exact ⟨k + 1, hl1, hl2, by go_num, by rw [HF.out, HSt.out]; exact own_below (own_below HStr.out hb6) hb7, (hbel.trans (hb6.mono hbel.size)).trans (hb7.mono (Nat.le_trans hbel.size hb6.size))⟩
                case measure => simp [intOf]; omega
              | true =>
                have HNW : Hid (cleanV (N ++ ⟨#[46]⟩ ++ D : ByteArray).data.toList = .tuple #[.string (N ++ ⟨#[46]⟩ ++ D), .bool (isRoot (whole N.data.toList d)), .bool true]) := Lib.hid (by rw [hcw, if_pos hnw])
                have HNW1 := Lib.hid hnw
                clear hnw hcw
                generalize isRoot (whole N.data.toList d) = rb at HNW
                by_cases hin : whole N.data.toList d ∈ T
                · have HSt : Hid (stepE N.data.toList T d = T) := Lib.hid (stepE_twice hin)
                  have HIn : Hid (decide ((N ++ ⟨#[46]⟩ ++ D : ByteArray).data.toList ∈ T) = true) := Lib.hid (by rw [HWS.out]; exact decide_eq_true hin)
                  clear hin
                  go_wp2_with (first | (go_at_call 15; first | (with_reducible refine HC1.out.mono ?_; rw [HCV.out]; rintro e w6 ⟨rfl, hb6⟩) | (with_reducible refine (HIN.out _).mono ?_; rw [HNW.out]; rintro e w7 ⟨rfl, hb7⟩)) | (go_at_call 20; refine (among_any _ _ (own_below (own_below HStr.out hb6) hb7) (by omega)).mono ?_; rw [HIn.out]; rintro e w8 ⟨rfl, rfl⟩))
                  go_roundw
                  case rel => exact ⟨k + 1, hl1, hl2, by go_num, by rw [HF.out, HSt.out]; exact own_below (own_below HStr.out hb6) hb7, (hbel.trans (hb6.mono hbel.size)).trans (hb7.mono (Nat.le_trans hbel.size hb6.size))⟩
                  case measure => simp [intOf]; omega
                · have HSt : Hid (stepE N.data.toList T d = T ++ [whole N.data.toList d]) := Lib.hid (stepE_new HN1.out HNW1.out hin)
                  have HIn : Hid (decide ((N ++ ⟨#[46]⟩ ++ D : ByteArray).data.toList ∈ T) = false) := Lib.hid (by rw [HWS.out]; exact decide_eq_false hin)
                  clear hin
                  go_wp2_with (first | (go_at_call 15; first | (with_reducible refine HC1.out.mono ?_; rw [HCV.out]; rintro e w6 ⟨rfl, hb6⟩) | (with_reducible refine (HIN.out _).mono ?_; rw [HNW.out]; rintro e w7 ⟨rfl, hb7⟩)) | (go_at_call 20; refine (among_any _ _ (own_below (own_below HStr.out hb6) hb7) (by omega)).mono ?_; rw [HIn.out]; rintro e w8 ⟨rfl, rfl⟩) | (at_builtin; refine wpList_append_texts rfl _ _ rfl (B := w.heap.size) rfl rfl (World.ownsRow.alloc (own_below (own_below HStr.out hb6) hb7) _) (one_texts _ _) (by simp; omega) (by have := hbel.size; have := hb6.size; have := hb7.size; show w.heap.size ≤ (Array.push _ _).size; simp; omega) ?_; intro v' w9 hown9 hb9))
                  go_roundw
                  case rel =>
                    have hb67 := (hbel.trans (hb6.mono hbel.size)).trans (hb7.mono (Nat.le_trans hbel.size hb6.size))
                    exact ⟨k + 1, hl1, hl2, by go_num, by rw [HF.out, HSt.out, ← HWS.out]; exact hown9, (hb67.alloc hb67.size _).trans hb9⟩
                  case measure => simp [intOf]; omega
            · have HCV : Hid (cleanV (ByteArray.data ⟨d.toArray⟩).toList = .tuple #[.string ⟨#[]⟩, .bool false, .bool false]) := Lib.hid hcv
              have HSt : Hid (stepE N.data.toList T d = T) := Lib.hid (stepE_none hnb)
              clear hcv hnb
              go_wp2_with (go_at_call 15; refine HC1.out.mono ?_; rw [HCV.out]; rintro e w6 ⟨rfl, hb6⟩)
              go_roundw
              case rel => exact ⟨k + 1, hl1, hl2, by go_num, by rw [HF.out, HSt.out]; exact own_below HStr.out hb6, hbel.trans (hb6.mono hbel.size)⟩
              case measure => simp [intOf]; omega
          · have HE : Hid (accK N.data.toList true ds k = accK N.data.toList true ds 6) := Lib.hid (by
              have hnn := HN.out
              unfold accK
              by_cases h : k = 6
              · rw [h]
              · rw [List.take_of_length_le (by omega), List.take_of_length_le (by omega)])
            by_cases hkn : k < n
            · have hk6' : ¬ (k : Int) < 6 := by omega
              go_wp2
              go_ret
              exact ⟨_, rfl, by have h1 := HStr.out; rw [HE.out, acc_first] at h1; exact h1, hbel⟩
            · go_wp2
              go_ret
              exact ⟨_, rfl, by have h1 := HStr.out; rw [HE.out, acc_first] at h1; exact h1, hbel⟩
      | false =>
        have hq' := of_decide_eq_false hq
        go_enter Tryd.func11, Tryd.ntmps11
        go_wp2_with (first | (go_at_call 15; refine HC.out.mono ?_; rintro e w2 ⟨rfl, hb⟩) | (go_at_call 19; refine (HD.out _).mono ?_; rintro e w3 ⟨rfl, hb3⟩))
        go_loopw [10, 12] (fun v i wr => ∃ k : Nat, k ≤ n ∧ k ≤ 6 ∧ i = .int .i64 k ∧ StrC w.heap.size wr v (accK N.data.toList false ds k) ∧ Below w.heap.size w wr) (fun _ i _ => n - (intOf i).toNat)
        case atStart => exact ⟨0, Nat.zero_le _, Nat.zero_le _, rfl, World.ownsRow_nil _ _ _ _, hb.trans (hb3.mono hb.size)⟩
        case round =>
          obtain ⟨k, hk, hk6, rfl, hstr, hbel⟩ := hrel
          have hfew := accK_len N.data.toList false ds k
          have HStr := Lib.hid hstr
          clear hstr
          by_cases hlt : k < n ∧ k < 6
          · obtain ⟨hl1, hl2⟩ := hlt
            have hl2' : (k : Int) < 6 := by omega
            have hkl : k < ds.length := by rw [HN.out]; exact hl1
            have HK := Lib.hid (List.getElem?_eq_getElem hkl)
            have hdl := HDD.out ds[k] (List.getElem_mem hkl)
            obtain ⟨g, rfl, hg, hcell⟩ := (HS.out.below hbel) k ds[k] HK.out
            have HF : Hid (accK N.data.toList false ds (k + 1) = stepE N.data.toList (accK N.data.toList false ds k) ds[k]) := Lib.hid (fold_snoc (stepE N.data.toList) (accOf N.data.toList false) ds k ds[k] HK.out)
            generalize ds[k] = d at HK hdl hcell HF
            clear hkl
            have HC1 := Lib.hid (rclean_any ⟨d.toArray⟩ wr (by show d.toArray.size ≤ 1000000; simpa using hdl))
            generalize accK N.data.toList false ds k = T at *
            rcases cleanV_cases d with ⟨hnb, hcv⟩ | ⟨hnb, hcv⟩
            · have hbl : ((bare d).map low).length ≤ 253 := by
                unfold nameB at hnb
                rw [Bool.and_eq_true, decide_eq_true_iff] at hnb
                rw [List.length_map]; exact hnb.1
              obtain ⟨D, hD⟩ : ∃ D : ByteArray, ⟨((bare d).map low).toArray⟩ = D := ⟨_, rfl⟩
              have hws := wholeB2 N D d hD
              rw [hD] at hcv
              have hDs : D.size ≤ 253 := by rw [← hD]; show ((bare d).map low).toArray.size ≤ 253; simpa using hbl
              have HCV : Hid (cleanV (ByteArray.data ⟨d.toArray⟩).toList = .tuple #[.string D, .bool (isRoot d), .bool true]) := Lib.hid hcv
              have HWS := Lib.hid hws
              have HN1 := Lib.hid hnb
              have hsz : (N ++ ⟨#[46]⟩ ++ D : ByteArray).size ≤ 1000000 := by
                rw [ByteArray.size_append, ByteArray.size_append]
                have : (ByteArray.mk #[46]).size = 1 := rfl
                omega
              have HIN := Lib.hid (fun wq => rclean_any (N ++ ⟨#[46]⟩ ++ D) wq hsz)
              have HBB := Lib.hid (bare_bare_end d hnb N.data.toList)
              have HWL := Lib.hid (whole_low N.data.toList d HLow.out)
              clear hcv hD hws hnb hbl hsz
              have hcw : cleanV (N ++ ⟨#[46]⟩ ++ D : ByteArray).data.toList = if nameB (whole N.data.toList d) = true then .tuple #[.string (N ++ ⟨#[46]⟩ ++ D), .bool (isRoot (whole N.data.toList d)), .bool true] else .tuple #[.string ⟨#[]⟩, .bool false, .bool false] := by
                have e : (⟨((bare (whole N.data.toList d)).map low).toArray⟩ : ByteArray) = N ++ ⟨#[46]⟩ ++ D := by rw [HBB.out, HWL.out, ← HWS.out]
                unfold cleanV
                rw [HWS.out, HBB.out] at *
                rw [e]
              cases hnw : nameB (whole N.data.toList d) with
              | false =>
                have HSt : Hid (stepE N.data.toList T d = T) := Lib.hid (stepE_long hnw)
                have HNW : Hid (cleanV (N ++ ⟨#[46]⟩ ++ D : ByteArray).data.toList = .tuple #[.string ⟨#[]⟩, .bool false, .bool false]) := Lib.hid (by rw [hcw, if_neg (by rw [hnw]; decide)])
                clear hnw hcw
                go_wp2_with (go_at_call 15; first | (with_reducible refine HC1.out.mono ?_; rw [HCV.out]; rintro e w6 ⟨rfl, hb6⟩) | (with_reducible refine (HIN.out _).mono ?_; rw [HNW.out]; rintro e w7 ⟨rfl, hb7⟩))
                go_roundw
                case rel => exact ⟨k + 1, hl1, hl2, by go_num, by rw [HF.out, HSt.out]; exact own_below (own_below HStr.out hb6) hb7, (hbel.trans (hb6.mono hbel.size)).trans (hb7.mono (Nat.le_trans hbel.size hb6.size))⟩
                case measure => simp [intOf]; omega
              | true =>
                have HNW : Hid (cleanV (N ++ ⟨#[46]⟩ ++ D : ByteArray).data.toList = .tuple #[.string (N ++ ⟨#[46]⟩ ++ D), .bool (isRoot (whole N.data.toList d)), .bool true]) := Lib.hid (by rw [hcw, if_pos hnw])
                have HNW1 := Lib.hid hnw
                clear hnw hcw
                generalize isRoot (whole N.data.toList d) = rb at HNW
                by_cases hin : whole N.data.toList d ∈ T
                · have HSt : Hid (stepE N.data.toList T d = T) := Lib.hid (stepE_twice hin)
                  have HIn : Hid (decide ((N ++ ⟨#[46]⟩ ++ D : ByteArray).data.toList ∈ T) = true) := Lib.hid (by rw [HWS.out]; exact decide_eq_true hin)
                  clear hin
                  go_wp2_with (first | (go_at_call 15; first | (with_reducible refine HC1.out.mono ?_; rw [HCV.out]; rintro e w6 ⟨rfl, hb6⟩) | (with_reducible refine (HIN.out _).mono ?_; rw [HNW.out]; rintro e w7 ⟨rfl, hb7⟩)) | (go_at_call 20; refine (among_any _ _ (own_below (own_below HStr.out hb6) hb7) (by omega)).mono ?_; rw [HIn.out]; rintro e w8 ⟨rfl, rfl⟩))
                  go_roundw
                  case rel => exact ⟨k + 1, hl1, hl2, by go_num, by rw [HF.out, HSt.out]; exact own_below (own_below HStr.out hb6) hb7, (hbel.trans (hb6.mono hbel.size)).trans (hb7.mono (Nat.le_trans hbel.size hb6.size))⟩
                  case measure => simp [intOf]; omega
                · have HSt : Hid (stepE N.data.toList T d = T ++ [whole N.data.toList d]) := Lib.hid (stepE_new HN1.out HNW1.out hin)
                  have HIn : Hid (decide ((N ++ ⟨#[46]⟩ ++ D : ByteArray).data.toList ∈ T) = false) := Lib.hid (by rw [HWS.out]; exact decide_eq_false hin)
                  clear hin
                  go_wp2_with (first | (go_at_call 15; first | (with_reducible refine HC1.out.mono ?_; rw [HCV.out]; rintro e w6 ⟨rfl, hb6⟩) | (with_reducible refine (HIN.out _).mono ?_; rw [HNW.out]; rintro e w7 ⟨rfl, hb7⟩)) | (go_at_call 20; refine (among_any _ _ (own_below (own_below HStr.out hb6) hb7) (by omega)).mono ?_; rw [HIn.out]; rintro e w8 ⟨rfl, rfl⟩) | (at_builtin; refine wpList_append_texts rfl _ _ rfl (B := w.heap.size) rfl rfl (World.ownsRow.alloc (own_below (own_below HStr.out hb6) hb7) _) (one_texts _ _) (by simp; omega) (by have := hbel.size; have := hb6.size; have := hb7.size; show w.heap.size ≤ (Array.push _ _).size; simp; omega) ?_; intro v' w9 hown9 hb9))
                  go_roundw
                  case rel =>
                    have hb67 := (hbel.trans (hb6.mono hbel.size)).trans (hb7.mono (Nat.le_trans hbel.size hb6.size))
                    exact ⟨k + 1, hl1, hl2, by go_num, by rw [HF.out, HSt.out, ← HWS.out]; exact hown9, (hb67.alloc hb67.size _).trans hb9⟩
                  case measure => simp [intOf]; omega
            · have HCV : Hid (cleanV (ByteArray.data ⟨d.toArray⟩).toList = .tuple #[.string ⟨#[]⟩, .bool false, .bool false]) := Lib.hid hcv
              have HSt : Hid (stepE N.data.toList T d = T) := Lib.hid (stepE_none hnb)
              clear hcv hnb
              go_wp2_with (go_at_call 15; refine HC1.out.mono ?_; rw [HCV.out]; rintro e w6 ⟨rfl, hb6⟩)
              go_roundw
              case rel => exact ⟨k + 1, hl1, hl2, by go_num, by rw [HF.out, HSt.out]; exact own_below HStr.out hb6, hbel.trans (hb6.mono hbel.size)⟩
              case measure => simp [intOf]; omega
          · have HE : Hid (accK N.data.toList false ds k = accK N.data.toList false ds 6) := Lib.hid (by
              have hnn := HN.out
              unfold accK
              by_cases h : k = 6
              · rw [h]
              · rw [List.take_of_length_le (by omega), List.take_of_length_le (by omega)])
            have HNo : Hid (decide (N.data.toList ∈ accK N.data.toList false ds k) = false) := Lib.hid (decide_eq_false (acc_last _ _ _).2)
            by_cases hkn : k < n
            · have hk6' : ¬ (k : Int) < 6 := by omega
              go_wp2_with (first | (go_at_call 20; refine (among_any _ _ HStr.out (by omega)).mono ?_; rw [HNo.out]; rintro e w8 ⟨rfl, rfl⟩) | (at_builtin; refine wpList_append_texts rfl _ _ rfl (B := w.heap.size) rfl rfl (World.ownsRow.alloc HStr.out _) (one_texts _ _) (by simp; omega) (by have := hbel.size; show w.heap.size ≤ (Array.push _ _).size; simp; omega) ?_; intro v' w9 hown9 hb9))
              go_ret
              exact ⟨_, rfl, by have h1 := hown9; rw [HE.out, (acc_last _ _ _).1] at h1; exact h1, (hbel.alloc hbel.size _).trans hb9⟩
            · skip
              go_wp2_with (first | (go_at_call 20; refine (among_any _ _ HStr.out (by omega)).mono ?_; rw [HNo.out]; rintro e w8 ⟨rfl, rfl⟩) | (at_builtin; refine wpList_append_texts rfl _ _ rfl (B := w.heap.size) rfl rfl (World.ownsRow.alloc HStr.out _) (one_texts _ _) (by simp; omega) (by have := hbel.size; show w.heap.size ≤ (Array.push _ _).size; simp; omega) ?_; intro v' w9 hown9 hb9))
              go_ret
              exact ⟨_, rfl, by have h1 := hown9; rw [HE.out, (acc_last _ _ _).1] at h1; exact h1, (hbel.alloc hbel.size _).trans hb9⟩
  · have hcl : ∀ ds b, candL s.data.toList ds b = [] := fun ds b => by unfold candL; rw [if_neg (by rw [hnb]; decide)]
    rw [hcl, ← hcl [] true]
    rw [hcv] at HC
    have HN := Lib.hid (hcl [] true)
    clear hcl hcv hnb
    go_enter Tryd.func11, Tryd.ntmps11
    go_wp2_with (go_at_call 15; refine HC.out.mono ?_; rintro e w2 ⟨rfl, hb⟩)
    go_ret
    exact ⟨_, rfl, by rw [HN.out]; exact World.ownsRow_nil _ _ _ _, hb⟩
end Go.Proofs.YtjlaiimcbkbciaaDoor
