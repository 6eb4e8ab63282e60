/- Contract of Candidates, the program's. -/
import Derived.Test.YtjlaiimcbkbciaaDoorCe
namespace Go.Proofs.YtjlaiimcbkbciaaDoor
open Go.RowKit Go.Lib Go.Tx
theorem dots_any (s : ByteArray) (w : World) : Calls Tryd.prog 17 #[.string s] w fun e w' => e = .returned (.int .i64 (countByte s.data.toList 46)) ∧ w' = w := by
  have HC := Lib.hid (Tryd.strings_Count_one s 46 w)
  go_enter Tryd.func17, Tryd.ntmps17
  go_wp2_with (go_at_call 32; refine HC.out.mono ?_; rintro e w2 ⟨rfl, rfl⟩)
  go_ret
  exact ⟨rfl, rfl⟩
theorem one_own (B : Nat) (w : World) (x : ByteArray) (hB : B ≤ w.heap.size) : StrC B (w.alloc (.cells #[.string x] 9)) (.slice (some ⟨w.heap.size, 0, none⟩) 1 1) [x.data.toList] :=
  ⟨rfl, .inr ⟨w.heap.size, 1, #[.string x], rfl, hB, heap_alloc_new w _, Nat.le_refl _, by decide, rfl, rfl⟩⟩
theorem extE_len (N : List UInt8) (ds : List (List UInt8)) : (extE N ds).length ≤ ds.length := by
  unfold extE
  have : ∀ (ds acc : List (List UInt8)), (ds.foldl (stepE N) acc).length ≤ acc.length + ds.length := by
    intro ds
    induction ds with
    | nil => intro acc; simp
    | cons d ds ih =>
      intro acc
      rw [List.foldl_cons]
      have h1 := ih (stepE N acc d)
      have h2 := stepE_len N acc d
      simp only [List.length_cons]; omega
  have := this ds []
  simpa using this
theorem take_src {w : World} {p : Option Addr} {ds : List (List UInt8)} (h : SrcS w p ds) (k : Nat) : SrcS w p (ds.take k) := fun i l hi => by
  rw [List.getElem?_take] at hi
  split at hi
  · exact h i l hi
  · cases hi
theorem strC_mono {B B' : Nat} {w : World} {v : Value} {ws : List (List UInt8)} (h : StrC B w v ws) (hB : B' ≤ B) : StrC B' w v ws := by
  refine ⟨h.1, ?_⟩
  rcases h.2 with h | ⟨g, cap, cur, h1, h2, h3⟩
  · exact .inl h
  · exact .inr ⟨g, cap, cur, h1, Nat.le_trans hB h2, h3⟩
set_option maxHeartbeats 4000000 in
set_option maxRecDepth 100000 in
theorem cands_any (s : ByteArray) (B : Nat) (v : Value) (ds : List (List UInt8)) (dots : Int) (w : World) (hs : s.size ≤ maxLen) (hm : MaxAt w) (hv : StrC B w v ds) (hd : ∀ d ∈ ds, d.length ≤ 1000000) :
    Calls Tryd.prog 10 #[.string s, v, .int .i64 dots] w fun e w' => ∃ v', e = .returned v' ∧ StrC w.heap.size w' v' (candL s.data.toList (ds.take 6) (decide (dots ≤ (countByte ((bare s.data.toList).map low) 46 : Int)))) ∧ Below w.heap.size w w' := by
  have HC := Lib.hid (clean_any s w hs hm)
  rcases cleanV_cases s.data.toList with ⟨hnb, hcv⟩ | ⟨hnb, hcv⟩
  · rw [hcv] at HC
    have hbl : ((bare s.data.toList).map low).length ≤ 253 := by
      have := hnb
      unfold nameB at this
      rw [Bool.and_eq_true, decide_eq_true_iff] at this
      rw [List.length_map]; exact this.1
    have hcl : candL s.data.toList (ds.take 6) (decide (dots ≤ (countByte ((bare s.data.toList).map low) 46 : Int))) = if isRoot s.data.toList = true then [(bare s.data.toList).map low] else if decide (dots ≤ (countByte ((bare s.data.toList).map low) 46 : Int)) = true then (bare s.data.toList).map low :: extE ((bare s.data.toList).map low) (ds.take 6) else extE ((bare s.data.toList).map low) (ds.take 6) ++ [(bare s.data.toList).map low] := by
      unfold candL; rw [if_pos hnb]
    rw [hcl]
    clear hcl hcv
    obtain ⟨N, hN⟩ : ∃ N : ByteArray, ⟨((bare s.data.toList).map low).toArray⟩ = N := ⟨_, rfl⟩
    have hNd : (bare s.data.toList).map low = N.data.toList := by rw [← hN]
    have hNs : N.size ≤ 253 := by rw [hNd] at hbl; exact hbl
    rw [hN] at HC
    rw [hNd]
    clear hbl hNd hN hnb
    cases hr : isRoot s.data.toList with
    | true =>
      rw [hr] at HC
      clear hr
      go_enter Tryd.func10, Tryd.ntmps10
      go_wp2_with (go_at_call 13; refine HC.out.mono ?_; rintro e w2 ⟨rfl, hb⟩)
      go_ret
      exact ⟨_, rfl, one_own _ _ _ hb.size, hb.alloc hb.size _⟩
    | false =>
      rw [hr] at HC
      clear hr
      obtain ⟨p, c, rfl, hc, hmx, hr⟩ := hv.read
      have HS : Hid (SrcS w p ds) := Lib.hid hr
      have HM := Lib.hid hm
      have hmm : (min (ds.length : Int) 6).toNat = min ds.length 6 := by omega
      have HE := Lib.hid (fun wq hb => extended_any N p (min ds.length 6) c (ds.take 6) wq (hm.below hb) hNs (by rw [List.length_take]; omega) (fun d hx => hd d (List.mem_of_mem_take hx)) (by omega) (by omega) hmx ((take_src HS.out 6).below hb))
      have HL := Lib.hid (extE_len N.data.toList (ds.take 6))
      have hlt : (ds.take 6).length ≤ 6 := by rw [List.length_take]; omega
      have HD := Lib.hid (fun w => dots_any N w)
      generalize (countByte N.data.toList 46 : Int) = q at *
      generalize extE N.data.toList (ds.take 6) = X at *
      clear hr hm hd hv hs
      have hXl : X.length ≤ 6 := Nat.le_trans HL.out hlt
      cases hq : decide (dots ≤ q) with
      | true =>
        have hq' := of_decide_eq_true hq
        clear hq
        go_enter Tryd.func10, Tryd.ntmps10
        go_wp2_with (first | (go_at_call 13; refine HC.out.mono ?_; rintro e w2 ⟨rfl, hb⟩) | (go_at_call 18; refine (HE.out _ hb).mono ?_; rintro e w3 ⟨vx, rfl, hx, hb3⟩; have HX := Lib.hid hx; clear hx) | (go_at_call 17; refine (HD.out _).mono ?_; rintro e w4 ⟨rfl, rfl⟩) | (at_builtin; refine wpList_append_texts rfl _ _ rfl (B := w.heap.size) rfl rfl (one_own _ _ _ (Nat.le_trans hb.size hb3.size)) ((StrC.texts HX.out).below ((Below.refl _ _).alloc (Nat.le_refl _) _)) (by simp; omega) (by have := hb.size; have := hb3.size; show w.heap.size ≤ (Array.push _ _).size; simp; omega) ?_; intro v' w5 hown5 hb5))
        go_ret
        have hb23 := hb.trans (hb3.mono hb.size)
        exact ⟨_, rfl, hown5, (hb23.alloc hb23.size _).trans hb5⟩
      | false =>
        have hq' := of_decide_eq_false hq
        clear hq
        go_enter Tryd.func10, Tryd.ntmps10
        go_wp2_with (first | (go_at_call 13; refine HC.out.mono ?_; rintro e w2 ⟨rfl, hb⟩) | (go_at_call 18; refine (HE.out _ hb).mono ?_; rintro e w3 ⟨vx, rfl, hx, hb3⟩; have HX := Lib.hid hx; clear hx) | (go_at_call 17; refine (HD.out _).mono ?_; rintro e w4 ⟨rfl, rfl⟩) | (at_builtin; refine wpList_append_texts rfl _ _ rfl (B := w2.heap.size) rfl rfl (World.ownsRow.alloc HX.out _) (one_texts _ _) (by simp; omega) (by have := hb3.size; show w2.heap.size ≤ (Array.push _ _).size; simp; omega) ?_; intro v' w5 hown5 hb5))
        go_ret
        have hb23 := hb.trans (hb3.mono hb.size)
        exact ⟨_, rfl, strC_mono hown5 hb.size, (hb23.alloc hb23.size _).trans (hb5.mono hb.size)⟩
  · have hcl : ∀ ds b, candL s.data.toList ds b = [] := fun ds b => by unfold candL; rw [if_neg (by rw [hnb]; decide)]
    rw [hcl, ← hcl [] true]
    rw [hcv] at HC
    have HN := Lib.hid (hcl [] true)
    clear hcl hcv hnb
    go_enter Tryd.func10, Tryd.ntmps10
    go_wp2_with (go_at_call 13; refine HC.out.mono ?_; rintro e w2 ⟨rfl, hb⟩)
    go_ret
    exact ⟨_, rfl, by rw [HN.out]; exact World.ownsRow_nil _ _ _ _, hb⟩
end Go.Proofs.YtjlaiimcbkbciaaDoor
