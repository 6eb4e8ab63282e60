/- The document's Parse: two sides of '::' laid into sixteen bytes. -/
import Derived.Test.YtbhmmdkipmddlaaDoorPd
import Derived.Laws.CopyOwn
namespace Go.Proofs.YtbhmmdkipmddlaaDoor
open Go.RowKit Go.Lib Go.Tx Go.Rb Go.Ev
def zer : List Value := List.replicate 16 (.int .u8 0)
theorem make16 (w : World) : (Instr.makeSlice 31 (.int .i64 16) (.int .i64 16)).run Tryd.prog w = .ok (.slice (some ⟨w.heap.size, 0, none⟩) 16 16) (w.alloc (.cells zer.toArray 5)) := by
  obtain ⟨i0, hi, hz0, hz1, hz2⟩ := info_parts info5
  have hr := run_make (P := Tryd.prog) w 31 5 i0 _ Tryd.underlying31 hi hz0 .i64 .i64 16 16 (by omega) (Int.le_refl _) (by rw [hz2]; omega) (by omega)
  rw [hz1] at hr
  have e : madeCells (Value.int .u8 0).cells (Int.toNat 16 * 1) = zer.toArray := by
    apply Array.ext
    · rw [size_madeCells]; rfl
    · intro i h1 h2
      rw [size_madeCells] at h1
      have e0 : zer.toArray[i] = Value.int .u8 0 := by simp only [zer, List.getElem_toArray, List.getElem_replicate]
      rw [e0]
      simp [madeCells, Value.cells, Nat.mod_one]
  rw [e] at hr
  exact hr
theorem size8 : (Tryd.prog.info? 5).map (·.size) = some 1 := by kernel_rfl
theorem vb_one (l : List UInt8) : ∀ v ∈ vbytes l, v.oneCell' = true := fun v hv => by
  unfold vbytes at hv
  obtain ⟨c, _, rfl⟩ := List.mem_map.1 hv
  rfl
theorem vb_len (l : List UInt8) : (vbytes l).length = l.length := by simp [vbytes]
theorem zer_len : zer.length = 16 := rfl
theorem vb_append (x y : List UInt8) : vbytes (x ++ y) = vbytes x ++ vbytes y := by simp [vbytes]
theorem vb_zero (n : Nat) : vbytes (List.replicate n 0) = List.replicate n (.int .u8 0) := by
  unfold vbytes
  rw [List.map_replicate]
  rfl
theorem splice16 (a b : List UInt8) (h : a.length + b.length ≤ 16) : splice (splice zer 0 (vbytes a)) (16 - b.length) (vbytes b) = vbytes (a ++ List.replicate (16 - a.length - b.length) 0 ++ b) := by
  have e1 : splice zer 0 (vbytes a) = vbytes (a ++ List.replicate (16 - a.length) 0) := by
    unfold splice zer
    rw [List.take_zero, List.nil_append, Nat.zero_add, vb_len, List.drop_replicate, vb_append, vb_zero]
  have e2 : a ++ List.replicate (16 - a.length) 0 = (a ++ List.replicate (16 - a.length - b.length) 0) ++ List.replicate b.length 0 := by
    rw [List.append_assoc, List.replicate_append_replicate]
    congr 2
    omega
  have e3 : (vbytes (a ++ List.replicate (16 - a.length - b.length) (0 : UInt8))).length = 16 - b.length := by rw [vb_len]; simp; omega
  rw [e1, e2]
  unfold splice
  rw [vb_append (a ++ _) (List.replicate b.length 0), List.take_left' e3, vb_append (a ++ _) b]
  congr 1
  rw [List.drop_of_length_le (by rw [List.length_append, e3, vb_len, vb_len]; simp), List.append_nil]
theorem conv16 (w : World) (g : Nat) (L : List UInt8) (hL : L.length = 16) (h : w.heap[g]? = some (.cells (vbytes L).toArray 5 (0, 0))) : (convert 31 9 (.slice (some ⟨g, 0, none⟩) 16 16)).run Tryd.prog w = .ok (.string ⟨L.toArray⟩) w := by
  have hc := run_convert_bytes_back (P := Tryd.prog) w 31 9 5 ⟨g, 0, none⟩ 16 L Tryd.underlying31 Tryd.underlying5 Tryd.underlying9 (fun j hj => by
    have ha : (⟨g, 0, none⟩ : Addr).add j = ⟨g, j, none⟩ := by unfold Addr.add; split <;> simp_all
    rw [ha]
    unfold World.cell?
    rw [h]
    simp [vbytes, hj])
  rw [hL] at hc
  exact hc
set_option maxHeartbeats 1000000 in
set_option maxRecDepth 100000 in
theorem dbl_full (s : ByteArray) (w : World) (q : Nat) (hn : s.size ≤ 100000) (hf : fourP (splitL 46 s.data.toList) = none) (hq : q + 1 < s.size) (hno : ∀ j, j < q → ccAt s.data.toList j = false) (hyes : ccAt s.data.toList q = true) (a b : List UInt8) (hA : groupsP false (s.data.toList.take q) = some a) (hB : groupsP true (s.data.toList.drop (q + 2)) = some b) (h14 : a.length + b.length ≤ 14) (hb0 : 0 < b.length) :
    Calls Tryd.prog 8 #[.string s] w (FourR w (some (a ++ List.replicate (16 - a.length - b.length) 0 ++ b))) := by
  have HF := Lib.hid hf
  have HC := Lib.hid hno
  obtain ⟨y1, y2⟩ := cc_yes hq hyes
  have hga : ∀ W, Calls Tryd.prog 17 #[.string (s.extract 0 q), .bool false] W (GroupsR W (groupsP false (s.data.toList.take q))) := fun W => by
    have := groups_any false (s.extract 0 q) W (by rw [ByteArray.size_extract]; omega)
    rwa [ext_take] at this
  have hgb : ∀ W, Calls Tryd.prog 17 #[.string (s.extract (q + 2) s.size), .bool true] W (GroupsR W (groupsP true (s.data.toList.drop (q + 2)))) := fun W => by
    have := groups_any true (s.extract (q + 2) s.size) W (by rw [ByteArray.size_extract]; omega)
    rwa [ext_from] at this
  have HRA := Lib.hid hA
  have HRB := Lib.hid hB
  have hla : a.length ≤ 14 := by omega
  have hlb : b.length ≤ 14 := by omega
  have hi14 : (a.length : Int) + (b.length : Int) ≤ 14 := by omega
  obtain ⟨z, hz⟩ : ∃ z, 16 - b.length = z := ⟨_, rfl⟩
  have hz2 : (16 : Int) - (b.length : Int) = (z : Int) := by omega
  have hz3 : z < 16 := by omega
  have hz4 : (z : Int) < 16 := by omega
  have hz5 : ¬ z = 16 := by omega
  have HZ := Lib.hid hz
  have hmk := make16
  obtain ⟨R, hR⟩ : ∃ R : ByteArray, ⟨(a ++ List.replicate (16 - a.length - b.length) 0 ++ b).toArray⟩ = R := ⟨_, rfl⟩
  have HCV : Hid (∀ (w : World) (g : Nat), w.heap[g]? = some (.cells (splice (splice zer 0 (vbytes a)) z (vbytes b)).toArray 5 (0, 0)) → (convert 31 9 (.slice (some ⟨g, 0, none⟩) 16 16)).run Tryd.prog w = .ok (.string R) w) := Lib.hid (fun w g h => by
    rw [← HZ.out, splice16 a b (by omega)] at h
    have := conv16 w g _ (by simp; omega) h
    rw [hR] at this
    exact this)
  have hRes : FourR w (some (a ++ List.replicate (16 - a.length - b.length) 0 ++ b)) = fun e w' => e = .returned (.tuple #[.string R, .bool true]) ∧ Below w.heap.size w w' := by
    funext e w'
    unfold FourR
    rw [← hR]
    rfl
  rw [hRes]
  clear hRes hR
  clear hz
  have HGA := Lib.hid hga
  have HGB := Lib.hid hgb
  clear hga hgb hf hno hyes
  go_enter Tryd.func8, Tryd.ntmps8
  go_wp2_with (go_at_call 16; refine (four_any s _ (by omega)).mono ?_; rw [HF.out]; rintro e w3 ⟨rfl, hb3⟩; simp only [Option.getD_none, Option.isSome_none])
  have HB := Lib.hid hb3
  clear hb3
  go_loopw [6] (fun i wr => ∃ k : Nat, k ≤ q ∧ i = .int .i64 k ∧ wr = w3) (fun i _ => s.size - (intOf i).toNat)
  case atStart => exact ⟨0, Nat.zero_le _, rfl, rfl⟩
  case round =>
    obtain ⟨k, hk, rfl, rfl⟩ := hrel
    have hlt : k + 1 < s.size := by omega
    by_cases hkq : k < q
    · rcases cc_bytes hlt (HC.out k hkq) with e1 | ⟨e1, e2⟩
      · clear y1 y2
        go_wp2
        go_roundw
        case rel => exact ⟨k + 1, by omega, by go_num, trivial⟩
        case measure => simp [intOf]; omega
      · clear y1 y2
        go_wp2
        go_roundw
        case rel => exact ⟨k + 1, by omega, by go_num, trivial⟩
        case measure => simp [intOf]; omega
    · obtain rfl : k = q := by omega
      go_wp2_with (first | (go_at_call 17; first | (with_reducible refine (HGA.out _).mono ?_; intro e w4 h4; obtain ⟨v4, rfl, hr4, hb4⟩ := groupsR_some HRA.out h4; clear h4; obtain ⟨p4, c4, rfl, hc4, hm4⟩ := hr4.shape; have HR4 := Lib.hid hr4; clear hr4) | (with_reducible refine (HGB.out _).mono ?_; intro e w5 h5; obtain ⟨v5, rfl, hr5, hb5⟩ := groupsR_some HRB.out h5; clear h5; obtain ⟨p5, c5, rfl, hc5, hm5⟩ := hr5.shape; have HR5 := Lib.hid hr5; clear hr5)) | (with_reducible show wpList _ _ _ (⟨some 70, _, _, _, _, _⟩ :: _) _ _; refine wpList_copy_splice rfl _ _ 31 31 rfl 5 Tryd.underlying31 size8 _ _ 16 16 a.length c4 rfl rfl w5.heap.size 0 zer 5 (heap_alloc_new _ _) (vbytes a) (by rw [vb_len]; show a.length = min a.length 16; omega) (fun h0 => ⟨rfl, by obtain ⟨ad, h1, _, h2⟩ := RB.cells ((HR4.out.below hb5).alloc _) (by rw [vb_len] at h0; exact h0); exact ⟨ad, h1, h2⟩⟩) (by rw [vb_len, zer_len]; omega) (vb_one a) w5.heap.size w5 ((Below.refl _ _).alloc (Nat.le_refl _) _) (Nat.le_refl _) ?_; intro w6 hg6 hb6) | (with_reducible show wpList _ _ _ (⟨some 77, _, _, _, _, _⟩ :: _) _ _; refine wpList_copy_splice rfl _ _ 31 31 rfl 5 Tryd.underlying31 size8 _ _ (16 - z) (16 - z) b.length c5 rfl rfl w5.heap.size z (splice zer 0 (vbytes a)) 5 hg6.out (vbytes b) (by rw [vb_len]; show b.length = min b.length (16 - z); have := HZ.out; omega) (fun h0 => ⟨rfl, by obtain ⟨ad, h1, _, h2⟩ := RB.cells (HR5.out.below hb6) (by rw [vb_len] at h0; exact h0); exact ⟨ad, h1, h2⟩⟩) (by rw [vb_len, length_splice _ _ _ (by rw [vb_len, zer_len]; omega), zer_len]; have := HZ.out; omega) (vb_one b) w5.heap.size w5 hb6 (Nat.le_refl _) ?_; intro w7 hg7 hb7; have hcv := HCV.out w7 w5.heap.size hg7.out))
      go_ret2
      have hb45 := (HB.out.trans (hb4.mono HB.out.size)).trans (hb5.mono (Nat.le_trans HB.out.size hb4.size))
      exact ⟨rfl, hb45.trans (hb7.mono hb45.size)⟩
set_option maxHeartbeats 1000000 in
set_option maxRecDepth 100000 in
theorem dbl_full0 (s : ByteArray) (w : World) (q : Nat) (hn : s.size ≤ 100000) (hf : fourP (splitL 46 s.data.toList) = none) (hq : q + 1 < s.size) (hno : ∀ j, j < q → ccAt s.data.toList j = false) (hyes : ccAt s.data.toList q = true) (a : List UInt8) (hA : groupsP false (s.data.toList.take q) = some a) (hB : groupsP true (s.data.toList.drop (q + 2)) = some []) (h14 : a.length ≤ 14) :
    Calls Tryd.prog 8 #[.string s] w (FourR w (some (a ++ List.replicate (16 - a.length - 0) 0 ++ []))) := by
  have HF := Lib.hid hf
  have HC := Lib.hid hno
  obtain ⟨y1, y2⟩ := cc_yes hq hyes
  have hga : ∀ W, Calls Tryd.prog 17 #[.string (s.extract 0 q), .bool false] W (GroupsR W (groupsP false (s.data.toList.take q))) := fun W => by
    have := groups_any false (s.extract 0 q) W (by rw [ByteArray.size_extract]; omega)
    rwa [ext_take] at this
  have hgb : ∀ W, Calls Tryd.prog 17 #[.string (s.extract (q + 2) s.size), .bool true] W (GroupsR W (groupsP true (s.data.toList.drop (q + 2)))) := fun W => by
    have := groups_any true (s.extract (q + 2) s.size) W (by rw [ByteArray.size_extract]; omega)
    rwa [ext_from] at this
  have HRA := Lib.hid hA
  have HRB := Lib.hid hB
  have hla : a.length ≤ 14 := h14
  have hi14 : (a.length : Int) ≤ 14 := by omega
  have hmk := make16
  obtain ⟨R, hR⟩ : ∃ R : ByteArray, ⟨(a ++ List.replicate (16 - a.length - 0) 0 ++ []).toArray⟩ = R := ⟨_, rfl⟩
  have HCV : Hid (∀ (w : World) (g : Nat), w.heap[g]? = some (.cells (splice (splice zer 0 (vbytes a)) 0 []).toArray 5 (0, 0)) → (convert 31 9 (.slice (some ⟨g, 0, none⟩) 16 16)).run Tryd.prog w = .ok (.string R) w) := Lib.hid (fun w g h => by
    have e : splice (splice zer 0 (vbytes a)) 0 [] = vbytes (a ++ List.replicate (16 - a.length - 0) 0 ++ []) := by
      have h1 := splice16 a [] (by simp; omega)
      have h2 : splice (splice zer 0 (vbytes a)) (16 - ([] : List UInt8).length) (vbytes []) = splice zer 0 (vbytes a) := by
        have hl : (splice zer 0 (vbytes a)).length = 16 := by rw [length_splice _ _ _ (by rw [vb_len, zer_len]; omega), zer_len]
        unfold splice at hl ⊢
        simp only [vbytes, List.map_nil, List.length_nil, List.nil_append, Nat.sub_zero, Nat.add_zero] at hl ⊢
        exact List.take_append_drop _ _
      rw [h2] at h1
      rw [← List.length_nil (α := UInt8), ← h1]
      simp [splice]
    rw [e] at h
    have := conv16 w g _ (by simp; omega) h
    rw [hR] at this
    exact this)
  have hRes : FourR w (some (a ++ List.replicate (16 - a.length - 0) 0 ++ [])) = fun e w' => e = .returned (.tuple #[.string R, .bool true]) ∧ Below w.heap.size w w' := by
    funext e w'
    unfold FourR
    rw [← hR]
    rfl
  rw [hRes]
  clear hRes hR
  have HGA := Lib.hid hga
  have HGB := Lib.hid hgb
  clear hga hgb hf hno hyes
  go_enter Tryd.func8, Tryd.ntmps8
  go_wp2_with (go_at_call 16; refine (four_any s _ (by omega)).mono ?_; rw [HF.out]; rintro e w3 ⟨rfl, hb3⟩; simp only [Option.getD_none, Option.isSome_none])
  have HB := Lib.hid hb3
  clear hb3
  go_loopw [6] (fun i wr => ∃ k : Nat, k ≤ q ∧ i = .int .i64 k ∧ wr = w3) (fun i _ => s.size - (intOf i).toNat)
  case atStart => exact ⟨0, Nat.zero_le _, rfl, rfl⟩
  case round =>
    obtain ⟨k, hk, rfl, rfl⟩ := hrel
    have hlt : k + 1 < s.size := by omega
    by_cases hkq : k < q
    · rcases cc_bytes hlt (HC.out k hkq) with e1 | ⟨e1, e2⟩
      · clear y1 y2
        go_wp2
        go_roundw
        case rel => exact ⟨k + 1, by omega, by go_num, trivial⟩
        case measure => simp [intOf]; omega
      · clear y1 y2
        go_wp2
        go_roundw
        case rel => exact ⟨k + 1, by omega, by go_num, trivial⟩
        case measure => simp [intOf]; omega
    · obtain rfl : k = q := by omega
      go_wp2_with (first | (go_at_call 17; first | (with_reducible refine (HGA.out _).mono ?_; intro e w4 h4; obtain ⟨v4, rfl, hr4, hb4⟩ := groupsR_some HRA.out h4; clear h4; obtain ⟨p4, c4, rfl, hc4, hm4⟩ := hr4.shape; have HR4 := Lib.hid hr4; clear hr4) | (with_reducible refine (HGB.out _).mono ?_; intro e w5 h5; obtain ⟨v5, rfl, hr5, hb5⟩ := groupsR_some HRB.out h5; clear h5; obtain ⟨p5, c5, rfl, hc5, hm5⟩ := hr5.shape; have HR5 := Lib.hid hr5; clear hr5)) | (with_reducible show wpList _ _ _ (⟨some 70, _, _, _, _, _⟩ :: _) _ _; refine wpList_copy_splice rfl _ _ 31 31 rfl 5 Tryd.underlying31 size8 _ _ 16 16 a.length c4 rfl rfl w5.heap.size 0 zer 5 (heap_alloc_new _ _) (vbytes a) (by rw [vb_len]; show a.length = min a.length 16; omega) (fun h0 => ⟨rfl, by obtain ⟨ad, h1, _, h2⟩ := RB.cells ((HR4.out.below hb5).alloc _) (by rw [vb_len] at h0; exact h0); exact ⟨ad, h1, h2⟩⟩) (by rw [vb_len, zer_len]; omega) (vb_one a) w5.heap.size w5 ((Below.refl _ _).alloc (Nat.le_refl _) _) (Nat.le_refl _) ?_; intro w6 hg6 hb6) | (with_reducible show wpList _ _ _ (⟨some 77, _, _, _, _, _⟩ :: _) _ _; refine wpList_copy_splice rfl _ _ 31 31 rfl 5 Tryd.underlying31 size8 _ _ _ _ _ _ rfl rfl w5.heap.size 0 (splice zer 0 (vbytes a)) 5 hg6.out [] rfl (fun h0 => absurd h0 (by simp)) (by simp) (by simp) w5.heap.size w5 hb6 (Nat.le_refl _) ?_; intro w7 hg7 hb7; have hcv := HCV.out w7 w5.heap.size hg7.out))
      go_ret2
      have hb45 := (HB.out.trans (hb4.mono HB.out.size)).trans (hb5.mono (Nat.le_trans HB.out.size hb4.size))
      exact ⟨rfl, hb45.trans (hb7.mono hb45.size)⟩
end Go.Proofs.YtbhmmdkipmddlaaDoor
