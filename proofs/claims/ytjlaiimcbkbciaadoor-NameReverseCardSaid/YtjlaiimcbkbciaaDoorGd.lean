/- Contract: the hexadecimal digits of bytes. -/
import Derived.Test.YtjlaiimcbkbciaaDoorGc
import Derived.Test.YtjlaiimcbkbciaaDoorCf
import Derived.Test.YtjlaiimcbkbciaaDoorGa
namespace Go.Proofs.YtjlaiimcbkbciaaDoor
open Go.RowKit Go.Ev Go.Fr Go.Lib Go.Tx Go.Rb
def hexs (c : UInt8) : List (List UInt8) := [(bs (hexD (c.toNat % 16))).data.toList, (bs (hexD (c.toNat / 16))).data.toList]
theorem two_texts (w : World) (x y : ByteArray) : TextsIn (w.alloc (.cells #[.string x, .string y] 9)) (.slice (some ⟨w.heap.size, 0, none⟩) 2 2) [x.data.toList, y.data.toList] := by
  refine .inr ⟨_, 2, rfl, fun i l hi => ?_⟩
  have ha : (⟨w.heap.size, 0, none⟩ : Addr).add i = ⟨w.heap.size, i, none⟩ := by unfold Addr.add; split <;> simp_all
  rw [ha, World.cell?_alloc_new]
  match i, hi with
  | 0, hi => cases hi; rfl
  | 1, hi => cases hi; rfl
theorem row_block {w w' : World} {b cap : Nat} {l : List UInt8} (h : RowB 5 w b cap l) (e : w'.heap[b]? = w.heap[b]?) : RowB 5 w' b cap l := by
  obtain ⟨arr, lo, hi, h1, h2⟩ := h
  exact ⟨arr, lo, hi, by rw [e]; exact h1, h2⟩
theorem join_strC {B : Nat} {w : World} {v : Value} {T : List (List UInt8)} (sep : ByteArray) (h : StrC B w v T) (h1 : 1 ≤ T.length) (h2 : T.length ≤ 1000000) (hl : (Lib.join T sep.data.toList).length ≤ 140737488355328) :
    Calls Tryd.prog 38 #[v, .string sep] w fun e w' => e = .returned (.string ⟨(Lib.join T sep.data.toList).toArray⟩) ∧ Below w.heap.size w w' := by
  obtain ⟨g, c, rfl, hta⟩ := strC_at h h1
  have hm : (T.map fun l => (⟨l.toArray⟩ : ByteArray)).map (fun x => x.data.toList) = T := by
    rw [List.map_map]
    exact List.map_id' T
  have hj := Tryd.strings_Join g 0 c (T.map fun l => ⟨l.toArray⟩) sep w (fun j x hx => by
    rw [List.getElem?_map] at hx
    obtain ⟨l, hl, rfl⟩ := Option.map_eq_some_iff.1 hx
    rw [Nat.zero_add]
    exact hta.cell j l hl) hta.lt (by rw [List.length_map]; omega) (by rw [List.length_map]; exact hta.fits) (by rw [hm]; exact hl)
  rw [List.length_map, hm] at hj
  exact hj
theorem hexs_all (l : List UInt8) : (l.flatMap hexs).length = 2 * l.length ∧ ∀ x ∈ l.flatMap hexs, x.length ≤ 3 := by
  induction l with
  | nil => simp
  | cons c l ih =>
    rw [List.flatMap_cons]
    refine ⟨by rw [List.length_append, ih.1]; simp [hexs]; omega, fun x hx => ?_⟩
    rcases List.mem_append.1 hx with hx | hx
    · have hh : ∀ n, (bs (hexD n)).data.toList.length ≤ 3 := fun n => by rw [bs_list, List.length_map]; unfold hexD; split <;> simp
      simp only [hexs, List.mem_cons, List.not_mem_nil, or_false] at hx
      rcases hx with rfl | rfl
      · exact hh _
      · exact hh _
    · exact ih.2 x hx
theorem flat_step (l : List UInt8) (k : Nat) (c : UInt8) (h : l[k]? = some c) : (l.take (k + 1)).flatMap hexs = (l.take k).flatMap hexs ++ hexs c := by
  rw [List.take_add_one, h, List.flatMap_append]
  simp
set_option maxHeartbeats 2000000 in
theorem lowFirst_any {W : World} (s : ByteArray) (w : World) (hs : 1 ≤ s.size) (hs2 : s.size ≤ 100) (h : EOK E0 (Bas.of W)) (hb : Below W.heap.size W w) :
    Calls Tryd.prog 23 #[.string s] w fun e w' => e = .returned (.string ⟨(Lib.join (s.data.toList.flatMap hexs) [46]).toArray⟩) ∧ Below w.heap.size w w' := by
  obtain ⟨cap, o, hconv, hcap, hrow⟩ := RowB.made (P := Tryd.prog) s w Tryd.underlying9 Tryd.underlying42 Tryd.underlying5
  have hr2 : RowB 5 (w.drew.alloc o) w.heap.size cap s.data.toList := hrow
  have HR := Lib.hid hr2
  have HI := Lib.hid (fun (w : World) (hb : Below W.heap.size W w) (c : UInt8) => (show Calls Tryd.prog 37 #[.int .u8 ((c.toNat : Int) % 16)] w fun e w' => e = .returned (.string (bs (hexD (c.toNat % 16)))) ∧ Below w.heap.size w w' from by
    have := hex_later (W := W) (w := w) h hb (c.toNat % 16) (by omega)
    rwa [show ((c.toNat % 16 : Nat) : Int) = (c.toNat : Int) % 16 by omega] at this))
  have HJ := Lib.hid (fun (w : World) (hb : Below W.heap.size W w) (c : UInt8) => (show Calls Tryd.prog 37 #[.int .u8 ((c.toNat : Int) / 16)] w fun e w' => e = .returned (.string (bs (hexD (c.toNat / 16)))) ∧ Below w.heap.size w w' from by
    have := hex_later (W := W) (w := w) h hb (c.toNat / 16) (by have := c.toNat_lt; omega)
    rwa [show ((c.toNat / 16 : Nat) : Int) = (c.toNat : Int) / 16 by omega] at this))
  have HB := Lib.hid hb
  have hsz := hb.size
  have hl : s.data.toList.length = s.size := rfl
  obtain ⟨ha1, ha2⟩ := hexs_all s.data.toList
  have HJn : Hid (∀ w' v, StrC (w.heap.size + 1) w' v (s.data.toList.flatMap hexs) → Calls Tryd.prog 38 #[v, .string ⟨#[46]⟩] w' fun e w'' => e = .returned (.string ⟨(Lib.join (s.data.toList.flatMap hexs) [46]).toArray⟩) ∧ Below w'.heap.size w' w'') := Lib.hid (fun w' v hv => by
    refine join_strC ⟨#[46]⟩ hv (by omega) (by omega) ?_
    have := join_few [46] (by decide) _ ha2
    show (Lib.join (s.data.toList.flatMap hexs) [46]).length ≤ _
    omega)
  have HA := Lib.hid (fun k => (hexs_all (s.data.toList.take k)).1)
  have HTk : Hid (s.data.toList.take s.size = s.data.toList) := Lib.hid (List.take_of_length_le (Nat.le_refl _))
  clear h hb hrow hr2 ha1 ha2 hl
  generalize (⟨(Lib.join (s.data.toList.flatMap hexs) [46]).toArray⟩ : ByteArray) = R at *
  go_enter Tryd.func23, Tryd.ntmps23
  go_wp2
  go_loopw [3, 9] (fun v i wr => ∃ k : Nat, k ≤ s.size ∧ i = .int .i64 k ∧ StrC (w.heap.size + 1) wr v ((s.data.toList.take k).flatMap hexs) ∧ RowB 5 wr w.heap.size cap s.data.toList ∧ w.heap.size + 1 ≤ wr.heap.size ∧ Below w.heap.size w wr) (fun _ i _ => s.size - (intOf i).toNat)
  case atStart => exact ⟨0, Nat.zero_le _, rfl, World.ownsRow_nil _ _ _ _, HR.out, by show w.heap.size + 1 ≤ (w.heap.push _).size; simp, ((Below.refl _ _).drew).alloc (Nat.le_refl _) _⟩
  case round =>
    obtain ⟨k, hk, rfl, hstr, hrow, hgr, hbel⟩ := hrel
    by_cases hlt : k < s.size
    · have HK : Hid (s.data.toList[k]? = some s[k]) := Lib.hid (List.getElem?_eq_getElem hlt)
      have hcell := hrow.cell HK.out
      have hu := s[k].toNat_lt
      have HRW := Lib.hid hrow
      have HStr := Lib.hid hstr
      have HFS := Lib.hid (flat_step s.data.toList k s[k] HK.out)
      have hfew : ((s.data.toList.take k).flatMap hexs).length ≤ 200 := by rw [HA.out, List.length_take]; omega
      clear hrow hstr
      go_wp2_with (first | (go_at_call 37; first | (with_reducible refine (HI.out _ (HB.out.trans (hbel.mono hsz)) _).mono ?_; rintro e w2 ⟨rfl, hb2⟩) | (with_reducible refine (HJ.out _ ((HB.out.trans (hbel.mono hsz)).trans (hb2.mono (Nat.le_trans hsz hbel.size))) _).mono ?_; rintro e w3 ⟨rfl, hb3⟩)) | (at_builtin; refine wpList_append_texts rfl _ _ rfl (B := w.heap.size + 1) rfl rfl (World.ownsRow.alloc (own_below (own_below HStr.out hb2) hb3) _) (two_texts _ _ _) (by simp only [List.length_cons, List.length_nil]; omega) (by have := hb2.size; have := hb3.size; show w.heap.size + 1 ≤ (Array.push _ _).size; simp; omega) ?_; intro v' w5 hown5 hb5))
      go_roundw
      case rel =>
        have hb23 := hb2.trans (hb3.mono hb2.size)
        have hB : Below (w.heap.size + 1) wr w5 := ((hb23.mono hgr).alloc (Nat.le_trans hgr hb23.size) _).trans hb5
        exact ⟨k + 1, hlt, by go_num, by rw [HFS.out]; exact hown5, row_block HRW.out (hB.block _ (Nat.lt_succ_self _)), Nat.le_trans hgr hB.size, hbel.trans (hB.mono (Nat.le_succ _))⟩
      case measure => simp [intOf]; omega
    · obtain rfl : k = s.size := by omega
      rw [HTk.out] at hstr
      have HStr := Lib.hid hstr
      clear hstr hrow
      go_wp2_with (go_at_call 38; refine (HJn.out _ _ HStr.out).mono ?_; rintro e w2 ⟨rfl, hb2⟩)
      go_ret
      exact ⟨rfl, hbel.trans (hb2.mono hbel.size)⟩
end Go.Proofs.YtjlaiimcbkbciaaDoor
