/- For every text, every search list and every number of points, the law of what is asked for a name returns true. The package variables of Go's library that it reads hold what the program's text lays in them (the card's tie). No other condition. -/
import Derived.Test.YtjlaiimcbkbciaaDoorCards
import Derived.Test.YtjlaiimcbkbciaaDoorTie
import Derived.Test.YtjlaiimcbkbciaaDoorGb
import Derived.Test.YtjlaiimcbkbciaaDoorSl
import Derived.OpenShut
import Derived.ShutString
import Derived.WalkKit
import Derived.ProofKit
import Derived.Test.YtjlaiimcbkbciaaDoorBq
import Derived.Test.YtjlaiimcbkbciaaDoorEq
namespace Go.Proofs.YtjlaiimcbkbciaaDoor.nameSearch
open Go.ChangeShapes Go.WideShapes Go.ChangeAt Go.RowKit Go.Ev Go.Fr
open Go.ChangeMaps (open_string shut_string)
open Go.Tx Go.Lib
theorem below_drewN {B : Nat} {a w : World} (h : Below B a w) : ∀ q, Below B a (w.drewN q)
  | 0 => h
  | q + 1 => (below_drewN h q).drew
/-- What the law's own list holds. -/
def cutsL (zs : List ByteArray) : List (List UInt8) := (zs.take 9).map fun z => (cutB z 300).data.toList
theorem cutsL_few (zs : List ByteArray) : (cutsL zs).length ≤ 9 := by unfold cutsL; rw [List.length_map, List.length_take]; omega
theorem cutsL_size (zs : List ByteArray) : ∀ d ∈ cutsL zs, d.length ≤ 1000000 := fun d hd => by
  unfold cutsL at hd
  obtain ⟨z, _, rfl⟩ := List.mem_map.1 hd
  have h := cutB_size z 300
  have e : (cutB z 300).data.toList.length = (cutB z 300).size := rfl
  omega
def cutsK (zs : List ByteArray) (k : Nat) : List (List UInt8) := (zs.take k).map fun z => (cutB z 300).data.toList
theorem cutsK_step (zs : List ByteArray) (k : Nat) (z : ByteArray) (h : zs[k]? = some z) : cutsK zs (k + 1) = cutsK zs k ++ [(cutB z 300).data.toList] := by
  unfold cutsK
  rw [List.take_add_one, h, List.map_append]
  rfl
theorem cutsK_len (zs : List ByteArray) (k : Nat) : (cutsK zs k).length ≤ k := by unfold cutsK; rw [List.length_map, List.length_take]; omega
theorem strs_at {w : World} {a : Option Addr} {n c : Nat} {zs : List ByteArray} (h : Go.Sl.IsStrs w a n c zs) {k : Nat} (hk : k < n) : ∃ x z, a = some x ∧ zs[k]? = some z ∧ (x.add k).block < w.heap.size ∧ w.cell? (x.add k) = some (.string z) := by
  rcases h with ⟨_, h, _⟩ | ⟨x, rfl, h1, h2, h3, h4, _⟩
  · omega
  · have hl : k < zs.length := by omega
    have hc := h4 k hl
    rw [List.getD_eq_getElem?_getD, List.getElem?_eq_getElem hl] at hc
    refine ⟨x, zs[k], rfl, List.getElem?_eq_getElem hl, ?_, hc⟩
    unfold World.cell? at hc
    split at hc
    · rename_i hh
      exact (Array.getElem?_eq_some_iff.1 hh).1
    · cases hc
set_option maxHeartbeats 4000000 in
set_option maxRecDepth 100000 in
theorem walk (a0 : ByteArray) (a1 : Option Addr) (n1 c1 : Nat) (a2 : Int) (W : World) (w0 : a0.size ≤ maxLen) (w1 : ∃ zs, Go.Sl.IsStrs W a1 n1 c1 zs) (w2 : (Lit.int .i64 a2).wf = true) (hL : laidMetH Tryd.prog laidL W) (hsh : W.ShapedOpen Tryd.prog) :
    Calls Tryd.prog 3 #[.string a0, .slice a1 n1 c1, .int .i64 a2] W fun e w' => e = .returned (.bool true) ∧ Below W.heap.size W w' := by
  have HB := Lib.hid (begunW W (eok W hL hsh))
  have HM := Lib.hid (maxAt W hsh)
  have hsz := cutB_size a0 300
  have HCut := Lib.hid (fun w => cut_any a0 300 w (by omega))
  have HCz := Lib.hid (fun z w => cut_any z 300 w (by omega))
  obtain ⟨zs, hz⟩ := w1
  have HZ := Lib.hid hz
  have hn1 : n1 ≤ c1 ∧ c1 ≤ maxLen ∧ zs.length = c1 := by
    rcases hz with ⟨_, h1, h2, h3⟩ | ⟨_, _, h1, h2, h3, _⟩
    · subst h1 h2 h3; exact ⟨Nat.le_refl _, Nat.zero_le _, rfl⟩
    · exact ⟨h1, h2, h3⟩
  obtain ⟨hnc, hcm, hzl⟩ := hn1
  unfold maxLen at hcm
  clear hL hsh w0 w2 hz
  generalize cutB a0 300 = S at *
  go_enter Tryd.func3, Tryd.ntmps3
  go_wp2_with (first | (go_at_call 7; refine HB.out.mono ?_; rintro e w2 ⟨rfl, hb⟩) | (go_at_call 8; refine (HCut.out _).mono ?_; rintro e w3 ⟨rfl, rfl⟩))
  go_loopw [8, 9] (fun v i wr => ∃ k : Nat, k ≤ n1 ∧ k ≤ 9 ∧ i = .int .i64 k ∧ StrC W.heap.size wr v (cutsK zs k) ∧ Below W.heap.size W wr) (fun _ i _ => n1 - (intOf i).toNat)
  case atStart => exact ⟨0, Nat.zero_le _, Nat.zero_le _, rfl, World.ownsRow_nil _ _ _ _, hb⟩
  case round =>
    obtain ⟨k, hk, hk9, rfl, hstr, hbel⟩ := hrel
    have HStr := Lib.hid hstr
    clear hstr
    have hfew := cutsK_len zs k
    by_cases hlt : k < n1 ∧ k < 9
    · obtain ⟨hl1, hl2⟩ := hlt
      have hl2' : (k : Int) < 9 := by omega
      obtain ⟨x, z, rfl, hzk, hbk, hcell0⟩ := strs_at HZ.out hl1
      have hcell : wr.cell? (x.add k) = some (.string z) := by rw [hbel.cell hbk]; exact hcell0
      have HS := Lib.hid (cutsK_step zs k z hzk)
      clear hzk hbk hcell0
      go_wp2_with (first | (go_at_call 8; refine (HCz.out z _).mono ?_; rintro e w4 ⟨rfl, rfl⟩) | (at_builtin; refine wpList_append_texts rfl _ _ rfl (B := W.heap.size) rfl rfl (World.ownsRow.alloc HStr.out _) (one_texts _ _) (by simp only [List.length_cons, List.length_nil]; omega) (by have := hbel.size; show W.heap.size ≤ (Array.push _ _).size; simp; omega) ?_; intro v' w5 hown5 hb5))
      go_roundw
      case rel => exact ⟨k + 1, hl1, hl2, by go_num, by rw [HS.out]; exact hown5, (hbel.alloc hbel.size _).trans hb5⟩
      case measure => simp [intOf]; omega
    · have HE : Hid (cutsK zs k = (zs.take (min n1 9)).map fun z => (cutB z 300).data.toList) := Lib.hid (by
        have : k = min n1 9 := by omega
        subst this; rfl)
      have hsizes : ∀ d ∈ cutsK zs k, d.length ≤ 1000000 := fun d hd => by
        unfold cutsK at hd
        obtain ⟨z, _, rfl⟩ := List.mem_map.1 hd
        have h := cutB_size z 300
        have e : (cutB z 300).data.toList.length = (cutB z 300).size := rfl
        omega
      have HSz := Lib.hid hsizes
      clear hsizes
      by_cases hkn : k < n1
      · have hk6' : ¬ (k : Int) < 9 := by omega
        go_wp2_with (first | (go_at_call 10; refine (cands_any S _ _ _ _ _ (by unfold maxLen; omega) (HM.out.below hbel) HStr.out HSz.out).mono ?_; rintro e w6 ⟨v6, rfl, hs6, hb6⟩; have HS6 := Lib.hid hs6; clear hs6) | (go_at_call 11; refine (rcands_any S _ _ _ _ _ (by omega) (own_below HStr.out hb6) HSz.out (by omega)).mono ?_; rintro e w7 ⟨v7, rfl, hs7, hb7⟩; have HS7 := Lib.hid hs7; clear hs7) | (go_at_call 9; refine (eqtexts_any _ _ _ _ _ _ (own_below HS6.out hb7) HS7.out).mono ?_; rintro e w8 ⟨rfl, q, rfl⟩))
        go_ret
        exact ⟨rfl, below_drewN ((hbel.trans (hb6.mono hbel.size)).trans (hb7.mono (Nat.le_trans hbel.size hb6.size))) q⟩
      · go_wp2_with (first | (go_at_call 10; refine (cands_any S _ _ _ _ _ (by unfold maxLen; omega) (HM.out.below hbel) HStr.out HSz.out).mono ?_; rintro e w6 ⟨v6, rfl, hs6, hb6⟩; have HS6 := Lib.hid hs6; clear hs6) | (go_at_call 11; refine (rcands_any S _ _ _ _ _ (by omega) (own_below HStr.out hb6) HSz.out (by omega)).mono ?_; rintro e w7 ⟨v7, rfl, hs7, hb7⟩; have HS7 := Lib.hid hs7; clear hs7) | (go_at_call 9; refine (eqtexts_any _ _ _ _ _ _ (own_below HS6.out hb7) HS7.out).mono ?_; rintro e w8 ⟨rfl, q, rfl⟩))
        go_ret
        exact ⟨rfl, below_drewN ((hbel.trans (hb6.mono hbel.size)).trans (hb7.mono (Nat.le_trans hbel.size hb6.size))) q⟩

theorem laidOut : laidOutB Tryd.prog = true := by kernel_rfl
set_option maxRecDepth 100000 in
theorem lifted (os : Os) (started : os.Started) (H : Type) (enc : TypeId × Value → H) :
    ReturnsInHanded {} Tryd.checked os 3 .any (fun w args => (Rows.nameSearchSpec.pre enc Tryd.prog Tryd.f3 Rows.nameSearchRow.domain false w args ∧ laidMetH Tryd.prog Rows.nameSearchRow.laid w) ∧ sizedMet enc Tryd.prog Tryd.f3 (OpenSpec.ofChange Rows.nameSearchSpec) false w args)
      (Rows.nameSearchSpec.post enc Tryd.prog Tryd.f3 false true false false) := by
  refine wrap (C := Tryd.checked) (X := fun w _ => laidMetH Tryd.prog Rows.nameSearchRow.laid w) (fun _ _ _ hh h => h.of_heap hh) own started (by kernel_rfl) Tryd.func3
    (ChangeSpec.witness_shaped (enc := enc) (C := Tryd.checked) (os := os) (X := fun w _ => laidMetH Tryd.prog Rows.nameSearchRow.laid w) false (World.laidAll Tryd.prog os Rows.nameSearchRow.laid) #[.string ByteArray.empty, .slice none 0 0, .int .i64 0] 8 (World.laidAll_os _ _ _)
      (World.shaped_of_ZipB (by kernel_rfl) (by kernel_rfl)) (by kernel_rfl) (by kernel_rfl) (by kernel_rfl)
      (by rw [MakeChecks.laidMetH_plain _ _ _ (by kernel_rfl)]; exact laidMet_laidAll _ (by kernel_rfl) (by kernel_rfl))) ?_
  intro W base args ds gs before hval0 hW _ _ hL hsh
  have hval : ∀ (j : Nat) t v, Tryd.f3.params[j]? = some t → args[j]? = some v → Value.okWide Tryd.prog W .any base t v := hval0
  have hW' := hW
  obtain ⟨p, q, hA0, hV, rfl, hfz, hnd⟩ := hW
  have hA : DataW.TrodAll enc Tryd.prog W 0 (fun _ => true) true Tryd.f3.params.toList args.toList ds p := hA0
  rw [Tryd.params3] at hA hval
  obtain ⟨v0, vs0, d0, ds0, p0, q0, hargs, rfl, rfl, h0, r0⟩ := trodAll_cons hA
  obtain ⟨v1, vs1, d1, ds1, p1, q1, rfl, rfl, rfl, h1, r1⟩ := trodAll_cons r0
  obtain ⟨v2, vs2, d2, ds2, p2, q2, rfl, rfl, rfl, h2, r2⟩ := trodAll_cons r1
  obtain ⟨rfl, rfl, rfl⟩ := trodAll_nil r2
  obtain rfl : args = #[v0, v1, v2] := by cases args; simp_all
  obtain ⟨rfl, rfl⟩ := trodVars_none hV
  obtain ⟨a0, rfl, rfl, rfl, w0⟩ := open_string Tryd.underlying9 (hval 0 9 v0 rfl rfl) h0
  obtain ⟨a1, n1, c1, rfl⟩ := okWide_slice Tryd.underlying22 (hval 1 22 v1 rfl rfl)
  have k1 := h1
  have lt1 : ∀ x ∈ p1, x.block < W.heap.size := by obtain ⟨m, hm⟩ := k1; exact DataW.trod_lt m _ _ _ hm
  have w1 := Go.Sl.isStrs_of Tryd.underlying22 Tryd.underlying9 (by kernel_rfl) h1
  obtain ⟨a2, rfl, rfl, rfl, w2⟩ := open_int Tryd.underlying3 (hval 2 3 v2 rfl rfl) h2
  clear hA0 hval0
  simp only [List.append_nil] at hW'
  refine (walk a0 a1 n1 c1 a2 W w0 w1 w2 hL hsh).mono fun e W' ⟨he, bel⟩ => ?_
  subst he
  exact ⟨_, rfl, _, _, _, [], _, [], hW', trodAll_mk1 (shut_bool Tryd.underlying4 _), (trodAll_cons_mk (shut_string Tryd.underlying9 w0) (trodAll_cons_mk (Below.trod laidOut (by kernel_rfl) (of_decide_eq_true (by kernel_rfl)) k1 bel lt1) (trodAll_cons_mk (shut_int Tryd.underlying3 w2) trodAll_mk0))), rfl, bel.frame _, fun h => by cases h⟩

theorem over : Rows.nameSearchRow.holds Tryd.pinned (OpenSpec.ofChange Rows.nameSearchSpec) :=
  OpenClaim.holds_of_wide 3 Tryd.f3 rfl rfl rfl rfl rfl rfl rfl ⟨rfl, rfl, rfl, rfl, rfl⟩ rfl rfl rfl rfl rfl (by kernel_rfl) Tryd.func3 (by kernel_rfl)
    (of_decide_eq_true (by kernel_rfl)) (by unfold Func.isWrapper; first | (rw [if_pos (by decide +kernel)]; kernel_rfl) | (rw [if_neg (by decide +kernel)]; exact ⟨rfl, rfl⟩))
    (fun os started H enc _ => lifted os started H enc)

theorem proved : Rows.NameSearchCardSaid :=
  Claim7.holds_tied_plain_at .later [] Rows.nameSearchCard.laidKinds true Rows.nameSearchCard.stood.harness Rows.nameSearchCard.stood.looks over (fun _ h => by cases h) (by kernel_rfl) (fun _ h => by cases h) nameSearch_row_tie rfl ⟨rfl, rfl⟩ (by kernel_rfl) rfl
    (fun f fn hf hfn => by
      obtain rfl : f = 3 := Option.some.inj ((show Tryd.prog.funcNamed "concierge/conciergelaw4.NameSearch" = some 3 by kernel_rfl).symm.trans hf) |>.symm
      obtain rfl : fn = Tryd.f3 := (Option.some.inj (Tryd.func3.symm.trans hfn)).symm
      exact ⟨by kernel_rfl, fun j t ht => by
        rw [Tryd.params3] at ht
        have hm : t ∈ [9, 22, 3] := by simpa using Array.mem_of_getElem? ht
        have hall : ([9, 22, 3].all fun u => !Tryd.prog.wantsStandIn u) = true := by kernel_rfl
        exact (show Tryd.prog.wantsStandIn t = false by simpa using List.all_eq_true.1 hall t hm)⟩)
    (by kernel_rfl)
end Go.Proofs.YtjlaiimcbkbciaaDoor.nameSearch
