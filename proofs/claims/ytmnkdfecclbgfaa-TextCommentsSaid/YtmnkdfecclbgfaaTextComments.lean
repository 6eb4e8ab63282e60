/- The law of what stands behind a sign in a line: for all numbers and every text the law returns true. No condition. -/
import Derived.Test.YtmnkdfecclbgfaaRows
import Derived.WalkKit
import Derived.ProofKit
import Derived.OpenShut
import Derived.ShutString
import Derived.Test.YtmnkdfecclbgfaaBg
import Derived.Test.YtmnkdfecclbgfaaLf
import Derived.Test.YtmnkdfecclbgfaaTc
import Derived.LoopTactic
namespace Go.Proofs.Ytmnkdfecclbgfaa.textComments
open Go.ChangeShapes Go.WideShapes Go.ChangeAt Go.RowKit
open Go.ChangeMaps (open_string shut_string)
set_option linter.unusedVariables false      -- a walk need not use every 'w<i>' (that an integer argument fits its kind)

theorem own : ownKnob Try.prog.godebug = none := by kernel_rfl

open Go.Tx Go.Rb
/-- The text that is read. -/
def SS (m : Nat) (a2 : ByteArray) : ByteArray := ({ data := (rep m).toArray } ++ { data := #[35] } ++ a2 ++ { data := #[10, 120] } : ByteArray)
theorem ss_list (m : Nat) (a2 : ByteArray) : (SS m a2).data.toList = rep m ++ [35] ++ a2.data.toList ++ [10, 120] := by
  simp [SS]
theorem fine_of (a2 : ByteArray) (h : ∀ j b, j < a2.size → a2.data.toList[j]? = some b → 32 ≤ b.toNat ∧ b.toNat ≤ 126) : Fine a2.data.toList := by
  intro b hb
  obtain ⟨j, hj, rfl⟩ := List.getElem_of_mem hb
  exact h j _ hj (List.getElem?_eq_getElem hj)
theorem ss_told (m : Nat) (a2 : ByteArray) (hm : m ≤ 10) (h2 : a2.size ≤ 50) (hf : ∀ j b, j < a2.size → a2.data.toList[j]? = some b → 32 ≤ b.toNat ∧ b.toNat ≤ 126) :
    toldG 1 [] (SS m a2).data.toList = (if m = 0 then [] else [(1, List.replicate m [119])]) ++ [(2, [[120]])] := by
  rw [ss_list]
  exact told_line m a2.data.toList hm h2 (fine_of a2 hf)
theorem ss_ba (m : Nat) (a2 : ByteArray) {w : World} {o : Obj} {cap : Nat} (hm : cap ≤ 9223372036854775807) (hr : RowB 5 (w.alloc o) w.heap.size cap (SS m a2).data.toList) : BA (w.alloc o).drew (some ⟨w.heap.size, 0, none⟩) (SS m a2).size cap (SS m a2).data.toList :=
  ba_row hr.drew hm
theorem old_new (w : World) (o : Obj) : ∀ x, some (⟨w.heap.size, 0, none⟩ : Addr) = some x → x.block < (w.alloc o).drew.heap.size := by
  intro x hx
  cases hx
  show w.heap.size < (w.heap.push o).size
  simp
theorem call_zero (a2 : ByteArray) {w : World} {o : Obj} {cap : Nat} (hc : cap ≤ 9223372036854775807) (hr : RowB 5 (w.alloc o) w.heap.size cap (SS 0 a2).data.toList) (h2 : a2.size ≤ 50) (hf : ∀ j b, j < a2.size → a2.data.toList[j]? = some b → 32 ≤ b.toNat ∧ b.toNat ≤ 126) (hs : (SS 0 a2).size ≤ 1000) :
    Calls Try.prog 40 #[.slice (some ⟨w.heap.size, 0, none⟩) (SS 0 a2).size cap] (w.alloc o).drew fun e w' => ∃ g c, e = .returned (.slice (some ⟨g, 0, none⟩) 1 c) ∧ 1 ≤ c ∧ w'.cell? ⟨g, 0, none⟩ = some (.int .i64 2) ∧ Below w.heap.size w w' := by
  refine (lines_any _ _ _ _ _ (ss_ba 0 a2 hc hr) (old_new w o) (by omega)).mono ?_
  rintro e w' ⟨v, rfl, hl, hb⟩
  rw [ss_told 0 a2 (by omega) h2 hf] at hl
  obtain ⟨g, c, rfl, h1, h3⟩ := lines_one hl
  exact ⟨g, c, rfl, h1, h3, (((Below.refl _ _).alloc (Nat.le_refl _) o).drew).trans (hb.mono (by show w.heap.size ≤ (w.heap.push o).size; simp))⟩
theorem call_some (m : Nat) (a2 : ByteArray) {w : World} {o : Obj} {cap : Nat} (h0 : 0 < m) (hm : m ≤ 10) (hc : cap ≤ 9223372036854775807) (hr : RowB 5 (w.alloc o) w.heap.size cap (SS m a2).data.toList) (h2 : a2.size ≤ 50) (hf : ∀ j b, j < a2.size → a2.data.toList[j]? = some b → 32 ≤ b.toNat ∧ b.toNat ≤ 126) (hs : (SS m a2).size ≤ 1000) :
    Calls Try.prog 40 #[.slice (some ⟨w.heap.size, 0, none⟩) (SS m a2).size cap] (w.alloc o).drew fun e w' => ∃ g c p, e = .returned (.slice (some ⟨g, 0, none⟩) 2 c) ∧ 2 ≤ c ∧ w'.cell? ⟨g, 0, none⟩ = some (.int .i64 1) ∧ w'.cell? ⟨g, 1, none⟩ = some (.slice p m m) ∧ w'.cell? ⟨g, 2, none⟩ = some (.int .i64 2) ∧ Below w.heap.size w w' := by
  refine (lines_any _ _ _ _ _ (ss_ba m a2 hc hr) (old_new w o) (by omega)).mono ?_
  rintro e w' ⟨v, rfl, hl, hb⟩
  rw [ss_told m a2 hm h2 hf, if_neg (by omega)] at hl
  obtain ⟨g, c, p, rfl, h1, h3, h4, h5⟩ := lines_two hl
  rw [List.length_replicate] at h4
  exact ⟨g, c, p, rfl, h1, h3, h4, h5, (((Below.refl _ _).alloc (Nat.le_refl _) o).drew).trans (hb.mono (by show w.heap.size ≤ (w.heap.push o).size; simp))⟩

set_option maxHeartbeats 4000000 in
set_option maxRecDepth 100000 in
theorem walk (a0 : Int) (a1 : Int) (a2 : ByteArray) (w0 : (Lit.int .i64 a0).wf = true) (w1 : (Lit.int .i64 a1).wf = true) (w2 : a2.size ≤ maxLen) (w : World) :
    Calls Try.prog 10 #[.int .i64 a0, .int .i64 a1, .string a2] w fun e w' => e = .returned (.bool true) ∧ Below w.heap.size w w' := by
  by_cases hc : a0 < 0 ∨ 10 < a0 ∨ a1 < 0 ∨ 50 < a1 ∨ (50 : Int) < a2.size
  · unfold maxLen at w2
    go_enter Try.func10, Try.ntmps10
    go_wp2_with (go_at_call 39; refine (begun2 _).mono ?_; rintro e w2 ⟨rfl, hb⟩)
    all_goals (go_ret; exact ⟨rfl, hb⟩)
  · have c0 : 0 ≤ a0 := by omega
    obtain ⟨m, rfl⟩ : ∃ m : Nat, a0 = m := ⟨a0.toNat, by omega⟩
    have c1 : m ≤ 10 := by omega
    have c2 : 0 ≤ a1 := by omega
    have c3 : a1 ≤ 50 := by omega
    have c4 : a2.size ≤ 50 := by omega
    clear hc w0 w1 w2 c0
    go_enter Try.func10, Try.ntmps10
    go_wp2_with (go_at_call 39; refine (begun2 _).mono ?_; rintro e w2 ⟨rfl, hb⟩)
    go_loop [8] (fun i => ∃ k : Nat, k ≤ a2.size ∧ i = .int .i64 k ∧ Hid (∀ j b, j < k → a2.data.toList[j]? = some b → 32 ≤ b.toNat ∧ b.toNat ≤ 126)) (fun i => a2.size - (intOf i).toNat)
    case atStart => exact ⟨0, Nat.zero_le _, rfl, Lib.hid (by omega)⟩
    case round =>
      obtain ⟨k, hk, rfl, hall⟩ := hrel
      by_cases hlt : k < a2.size
      · by_cases h1 : (a2[k].toNat : Int) < 32
        · go_wp2
          go_ret
          exact ⟨rfl, hb⟩
        · have h1 : 32 ≤ (a2[k].toNat : Int) := by omega
          by_cases h2 : 126 < (a2[k].toNat : Int)
          · go_wp2
            go_ret
            exact ⟨rfl, hb⟩
          · have h2 : (a2[k].toNat : Int) ≤ 126 := by omega
            go_wp2
            go_round
            case rel => exact ⟨k + 1, hlt, by go_num, Lib.hid (by
              intro j d hj hd
              by_cases e : j = k
              · subst e
                have : a2.data.toList[j]? = some a2[j] := List.getElem?_eq_getElem hlt
                rw [this] at hd
                cases hd
                omega
              · exact hall.out j d (by omega) hd)⟩
            case measure => simp [intOf]; omega
      · have HALL : Hid (∀ j b, j < a2.size → a2.data.toList[j]? = some b → 32 ≤ b.toNat ∧ b.toNat ≤ 126) := Lib.hid (fun j b hj hb => hall.out j b (by omega) hb)
        clear hall
        go_wp2
        go_loop [9, 10] (fun s i => ∃ k : Nat, k ≤ m ∧ i = .int .i64 k ∧ s = .string ⟨(rep k).toArray⟩) (fun _ i => m - (intOf i).toNat)
        case atStart => exact ⟨0, Nat.zero_le _, rfl, rfl⟩
        case round =>
          obtain ⟨j, hj, rfl, rfl⟩ := hrel
          have hl : (rep j).length ≤ 20 := by rw [rep_len]; omega
          by_cases hlt2 : j < m
          · go_wp2
            go_round
            case rel => exact ⟨j + 1, hlt2, by go_num, by rw [bcat]; rfl⟩
            case measure => simp [intOf]; omega
          · obtain rfl : j = m := by omega
            have hsz : (SS j a2).size ≤ 1000 := by
              have := congrArg List.length (ss_list j a2)
              have e : (SS j a2).data.toList.length = (SS j a2).size := rfl
              rw [e] at this
              rw [this]
              have e2 : a2.data.toList.length = a2.size := rfl
              simp [rep_len]
              omega
            obtain ⟨cap, o, hconv, _, hcm, hrow⟩ := row_made (P := Try.prog) (SS j a2) w2 (by unfold maxLen; omega) Try.underlying9 Try.underlying33 Try.underlying5
            have hconv' : (convert 9 33 (.string ({ data := (rep j).toArray } ++ { data := #[35] } ++ a2 ++ { data := #[10, 120] }))).run Try.prog w2 = .ok (.slice (some ⟨w2.heap.size, 0, none⟩) (SS j a2).size cap) (w2.drew.alloc o) := hconv
            have HROW := Lib.hid hrow
            have HSZ := Lib.hid hsz
            clear hrow hsz hconv
            obtain rfl | hz : j = 0 ∨ 0 < j := by omega
            · go_wp2_with (go_at_call 40; refine (call_zero a2 hcm HROW.out c4 HALL.out HSZ.out).mono ?_; rintro e w5 ⟨g, c, rfl, hc1, hcell, hb5⟩)
              go_ret
              exact ⟨rfl, hb.trans (hb5.mono hb.size)⟩
            · go_wp2_with (go_at_call 40; refine (call_some j a2 hz c1 hcm HROW.out c4 HALL.out HSZ.out).mono ?_; rintro e w5 ⟨g, c, p, rfl, hc1, hcell, hcell1, hcell2, hb5⟩)
              go_ret
              exact ⟨rfl, hb.trans (hb5.mono hb.size)⟩

/-! ### THE ROW's STEP: WRITTEN OUT: LEAVE IT -/
set_option maxRecDepth 100000 in
theorem lifted (os : Os) (started : os.Started) (H : Type) (enc : TypeId × Value → H) :
    ReturnsInHanded {} Try.checked os 10 .any (Rows.textCommentsSpec.pre6 enc Try.prog Try.f10 Rows.textCommentsRow.domain false) (Rows.textCommentsSpec.post enc Try.prog Try.f10 false true false false) := by
  refine returnsInHanded_of_change (C := Try.checked) own started (by kernel_rfl) Try.func10
    (ChangeSpec.witness6 (enc := enc) (C := Try.checked) false ⟨#[], #[.int .i64 0, .int .i64 0, .string ByteArray.empty], []⟩ 8 (by kernel_rfl) (by kernel_rfl) (by kernel_rfl) (by kernel_rfl)) ?_
  intro W base args ds gs before hval0 hW hcnd _
  have hval : ∀ (j : Nat) t v, Try.f10.params[j]? = some t → args[j]? = some v → Value.okWide Try.prog W .any base t v := hval0
  have hW' := hW
  obtain ⟨p, q, hA0, hV, rfl, hfz, hnd⟩ := hW
  have hA : DataW.TrodAll enc Try.prog W 0 (fun _ => true) true Try.f10.params.toList args.toList ds p := hA0
  rw [Try.params10] at hA hval
  obtain ⟨v0, vs0, d0, ds0, p0, q0, hargs, rfl, rfl, h0, r0⟩ := trodAll_cons hA
  obtain ⟨v1, vs1, d1, ds1, p1, q1, rfl, rfl, rfl, h1, r1⟩ := trodAll_cons r0
  obtain ⟨v2, vs2, d2, ds2, p2, q2, rfl, rfl, rfl, h2, r2⟩ := trodAll_cons r1
  obtain ⟨rfl, rfl, rfl⟩ := trodAll_nil r2
  obtain rfl : args = #[v0, v1, v2] := by cases args; simp_all
  obtain ⟨rfl, rfl⟩ := trodVars_none hV
  obtain ⟨a0, rfl, rfl, rfl, w0⟩ := open_int Try.underlying3 (hval 0 3 v0 rfl rfl) h0
  obtain ⟨a1, rfl, rfl, rfl, w1⟩ := open_int Try.underlying3 (hval 1 3 v1 rfl rfl) h1
  obtain ⟨a2, rfl, rfl, rfl, w2⟩ := open_string Try.underlying9 (hval 2 9 v2 rfl rfl) h2
  clear hA0 hval0
  simp only [List.append_nil] at hW'
  refine (walk a0 a1 a2 w0 w1 w2 W).mono fun e W' ⟨he, bel⟩ => ?_
  subst he
  exact ⟨_, rfl, _, _, _, [], _, [], hW', trodAll_mk1 (shut_bool Try.underlying4 _), (trodAll_cons_mk (shut_int Try.underlying3 w0) (trodAll_cons_mk (shut_int Try.underlying3 w1) (trodAll_cons_mk (shut_string Try.underlying9 w2) trodAll_mk0))), rfl, bel.frame _, fun h => by cases h⟩

theorem over : Rows.textCommentsRow.holds Try.pinned (OpenSpec.ofChange Rows.textCommentsSpec) :=
  OpenClaim.holds_of_wide 10 Try.f10 rfl rfl rfl rfl rfl rfl rfl ⟨rfl, rfl, rfl, rfl, rfl⟩ rfl rfl rfl rfl rfl (by kernel_rfl) Try.func10 (by kernel_rfl)
    (of_decide_eq_true (by kernel_rfl)) (by unfold Func.isWrapper; first | (rw [if_pos (by decide +kernel)]; kernel_rfl) | (rw [if_neg (by decide +kernel)]; exact ⟨rfl, rfl⟩))
    (fun os started H enc _ => lifted os started H enc)

/-- ████ THE STATEMENT ████ -/
theorem proved : Rows.TextCommentsSaid :=
  over
end Go.Proofs.Ytmnkdfecclbgfaa.textComments
