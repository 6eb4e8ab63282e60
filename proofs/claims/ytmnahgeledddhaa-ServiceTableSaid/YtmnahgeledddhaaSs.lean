/- Contracts of the document's side: texts cut at a byte. -/
import Derived.Test.YtmnahgeledddhaaGs
import Derived.Test.YtmnahgeledddhaaSp
import Derived.LoopTactic
import Derived.OwnWalk
namespace Go.Proofs.Ytmnahgeledddhaa
open Go.RowKit Go.Lib Go.Tx
theorem info9 : (Try.prog.info? 9).map (fun i => (i.zero, i.size, i.bytes)) = some (some (.string ⟨#[]⟩), 1, 16) := by kernel_rfl
theorem one_cell (w : World) (s : ByteArray) (e : TypeId) : ∀ j u, [Value.string s][j]? = some u → (w.alloc (.cells #[.string s] e)).cell? ((⟨w.heap.size, 0, none⟩ : Addr).add j) = some u := by
  intro j u hj
  have ha : (⟨w.heap.size, 0, none⟩ : Addr).add j = ⟨w.heap.size, j, none⟩ := by unfold Addr.add; split <;> simp_all
  rw [ha, World.cell?_alloc_new]
  simpa using hj
/-- What holds at the head of a round. -/
structure PI (w : World) (l : List UInt8) (c : UInt8) (n k F : Nat) (out fr : Value) (wr : World) (T : List (List UInt8)) : Prop where
  fr : fr = .int .i64 (F : Int)
  told : StrC w.heap.size wr out T
  go : k ≤ n → F ≤ k ∧ splitL c l = T ++ splitG c ((l.take k).drop F) (l.drop k)
  done : n < k → splitL c l = T
  few : T.length ≤ k
  bel : Below w.heap.size w wr
def SplitR (w : World) (T : List (List UInt8)) (e : Ending) (w' : World) : Prop := ∃ v, e = .returned v ∧ StrC w.heap.size w' v T ∧ Below w.heap.size w w'
theorem ext_drop (s : ByteArray) (F k : Nat) : Value.string (s.extract F k) = strV ((s.data.toList.take k).drop F) := by
  unfold strV
  congr 1
  apply ByteArray.ext
  apply Array.ext'
  simp [ByteArray.extract, ByteArray.copySlice, List.drop_take, List.extract]
theorem PI.skip {w wr : World} {l : List UInt8} {c b : UInt8} {n k F : Nat} {out fr : Value} {T : List (List UInt8)} (h : PI w l c n k F out fr wr T) (hl : l.length = n) (hb : l[k]? = some b) (hc : ¬ b = c) : PI w l c n (k + 1) F out fr wr T := by
  have hk := (List.getElem?_eq_some_iff.1 hb).1
  obtain ⟨h1, h2⟩ := h.go (by omega)
  exact ⟨h.fr, h.told, fun _ => ⟨by omega, by rw [h2, splitG_step hb h1 hc]⟩, fun h => by omega, by have := h.few; omega, h.bel⟩
theorem PI.push {w wr w5 : World} {s : ByteArray} {c : UInt8} {n k F : Nat} {out out' fr : Value} {T : List (List UInt8)} (h : PI w s.data.toList c n k F out fr wr T) (hl : s.data.toList.length = n) (hk : k ≤ n) (hb : k < n → s.data.toList[k]? = some c)
    (ho : w5.ownsRow w.heap.size 9 1 out' (T.length + 1) (T.map strV ++ [.string (s.extract F k)])) (hbel : Below w.heap.size w w5) : PI w s.data.toList c n (k + 1) (k + 1) out' (.int .i64 ((k + 1 : Nat) : Int)) w5 (T ++ [(s.data.toList.take k).drop F]) := by
  obtain ⟨h1, h2⟩ := h.go hk
  refine ⟨rfl, ?_, fun h3 => ⟨Nat.le_refl _, ?_⟩, fun h3 => ?_, by have := h.few; simp; omega, hbel⟩
  · unfold StrC
    rw [List.length_append, List.map_append]
    rw [ext_drop] at ho
    exact ho
  · rw [h2, splitG_cut (hb (by omega)) rfl, List.append_assoc]
    rfl
  · have : k = n := by omega
    subst this
    rw [h2, splitG_last hl]
set_option maxHeartbeats 2000000 in
set_option maxRecDepth 100000 in
theorem split_any (s : ByteArray) (c : UInt8) (w : World) (hn : s.size ≤ 1000000) :
    Calls Try.prog 24 #[.string s, .int .u8 (c.toNat : Int)] w (SplitR w (splitL c s.data.toList)) := by
  obtain ⟨i9, hi, hz0, hz1, hz2⟩ := info_parts info9
  have HL : Hid (s.data.toList.length = s.size) := Lib.hid rfl
  go_enter Try.func24, Try.ntmps24
  go_wp2
  go_loopw [5, 6, 7] (fun out fr i wr => ∃ k F T, k ≤ s.size + 1 ∧ i = .int .i64 (k : Nat) ∧ PI w s.data.toList c s.size k F out fr wr T) (fun _ _ i _ => s.size + 1 - (intOf i).toNat)
  case atStart => exact ⟨0, 0, [], Nat.zero_le _, rfl, rfl, World.ownsRow_nil _ _ _ _, fun _ => ⟨Nat.le_refl _, by simp [splitL]⟩, fun h => by omega, Nat.zero_le _, Below.refl _ _⟩
  case round =>
    obtain ⟨k, F, T, hk, rfl, hI⟩ := hrel
    have hfr := hI.fr
    subst hfr
    have hws := hI.bel.size
    have hfew := hI.few
    have HI := Lib.hid hI
    clear hI
    by_cases hlt : k ≤ s.size
    · have hF := (HI.out.go hlt).1
      by_cases hkn : k < s.size
      · have hb : s.data.toList[k]? = some s[k] := List.getElem?_eq_getElem hkn
        by_cases hc : s[k] = c
        · have HB := Lib.hid hb
          have HC := Lib.hid hc
          have ec : ((s[k].toNat : Int) == (c.toNat : Int)) = true := by rw [hc]; simp
          clear hb hc
          go_wp2_with (at_builtin; refine wpList_append_own _ rfl _ _ 34 rfl w.heap.size 9 i9 (.string ⟨#[]⟩) 1 16 Try.underlying34 hi hz0 hz1 hz2 rfl (by decide) _ _ _ rfl (HI.out.told.alloc _) ⟨wr.heap.size, 0, none⟩ 1 1 [.string (s.extract F k)] rfl rfl (one_cell _ _ _) (by simp [Value.oneCell']) (by unfold maxLen; omega) (by omega) (by show w.heap.size ≤ (wr.heap.push _).size; simp; omega) ?_; intro v' w5 hown5 hg5 _)
          go_roundw
          case rel => exact ⟨k + 1, k + 1, _, by omega, by go_num, HI.out.push HL.out hlt (fun _ => by rw [HB.out, HC.out]) hown5 ((HI.out.bel.alloc hws _).grown hg5 (by show w.heap.size ≤ (wr.heap.push _).size; simp; omega) (fun g hg => (HI.out.told.lt g hg).1))⟩
          case measure => simp [intOf]; omega
        · have HB := Lib.hid hb
          have HC := Lib.hid hc
          have ec : ((s[k].toNat : Int) == (c.toNat : Int)) = false := by rw [beq_eq_false_iff_ne]; intro h; exact hc (UInt8.toNat_inj.1 (by omega))
          clear hb hc
          go_wp2
          go_roundw
          case rel => exact ⟨k + 1, F, T, by omega, by go_num, HI.out.skip HL.out HB.out HC.out⟩
          case measure => simp [intOf]; omega
      · obtain rfl : k = s.size := by omega
        go_wp2_with (at_builtin; refine wpList_append_own _ rfl _ _ 34 rfl w.heap.size 9 i9 (.string ⟨#[]⟩) 1 16 Try.underlying34 hi hz0 hz1 hz2 rfl (by decide) _ _ _ rfl (HI.out.told.alloc _) ⟨wr.heap.size, 0, none⟩ 1 1 [.string (s.extract F s.size)] rfl rfl (one_cell _ _ _) (by simp [Value.oneCell']) (by unfold maxLen; omega) (by omega) (by show w.heap.size ≤ (wr.heap.push _).size; simp; omega) ?_; intro v' w5 hown5 hg5 _)
        go_roundw
        case rel => exact ⟨s.size + 1, s.size + 1, _, by omega, by go_num, HI.out.push HL.out hlt (fun h => by omega) hown5 ((HI.out.bel.alloc hws _).grown hg5 (by show w.heap.size ≤ (wr.heap.push _).size; simp; omega) (fun g hg => (HI.out.told.lt g hg).1))⟩
        case measure => simp [intOf]
    · obtain rfl : k = s.size + 1 := by omega
      have HE := Lib.hid (HI.out.done (by omega))
      go_wp2
      go_ret
      exact ⟨_, rfl, by rw [HE.out]; exact HI.out.told, HI.out.bel⟩
end Go.Proofs.Ytmnahgeledddhaa
