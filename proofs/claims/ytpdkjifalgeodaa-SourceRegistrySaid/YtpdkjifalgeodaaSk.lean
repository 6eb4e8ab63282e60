/- Contracts: own (a copy of bytes); what hears: Hear and Bytes of the law's own question. -/
import Derived.Test.YtpdkjifalgeodaaSj
import Derived.Laws.CopyOwn
import Derived.Laws.MakeOwn
namespace Go.Proofs.Ytpdkjifalgeodaa
open Go.RowKit Go.Extern.Stop Go.Stop Go.Extern Go.Lib
/-- A slice of bytes that reads as these. -/
def BytS (w : World) (p : Option Addr) (n c : Nat) (xs : List Int) : Prop := xs.length = n ∧ n ≤ c ∧ c ≤ maxLen ∧ (0 < n → ∃ ad, p = some ad ∧ ∀ (j : Nat) x, xs[j]? = some x → w.cell? (ad.add j) = some (.int .u8 x))
theorem BytS.below {w w' : World} {p : Option Addr} {n c : Nat} {xs : List Int} (h : BytS w p n c xs) (hb : ∀ k, k < w.heap.size → w'.heap[k]? = w.heap[k]?) : BytS w' p n c xs := by
  obtain ⟨h1, h2, h3, h4⟩ := h
  refine ⟨h1, h2, h3, fun hn => ?_⟩
  obtain ⟨ad, e, hc⟩ := h4 hn
  refine ⟨ad, e, fun j x hj => ?_⟩
  have q := hc j x hj
  have hlt : (ad.add j).block < w.heap.size := by
    unfold World.cell? at q
    split at q
    · rename_i hh; exact lt_of hh
    · cases q
  rw [World.cell?_of_block (hb _ hlt)]
  exact q
theorem infoU8 : (Try.prog.info? 5).map (fun i => (i.zero, i.size, i.bytes)) = some (some (.int .u8 0), 1, 1) := by kernel_rfl
theorem splice_all {α : Type} (L cs : List α) (h : cs.length = L.length) : splice L 0 cs = cs := by
  unfold splice
  simp [h]
set_option maxHeartbeats 1000000 in
set_option maxRecDepth 100000 in
theorem own_any (p : Option Addr) (n c : Nat) (xs : List Int) (w : World) (h : BytS w p n c xs) (hn : n ≤ 1000000) :
    Calls Try.prog 32 #[.slice p n c] w fun e w' => ∃ g, e = .returned (.slice (some ⟨g, 0, none⟩) n n) ∧ w.heap.size ≤ g ∧ w'.heap[g]? = some (.cells (xs.map (Value.int .u8)).toArray 5 (0, 0)) ∧ Below w.heap.size w w' := by
  obtain ⟨i5, hi, hz0, hz1, hz2⟩ := info_parts infoU8
  have HSz := Lib.hid (show (Try.prog.info? 5).map (·.size) = some 1 from by kernel_rfl)
  have HH := Lib.hid h
  obtain ⟨m, hm⟩ : ∃ m, m = w.heap.size := ⟨_, rfl⟩
  obtain ⟨cs, hcs⟩ : ∃ cs, cs = xs.map (Value.int .u8) := ⟨_, rfl⟩
  have HC := Lib.hid hcs
  have HM := Lib.hid hm
  rw [← hcs, ← hm]
  have hn64 : (n : Int) ≤ 9223372036854775807 := by omega
  clear h hm hcs
  go_enter Try.func32, Try.ntmps32
  go_upto_region 2 with (at_make; refine wpList_make_full _ rfl _ _ 29 rfl w.heap.size 5 i5 (.int .u8 0) 1 Try.underlying29 hi hz0 hz1 .i64 .i64 n n n rfl rfl rfl rfl (by rw [hz2]; omega) (by unfold maxLen; omega) (Nat.le_refl _) ?_; intro w2 hown hg; have HO := Lib.hid hown; have HG := Lib.hid hg; clear hown hg)
  obtain ⟨cur, hc2, hl2⟩ : ∃ cur : List Value, w2.heap[w.heap.size]? = some (.cells cur.toArray 5 (0, 0)) ∧ cur.length = n := by
    rcases HO.out.2 with ⟨e, _⟩ | ⟨g, cap, cur, e, _, h3, _, _, h6, _⟩
    · cases e
    · cases e
      exact ⟨cur.toList, by simpa using h3, by simpa using h6⟩
  have HB2 : Hid (Below w.heap.size w w2) := Lib.hid ((Below.refl _ _).grown HG.out (Nat.le_refl _) (fun k hk => by cases hk))
  have hlen : cs.length = Nat.min n n := by rw [HC.out, List.length_map, HH.out.1]; exact (Nat.min_self n).symm
  have hpos : 0 < cs.length → some (⟨w.heap.size, 0, none⟩ : Addr) = some ⟨w.heap.size, 0, none⟩ ∧ ∃ ad, p = some ad ∧ ∀ j v, cs[j]? = some v → w2.cell? (ad.add j) = some v := fun h0 => by
    have hn0 : 0 < n := by rw [hlen] at h0; simpa using h0
    obtain ⟨ad, e, hcell⟩ := (HH.out.below (fun k hk => HB2.out.block k hk)).2.2.2 hn0
    refine ⟨rfl, ad, e, fun j v hj => ?_⟩
    rw [HC.out, List.getElem?_map] at hj
    obtain ⟨x, hx, rfl⟩ := Option.map_eq_some_iff.1 hj
    exact hcell j x hx
  have h1 : ∀ v ∈ cs, v.oneCell' = true := fun v hv => by
    rw [HC.out] at hv
    obtain ⟨x, _, rfl⟩ := List.mem_map.1 hv
    rfl
  have HSp : Hid (splice cur 0 cs = cs) := Lib.hid (splice_all cur cs (by rw [hlen, hl2]; exact Nat.min_self n))
  have hfit : 0 + cs.length ≤ cur.length := by rw [hlen, hl2, Nat.zero_add]; exact Nat.le_of_eq (Nat.min_self n)
  have HL := Lib.hid hlen
  have HP := Lib.hid hpos
  have H1 := Lib.hid h1
  have HF := Lib.hid hfit
  have HC2 := Lib.hid hc2
  clear hlen hpos h1 hfit hl2 hc2 HO HG
  go_wp2_with (with_reducible show wpList _ _ _ (⟨some 9, _, _, _, _, _⟩ :: _) _ _; refine wpList_copy_splice rfl _ _ 29 29 rfl 5 Try.underlying29 HSz.out (some ⟨w.heap.size, 0, none⟩) p n n n c rfl rfl w.heap.size 0 cur 5 HC2.out cs HL.out HP.out HF.out H1.out w.heap.size w HB2.out (Nat.le_refl _) ?_; intro w3 h3 hb3; have HB3 := Lib.hid hb3; clear hb3)
  go_ret
  exact ⟨w.heap.size, rfl, Nat.le_of_eq HM.out, by have := h3.out; rw [HSp.out] at this; exact this, by rw [HM.out]; exact HB3.out⟩
end Go.Proofs.Ytpdkjifalgeodaa
