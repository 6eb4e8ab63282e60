/- Contracts: the law's own question's error; what it is told as; its Poll. -/
import Derived.Test.YtpdkjifalgeodaaSo
namespace Go.Proofs.Ytpdkjifalgeodaa
open Go.RowKit Go.Extern.Stop Go.Stop Go.Extern Go.Lib
theorem results_row4 {P : Program} {fn : Func} {p u z y : Tmp} {ty : TypeId} (h : fn.results = #[.cell p ty, .tmp u, .tmp z, .tmp y]) (tmps : Array Value) (w : World) (g : Nat) (t : TypeId) (cs : Array Value) (fr : Nat × Nat) (d : TypeDesc)
    (hp : tmps.getD p undef = .pointer (some ⟨g, 0, none⟩)) (hg : w.heap[g]? = some (.cells cs t fr))
    (hu : P.underlying ty = some d) (hd : (match d with | .struct _ | .array _ _ => true | _ => false) = true) (hi : (P.info? ty).map (·.size) = some cs.size) :
    (results fn tmps).run P w = .ok (.tuple #[.agg cs, tmps.getD u undef, tmps.getD z undef, tmps.getD y undef]) w := by
  have hp' : tmps[p]?.getD undef = .pointer (some ⟨g, 0, none⟩) := by rw [← hp]; simp [Array.getD_eq_getD_getElem?]
  simp only [results, h]
  simp [Sem.run_bind, hp', asAddr, run_loadVar_row w g t ty cs fr d hg hu hd hi, Result.andThen]
abbrev innerS : ByteArray := ⟨#[105, 110, 110, 101, 114]⟩
def errL (d : DefL) : List ByteArray := if d.wrap then [innerS] else []
set_option maxHeartbeats 1000000 in
set_option maxRecDepth 100000 in
theorem derr_nil (d : DefL) (w : World) (h : d.code = 0) : Calls Try.prog 37 #[defV d] w fun e w' => e = .returned .nilIface ∧ Below w.heap.size w w' := by
  have hn := heap_alloc_new w (.cells (defC d) 28)
  have c1 : (w.alloc (.cells (defC d) 28)).cell? ⟨w.heap.size, 10, none⟩ = some (.int .i64 0) := by rw [← h]; exact cellJ hn (defC_at rfl)
  have HB := Lib.hid (al_bel w (.cells (defC d) 28))
  clear hn
  simp only [defV]
  generalize defC d = cs at *
  clear h d
  go_enter Try.func37, Try.ntmps37
  go_wp2
  go_ret
  exact ⟨rfl, HB.out⟩
set_option maxHeartbeats 1000000 in
set_option maxRecDepth 100000 in
theorem derr_any (d : DefL) (w : World) (h : ¬ d.code = 0) : Calls Try.prog 37 #[defV d] w fun e w' => ∃ v, e = .returned v ∧ ErrS w' (errL d) d.code v ∧ Below w.heap.size w w' := by
  have hn := heap_alloc_new w (.cells (defC d) 28)
  have c1 : (w.alloc (.cells (defC d) 28)).cell? ⟨w.heap.size, 10, none⟩ = some (.int .i64 d.code) := cellJ hn (defC_at rfl)
  have c2 : (w.alloc (.cells (defC d) 28)).cell? ⟨w.heap.size, 11, none⟩ = some (.bool d.wrap) := cellJ hn (defC_at rfl)
  have HB := Lib.hid (al_bel w (.cells (defC d) 28))
  have e1 : (d.code == 0) = false := by simpa using h
  have HW : Hid (∀ b, b = d.wrap → errL d = if b then [innerS] else []) := Lib.hid (fun b hb => by rw [hb]; rfl)
  obtain ⟨wr, hwr⟩ : ∃ b, b = d.wrap := ⟨_, rfl⟩
  have HW2 := HW.out wr hwr
  rw [HW2]
  rw [← hwr] at c2
  clear hn HW HW2 hwr
  simp only [defV]
  generalize defC d = cs at *
  generalize d.code = k at *
  clear h d
  cases wr
  · go_enter Try.func37, Try.ntmps37
    go_wp2
    go_ret
    exact ⟨_, rfl, rfl, HB.out⟩
  · go_enter Try.func37, Try.ntmps37
    go_wp2
    go_ret
    exact ⟨_, rfl, by have h := ErrS.wrap (w := w.alloc (.cells cs 28)) (L := []) (k := k) rfl innerS; rw [al_size] at h; exact h, keepE HB.out (al_bel _ _)⟩
/-- The code that a source's end is told as. -/
def toldV (d : DefL) : Int := if d.code = 0 then 0 else codeV d.code
set_option maxHeartbeats 1000000 in
set_option maxRecDepth 100000 in
theorem told_any (d : DefL) (w : World) : Calls Try.prog 18 #[defV d] w fun e w' => e = .returned (.int .i64 (toldV d)) ∧ Below w.heap.size w w' := by
  have hn := heap_alloc_new w (.cells (defC d) 28)
  have sz := sz_def d
  have HB := Lib.hid (al_bel w (.cells (defC d) 28))
  obtain ⟨W, hW⟩ : ∃ W, w.alloc (.cells (defC d) 28) = W := ⟨_, rfl⟩
  have HE : Hid (Calls Try.prog 37 #[defV d] W fun e w' => ∃ v, e = .returned v ∧ ((d.code = 0 ∧ v = .nilIface) ∨ (¬ d.code = 0 ∧ ErrS w' (errL d) d.code v)) ∧ Below W.heap.size W w') := Lib.hid (by
    by_cases h : d.code = 0
    · refine (derr_nil d W h).mono ?_
      rintro e w' ⟨he, hb⟩
      exact ⟨_, he, .inl ⟨h, rfl⟩, hb⟩
    · refine (derr_any d W h).mono ?_
      rintro e w' ⟨v, he, hr, hb⟩
      exact ⟨v, he, .inr ⟨h, hr⟩, hb⟩)
  have HC : Hid (∀ v w2, ((d.code = 0 ∧ v = .nilIface) ∨ (¬ d.code = 0 ∧ ErrS w2 (errL d) d.code v)) → Calls Try.prog 11 #[v] w2 fun e w' => e = .returned (.int .i64 (toldV d)) ∧ Below w2.heap.size w2 w') := Lib.hid (fun v w2 h => by
    rcases h with ⟨h0, rfl⟩ | ⟨h0, hr⟩
    · refine (code0_nil w2).mono ?_
      rintro e w' ⟨he, rfl⟩
      exact ⟨by rw [he]; unfold toldV; rw [if_pos h0], Below.refl _ _⟩
    · refine (code0_any w2 _ _ _ hr (by unfold errL; split <;> decide)).mono ?_
      rintro e w' ⟨he, hb⟩
      exact ⟨by rw [he]; unfold toldV; rw [if_neg h0], hb⟩)
  have HSh : Hid (∀ v w2, ((d.code = 0 ∧ v = .nilIface) ∨ (¬ d.code = 0 ∧ ErrS w2 (errL d) d.code v)) → v = .nilIface ∨ ∃ t x, v = .iface t x) := Lib.hid (fun v w2 h => by
    rcases h with ⟨_, h⟩ | ⟨_, h⟩
    · exact .inl h
    · exact .inr h.iface)
  rw [hW] at hn HB
  simp only [defV] at *
  generalize defC d = cs at *
  generalize toldV d = tv at *
  go_enter Try.func18, Try.ntmps18
  go_upto_region 1 with (fail)
  clear hW
  go_wp2_with (first | (with_reducible refine wpList_load_row rfl 28 _ rfl w.heap.size rfl 28 cs (0, 0) _ hn Try.underlying28 rfl sz ?_) | (go_at_call 37; refine HE.out.mono ?_; rintro e w2 ⟨v, rfl, hv, hb⟩; have hsh := HSh.out _ _ hv; have HC2 := Lib.hid (HC.out _ _ hv); have HB2 := Lib.hid (keepE HB.out hb); clear hv hb) | (go_at_call 11; refine HC2.out.mono ?_; rintro e w3 ⟨rfl, hb⟩; have HB3 := Lib.hid (keepE HB2.out hb); clear hb))
  go_ret
  exact ⟨rfl, HB3.out⟩
end Go.Proofs.Ytpdkjifalgeodaa
