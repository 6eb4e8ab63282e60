/- Layers that came in as an argument; the law's own Source. -/
import Derived.Test.YtfpgobbkeocokaaDoorOl
import Derived.WideShapes
import Derived.ChangeArms
import Derived.Deep.Slices
import Derived.Carry
namespace Go.Proofs.YtfpgobbkeocokaaDoor
open Go.RowKit Go.Extern.Stop Go.Stop Go.Extern Go.Lib Go.Extern.Rtype Go.WideShapes
structure LayV where
  kind : Int
  src : ByteArray
  line : Int
  col : Int
def InLay (w : World) (a : Option Addr) (n c : Nat) (rs : List LayV) : Prop := rs.length = n ∧ n ≤ c ∧ c ≤ maxLen ∧ ∀ j r, rs[j]? = some r → ∃ x, a = some x ∧ x.block < w.heap.size ∧ r.src.size ≤ maxLen ∧
  w.cell? (x.add (j * 4)) = some (.int .i64 r.kind) ∧ w.cell? ⟨(x.add (j * 4)).block, (x.add (j * 4)).off + 1, none⟩ = some (.string r.src) ∧ w.cell? ⟨(x.add (j * 4)).block, (x.add (j * 4)).off + 2, none⟩ = some (.int .i64 r.line) ∧ w.cell? ⟨(x.add (j * 4)).block, (x.add (j * 4)).off + 3, none⟩ = some (.int .i64 r.col)
theorem InLay.below {w w' : World} {a : Option Addr} {n c : Nat} {rs : List LayV} (h : InLay w a n c rs) (hb : Below w.heap.size w w') : InLay w' a n c rs := by
  obtain ⟨h1, h2, h3, h4⟩ := h
  refine ⟨h1, h2, h3, fun j r hj => ?_⟩
  obtain ⟨x, e, hx, s1, q0, q1, q2, q3⟩ := h4 j r hj
  have hk : (x.add (j * 4)).block = x.block := by unfold Addr.add; split <;> rfl
  have hc : ∀ p : Addr, p.block = x.block → w'.cell? p = w.cell? p := fun p hp => hb.cell (p := p) (by rw [hp]; exact hx)
  exact ⟨x, e, Nat.lt_of_lt_of_le hx hb.size, s1, (hc _ hk).trans q0, (hc ⟨_, _, none⟩ hk).trans q1, (hc ⟨_, _, none⟩ hk).trans q2, (hc ⟨_, _, none⟩ hk).trans q3⟩
theorem list_of {α : Type} {p : Nat → α → Prop} : ∀ n : Nat, (∀ j, j < n → ∃ r, p j r) → ∃ l : List α, l.length = n ∧ ∀ j r, l[j]? = some r → p j r
  | 0, _ => ⟨[], rfl, fun j r h => by simp at h⟩
  | n + 1, h => by
    obtain ⟨l, hl, hp⟩ := list_of n (fun j hj => h j (by omega))
    obtain ⟨r, hr⟩ := h n (by omega)
    refine ⟨l ++ [r], by simp [hl], fun j q hq => ?_⟩
    by_cases hj : j < n
    · rw [List.getElem?_append_left (by omega)] at hq
      exact hp j q hq
    · by_cases hj2 : j = n
      · subst hj2
        rw [List.getElem?_append_right (by omega), hl] at hq
        simp at hq
        rw [← hq]
        exact hr
      · rw [List.getElem?_eq_none (by simp; omega)] at hq
        cases hq
theorem some_of {α : Type} {xs : List α} {i n : Nat} (h : xs.length = n) (hi : i < n) : ∃ y, xs[i]? = some y := ⟨_, List.getElem?_eq_getElem (by omega)⟩
theorem list4 {α : Type} : ∀ l : List α, l.length = 4 → ∃ c0 c1 c2 c3, l = [c0, c1, c2, c3]
  | [c0, c1, c2, c3], _ => ⟨c0, c1, c2, c3, rfl⟩
theorem fld {H : Type} {enc : TypeId × Value → H} {P : Program} {w : World} {b : Nat} {sp : Nat → Bool} {hd : Bool} {m : Nat} {t : TypeId} {l seg : List Value} {o k : Nat} {z : Option (DataW H × List MemPlace)} {y : DataW H × List MemPlace}
    (h : DataW.trod enc P w b sp hd m t (List.take (P.cellsOf t) (List.drop o l)) = z) (hc : P.cellsOf t = k) (hs : (l.drop o).take k = seg) (hz : z = some y) : DataW.trod enc P w b sp hd m t seg = some y := by
  rw [hc, hs] at h
  exact h.trans hz
set_option maxHeartbeats 1000000 in
theorem isLay_of {H : Type} {enc : TypeId × Value → H} {w : World} {a : Option Addr} {n c : Nat} {d : DataW H} {ps : List MemPlace}
    (h : DataW.Trod enc Tryd.prog w 0 (fun _ => true) true 22 (.slice a n c) d ps) : ∃ rs, InLay w a n c rs := by
  obtain ⟨fuel, hf⟩ := h
  have cI : Tryd.prog.cellsOf 3 = 1 := by kernel_rfl
  have cS : Tryd.prog.cellsOf 9 = 1 := by kernel_rfl
  have cR : Tryd.prog.cellsOf 31 = 4 := by kernel_rfl
  rcases Go.Deep.open_slice Tryd.underlying22 hf with ⟨h7, _⟩ | ⟨x, len, cap, z, m, D, Pl, h7, _, hlc, hcm, hz, _, hel⟩
  · cases h7
    exact ⟨[], rfl, Nat.le_refl _, Nat.zero_le _, fun j r h => by simp at h⟩
  · cases h7
    simp only [if_true] at hz
    obtain ⟨rs, hrl, hrs⟩ := list_of (p := fun j (r : LayV) => x.block < w.heap.size ∧ r.src.size ≤ maxLen ∧
      w.cell? (x.add (j * 4)) = some (.int .i64 r.kind) ∧ w.cell? ⟨(x.add (j * 4)).block, (x.add (j * 4)).off + 1, none⟩ = some (.string r.src) ∧ w.cell? ⟨(x.add (j * 4)).block, (x.add (j * 4)).off + 2, none⟩ = some (.int .i64 r.line) ∧ w.cell? ⟨(x.add (j * 4)).block, (x.add (j * 4)).off + 3, none⟩ = some (.int .i64 r.col)) n (fun j hj => by
      obtain ⟨cs', h1, h2⟩ := hel j (by omega)
      rw [cR] at h1
      obtain ⟨_, hl4, hcell⟩ := World.cells?_some h1
      obtain ⟨d0, d1, d2, d3, rfl⟩ := list4 cs' hl4
      obtain ⟨xr, mr, _, _, _, hxr, hgr⟩ := DataW.trod_struct Tryd.underlying31 h2
      obtain ⟨v0, hv0⟩ := some_of hxr (i := 0) (by decide)
      obtain ⟨v1, hv1⟩ := some_of hxr (i := 1) (by decide)
      obtain ⟨v2, hv2⟩ := some_of hxr (i := 2) (by decide)
      obtain ⟨v3, hv3⟩ := some_of hxr (i := 3) (by decide)
      obtain ⟨t0, ht0, _, _⟩ := DataW.trod_int Tryd.underlying3 (fld (t := 3) (seg := [d0]) (hgr 0 _ rfl) cI rfl hv0)
      obtain ⟨t1, ht1, _, hs1⟩ := DataW.trod_string Tryd.underlying9 (fld (t := 9) (seg := [d1]) (hgr 1 _ rfl) cS rfl hv1)
      obtain ⟨t2, ht2, _, _⟩ := DataW.trod_int Tryd.underlying3 (fld (t := 3) (seg := [d2]) (hgr 2 _ rfl) cI rfl hv2)
      obtain ⟨t3, ht3, _, _⟩ := DataW.trod_int Tryd.underlying3 (fld (t := 3) (seg := [d3]) (hgr 3 _ rfl) cI rfl hv3)
      cases ht0; cases ht1; cases ht2; cases ht3
      have q0 := hcell 0 (by omega)
      have q1 := hcell 1 (by omega)
      have q2 := hcell 2 (by omega)
      have q3 := hcell 3 (by omega)
      refine ⟨⟨t0, t1, t2, t3⟩, ?_, hs1, q0, q1, q2, q3⟩
      have hb : (x.add (j * 4)).block = x.block := by unfold Addr.add; split <;> rfl
      have q0' : w.cell? (x.add (j * 4)) = some (.int .i64 t0) := q0
      rw [← hb]
      unfold World.cell? at q0'
      exact Classical.byContradiction fun hno => by
        rw [Array.getElem?_eq_none (by omega)] at q0'
        cases q0')
    exact ⟨rs, hrl, hlc, hcm, fun j r hj => ⟨x, rfl, hrs j r hj⟩⟩
/-! ### The law's own Source. -/
theorem tS (v : Value) (x : TypeId) (w : World) : (Instr.typeAssert (.iface 32 v) x 32 true).run Tryd.prog w = .ok (.tuple #[v, .bool true]) w := by kernel_rfl
theorem tC (v : Value) (x : TypeId) (w : World) : (Instr.typeAssert (.iface 26 v) x 32 true).run Tryd.prog w = .ok (.tuple #[.pointer none, .bool false]) w := by kernel_rfl
theorem tO (v : Value) (x : TypeId) (w : World) : (Instr.typeAssert (.iface 29 v) x 32 true).run Tryd.prog w = .ok (.tuple #[.pointer none, .bool false]) w := by kernel_rfl
theorem tT (v : Value) (x : TypeId) (w : World) : (Instr.typeAssert (.iface 35 v) x 32 true).run Tryd.prog w = .ok (.tuple #[.pointer none, .bool false]) w := by kernel_rfl
theorem wC (v : Value) (x : TypeId) (w : World) : (Instr.typeAssert (.iface 26 v) x 58 true).run Tryd.prog w = .ok (.tuple #[.nilIface, .bool false]) w := run_typeAssert_lacksB Tryd.underlying58 (by kernel_rfl) (by kernel_rfl) v x w
theorem wO (v : Value) (x : TypeId) (w : World) : (Instr.typeAssert (.iface 29 v) x 58 true).run Tryd.prog w = .ok (.tuple #[.iface 29 v, .bool true]) w := run_typeAssert_hasB Tryd.underlying58 (by kernel_rfl) v x w
theorem wT (v : Value) (x : TypeId) (w : World) : (Instr.typeAssert (.iface 35 v) x 58 true).run Tryd.prog w = .ok (.tuple #[.iface 35 v, .bool true]) w := run_typeAssert_hasB Tryd.underlying58 (by kernel_rfl) v x w
set_option maxHeartbeats 2000000 in
set_option maxRecDepth 100000 in
theorem s0_any (w : World) (L0 : List Lay) (k : Option Int) (v : Value) (h : ErrAt w L0 k v) (hl : L0.length < 15) :
    Calls Tryd.prog 12 #[v] w fun e w' => e = .returned (.string ((firstS L0).getD ⟨#[]⟩)) ∧ Below w.heap.size w w' := by
  have HE := Lib.hid h
  clear h
  go_enter Tryd.func12, Tryd.ntmps12
  go_wp2
  go_loopw [0, 3] (fun v iv wr => ∃ i : Nat, i ≤ 16 ∧ iv = .int .i64 i ∧ Below w.heap.size w wr ∧ ((v = .nilIface ∧ firstS L0 = none) ∨ ∃ L, ErrAt wr L k v ∧ firstS L = firstS L0 ∧ i + L.length < 15)) (fun _ iv _ => 20 - (intOf iv).toNat)
  case atStart => exact ⟨0, by decide, rfl, Below.refl _ _, .inr ⟨L0, HE.out, rfl, by omega⟩⟩
  case round =>
    obtain ⟨i, hi, rfl, hB, hway⟩ := hrel
    have HB := Lib.hid hB
    clear hB
    have n1 := nilNe
    have n2 := neqN
    have hi2 : (i : Int) < 20 := by omega
    rcases hway with ⟨rfl, hF⟩ | ⟨L, hE, hF, hlen⟩
    · have HF := Lib.hid hF
      clear hF
      go_wp2
      go_ret
      exact ⟨by rw [HF.out]; rfl, HB.out⟩
    · have HF := Lib.hid hF
      clear hF
      cases L with
      | nil =>
        cases k with
        | some d =>
          obtain rfl := hE
          have t1 := tC
          have t2 := wC
          go_wp2
          go_ret
          exact ⟨by rw [← HF.out]; rfl, HB.out⟩
        | none =>
          obtain rfl := hE
          have t1 := tO
          have t2 := wO
          have m1 := metUnO
          go_wp2_with (go_at_call 52; refine (unO _ _ (.inl rfl)).mono ?_; rintro e w2 ⟨rfl, hb2⟩; have HB2 := Lib.hid hb2; clear hb2)
          go_roundw
          case rel => exact ⟨i + 1, by omega, by go_num, keepE HB.out HB2.out, .inl ⟨rfl, HF.out.symm⟩⟩
          case measure => simp [intOf]; omega
      | cons y L =>
        simp only [List.length_cons] at hlen
        cases y with
        | src s =>
          obtain ⟨b, u, rfl, hb, hu⟩ := hE
          have t1 := tS
          have kb : wr.cell? ⟨b, 0, none⟩ = some (.string s) := by simp [World.cell?, hb]
          clear hb hu
          go_wp2
          go_ret
          exact ⟨by rw [← HF.out]; rfl, HB.out⟩
        | txt l c2 =>
          obtain ⟨b, u, rfl, hb, hu⟩ := hE
          have t1 := tT
          have t2 := wT
          have m1 := metUnT
          have HU := Lib.hid (unT _ _ _ _ _ hb)
          have HUu := Lib.hid hu
          clear hb hu
          go_wp2_with (go_at_call 56; refine HU.out.mono ?_; rintro e w2 ⟨rfl, rfl⟩)
          go_roundw
          case rel => exact ⟨i + 1, by omega, by go_num, HB.out, .inr ⟨L, HUu.out, HF.out, by omega⟩⟩
          case measure => simp [intOf]; omega
        | own =>
          obtain ⟨u, rfl, hu⟩ := hE
          obtain ⟨t, x, rfl⟩ := hu.iface
          have t1 := tO
          have t2 := wO
          have m1 := metUnO
          have HUu := Lib.hid hu
          clear hu
          go_wp2_with (go_at_call 52; refine (unO _ _ (.inr ⟨_, _, rfl⟩)).mono ?_; rintro e w2 ⟨rfl, hb2⟩; have HB2 := Lib.hid hb2; clear hb2)
          go_roundw
          case rel => exact ⟨i + 1, by omega, by go_num, keepE HB.out HB2.out, .inr ⟨L, HUu.out.below HB2.out, HF.out, by omega⟩⟩
          case measure => simp [intOf]; omega
end Go.Proofs.YtfpgobbkeocokaaDoor
