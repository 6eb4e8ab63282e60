/- Contracts and plain facts that the law leans on. -/
import Derived.Test.YtaaiicfclaeapaaKqM
import Derived.Test.YtaaiicfclaeapaaWaCa
import Derived.OpenShut
import Derived.WideShapes
import Derived.ChangeArms
import Derived.Deep.Slices
import Derived.Carry
import Derived.Test.YtaaiicfclaeapaaWaCc
import Derived.Deep.CutRange
namespace Go.Proofs.Ytaaiicfclaeapaa
open Go.RowKit Go.Mp Go.Rb Go.Lib Go.WideShapes
/-- An operation. -/
structure OpV where
  kind : Int
  k : Int
  n : Int
  name : ByteArray
  ba : Option Addr
  bn : Nat
  bc : Nat
  bz : List Int
  link : Bool
def InOps (w : World) (a : Option Addr) (n c : Nat) (rs : List OpV) : Prop := rs.length = n ∧ n ≤ c ∧ c ≤ maxLen ∧ ∀ j r, rs[j]? = some r → ∃ x, a = some x ∧ x.block < w.heap.size ∧ r.name.size ≤ maxLen ∧ (Lit.int .i64 r.k).wf = true ∧ (Lit.int .i64 r.n).wf = true ∧ Go.Sl.IsInts .u8 w r.ba r.bn r.bc r.bz ∧
  w.cell? (x.add (j * 6)) = some (.int .i64 r.kind) ∧ w.cell? ⟨(x.add (j * 6)).block, (x.add (j * 6)).off + 1, none⟩ = some (.int .i64 r.k) ∧ w.cell? ⟨(x.add (j * 6)).block, (x.add (j * 6)).off + 2, none⟩ = some (.int .i64 r.n) ∧ w.cell? ⟨(x.add (j * 6)).block, (x.add (j * 6)).off + 3, none⟩ = some (.string r.name) ∧ w.cell? ⟨(x.add (j * 6)).block, (x.add (j * 6)).off + 4, none⟩ = some (.slice r.ba r.bn r.bc) ∧ w.cell? ⟨(x.add (j * 6)).block, (x.add (j * 6)).off + 5, none⟩ = some (.bool r.link)
theorem isInts_below {k : IntKind} {w w' : World} {a : Option Addr} {n c : Nat} {zs : List Int} (h : Go.Sl.IsInts k w a n c zs) (hb : Below w.heap.size w w') : Go.Sl.IsInts k w' a n c zs := by
  rcases h with h | ⟨x, h1, h2, h3, h4, h5, h6⟩
  · exact .inl h
  · refine .inr ⟨x, h1, h2, h3, h4, fun i hi => ?_, h6⟩
    have hc := h5 i hi
    have hlt : (x.add i).block < w.heap.size := by
      unfold World.cell? at hc
      split at hc
      · rename_i hh
        exact (Array.getElem?_eq_some_iff.1 hh).1
      · cases hc
    rw [hb.cell hlt]
    exact hc
theorem InOps.below {w w' : World} {a : Option Addr} {n c : Nat} {rs : List OpV} (h : InOps w a n c rs) (hb : Below w.heap.size w w') : InOps w' a n c rs := by
  obtain ⟨h1, h2, h3, h4⟩ := h
  refine ⟨h1, h2, h3, fun j r hj => ?_⟩
  obtain ⟨x, e, hx, s1, s2, s3, s4, q0, q1, q2, q3, q4, q5⟩ := h4 j r hj
  have hk : (x.add (j * 6)).block = x.block := by unfold Addr.add; split <;> rfl
  have hc : ∀ p : Addr, p.block = x.block → w'.cell? p = w.cell? p := fun p hp => hb.cell (p := p) (by rw [hp]; exact hx)
  exact ⟨x, e, Nat.lt_of_lt_of_le hx hb.size, s1, s2, s3, isInts_below s4 hb, (hc _ hk).trans q0, (hc ⟨_, _, none⟩ hk).trans q1, (hc ⟨_, _, none⟩ hk).trans q2, (hc ⟨_, _, none⟩ hk).trans q3, (hc ⟨_, _, none⟩ hk).trans q4, (hc ⟨_, _, none⟩ hk).trans q5⟩
theorem list_ofK {α : Type} {p : Nat → α → Prop} : ∀ n : Nat, (∀ j, j < n → ∃ r, p j r) → ∃ l : List α, l.length = n ∧ ∀ j r, l[j]? = some r → p j r
  | 0, _ => ⟨[], rfl, fun j r h => by simp at h⟩
  | n + 1, h => by
    obtain ⟨l, hl, hp⟩ := list_ofK n (fun j hj => h j (by omega))
    obtain ⟨r, hr⟩ := h n (by omega)
    refine ⟨l ++ [r], by simp [hl], fun j q hq => ?_⟩
    by_cases hj : j < n
    · rw [List.getElem?_append_left (by omega)] at hq
      exact hp j q hq
    · by_cases hj2 : j = n
      · subst hj2
        rw [List.getElem?_append_right (by omega), hl] at hq
        simp at hq
        rw [← hq]
        exact hr
      · rw [List.getElem?_eq_none (by simp; omega)] at hq
        cases hq
theorem some_ofK {α : Type} {xs : List α} {i n : Nat} (h : xs.length = n) (hi : i < n) : ∃ y, xs[i]? = some y := ⟨_, List.getElem?_eq_getElem (by omega)⟩
theorem list6 {α : Type} : ∀ l : List α, l.length = 6 → ∃ c0 c1 c2 c3 c4 c5, l = [c0, c1, c2, c3, c4, c5]
  | [c0, c1, c2, c3, c4, c5], _ => ⟨c0, c1, c2, c3, c4, c5, rfl⟩
theorem fldK {H : Type} {enc : TypeId × Value → H} {P : Program} {w : World} {b : Nat} {sp : Nat → Bool} {hd : Bool} {m : Nat} {t : TypeId} {l seg : List Value} {o k : Nat} {z : Option (DataW H × List MemPlace)} {y : DataW H × List MemPlace}
    (h : DataW.trod enc P w b sp hd m t (List.take (P.cellsOf t) (List.drop o l)) = z) (hc : P.cellsOf t = k) (hs : (l.drop o).take k = seg) (hz : z = some y) : DataW.trod enc P w b sp hd m t seg = some y := by
  rw [hc, hs] at h
  exact h.trans hz
set_option maxHeartbeats 1000000 in
theorem isOps_of {H : Type} {enc : TypeId × Value → H} {w : World} {a : Option Addr} {n c : Nat} {d : DataW H} {ps : List MemPlace}
    (h : DataW.Trod enc Try.prog w 0 (fun _ => true) true 22 (.slice a n c) d ps) : ∃ rs, InOps w a n c rs := by
  obtain ⟨fuel, hf⟩ := h
  have cI : Try.prog.cellsOf 3 = 1 := by kernel_rfl
  have cL : Try.prog.cellsOf 2 = 1 := by kernel_rfl
  have cS : Try.prog.cellsOf 9 = 1 := by kernel_rfl
  have cV : Try.prog.cellsOf 33 = 1 := by kernel_rfl
  have cU : Try.prog.cellsOf 5 = 1 := by kernel_rfl
  have cB : Try.prog.cellsOf 4 = 1 := by kernel_rfl
  have cR : Try.prog.cellsOf 35 = 6 := by kernel_rfl
  rcases Go.Deep.open_slice Try.underlying22 hf with ⟨h7, _⟩ | ⟨x, len, cap, z, m, D, Pl, h7, _, hlc, hcm, hz, _, hel⟩
  · cases h7
    exact ⟨[], rfl, Nat.le_refl _, Nat.zero_le _, fun j r h => by simp at h⟩
  · cases h7
    simp only [if_true] at hz
    obtain ⟨rs, hrl, hrs⟩ := list_ofK (p := fun j (r : OpV) => x.block < w.heap.size ∧ r.name.size ≤ maxLen ∧ (Lit.int .i64 r.k).wf = true ∧ (Lit.int .i64 r.n).wf = true ∧ Go.Sl.IsInts .u8 w r.ba r.bn r.bc r.bz ∧
      w.cell? (x.add (j * 6)) = some (.int .i64 r.kind) ∧ w.cell? ⟨(x.add (j * 6)).block, (x.add (j * 6)).off + 1, none⟩ = some (.int .i64 r.k) ∧ w.cell? ⟨(x.add (j * 6)).block, (x.add (j * 6)).off + 2, none⟩ = some (.int .i64 r.n) ∧ w.cell? ⟨(x.add (j * 6)).block, (x.add (j * 6)).off + 3, none⟩ = some (.string r.name) ∧ w.cell? ⟨(x.add (j * 6)).block, (x.add (j * 6)).off + 4, none⟩ = some (.slice r.ba r.bn r.bc) ∧ w.cell? ⟨(x.add (j * 6)).block, (x.add (j * 6)).off + 5, none⟩ = some (.bool r.link)) n (fun j hj => by
      obtain ⟨cs', h1, h2⟩ := hel j (by omega)
      rw [cR] at h1
      obtain ⟨_, hl6, hcell⟩ := World.cells?_some h1
      obtain ⟨e0, e1, e2, e3, e4, e5, rfl⟩ := list6 cs' hl6
      obtain ⟨xr, mr, _, _, _, hxr, hgr⟩ := DataW.trod_struct Try.underlying35 h2
      obtain ⟨v0, hv0⟩ := some_ofK hxr (i := 0) (by decide)
      obtain ⟨v1, hv1⟩ := some_ofK hxr (i := 1) (by decide)
      obtain ⟨v2, hv2⟩ := some_ofK hxr (i := 2) (by decide)
      obtain ⟨v3, hv3⟩ := some_ofK hxr (i := 3) (by decide)
      obtain ⟨v4, hv4⟩ := some_ofK hxr (i := 4) (by decide)
      obtain ⟨v5, hv5⟩ := some_ofK hxr (i := 5) (by decide)
      obtain ⟨t0, ht0, _, _⟩ := DataW.trod_int Try.underlying3 (fldK (t := 3) (seg := [e0]) (hgr 0 _ rfl) cI rfl hv0)
      obtain ⟨t1, ht1, _, hw1⟩ := DataW.trod_int Try.underlying3 (fldK (t := 3) (seg := [e1]) (hgr 1 _ rfl) cI rfl hv1)
      obtain ⟨t2, ht2, _, hw2⟩ := DataW.trod_int Try.underlying2 (fldK (t := 2) (seg := [e2]) (hgr 2 _ rfl) cL rfl hv2)
      obtain ⟨t3, ht3, _, hs3⟩ := DataW.trod_string Try.underlying9 (fldK (t := 9) (seg := [e3]) (hgr 3 _ rfl) cS rfl hv3)
      obtain ⟨t5, ht5, _⟩ := DataW.trod_bool Try.underlying4 (fldK (t := 4) (seg := [e5]) (hgr 5 _ rfl) cB rfl hv5)
      obtain ⟨ba, bn, bc, bz, he4, hbz⟩ : ∃ ba bn bc bz, e4 = .slice ba bn bc ∧ Go.Sl.IsInts .u8 w ba bn bc bz := by
        rcases Go.ChangeShapes.open_ints Try.underlying33 Try.underlying5 cU (fldK (t := 33) (seg := [e4]) (hgr 4 _ rfl) cV rfl hv4) with ⟨hcs, _⟩ | ⟨x, l, c', ss, hcs, _, hlB, hmB, hzB, _, hcelB, hwsB⟩
        · cases hcs
          exact ⟨none, 0, 0, [], rfl, .inl ⟨rfl, rfl, rfl, rfl⟩⟩
        · cases hcs
          exact ⟨_, _, _, ss, rfl, .inr ⟨_, rfl, hlB, hmB, by simpa using hzB, hcelB, hwsB⟩⟩
      cases ht0; cases ht1; cases ht2; cases ht3; cases ht5; subst he4
      have q0 := hcell 0 (by omega)
      have q1 := hcell 1 (by omega)
      have q2 := hcell 2 (by omega)
      have q3 := hcell 3 (by omega)
      have q4 := hcell 4 (by omega)
      have q5 := hcell 5 (by omega)
      refine ⟨⟨t0, t1, t2, t3, ba, bn, bc, bz, t5⟩, ?_, hs3, hw1, hw2, hbz, q0, q1, q2, q3, q4, q5⟩
      have hb : (x.add (j * 6)).block = x.block := by unfold Addr.add; split <;> rfl
      have q0' : w.cell? (x.add (j * 6)) = some (.int .i64 t0) := q0
      rw [← hb]
      unfold World.cell? at q0'
      exact Classical.byContradiction fun hno => by
        rw [Array.getElem?_eq_none (by omega)] at q0'
        cases q0')
    exact ⟨rs, hrl, hlc, hcm, fun j r hj => ⟨x, rfl, hrs j r hj⟩⟩
/-- The first bytes of what came in, as a source. -/
theorem src_ints {W : World} {a : Option Addr} {n c m : Nat} {zs : List Int} (h : Go.Sl.IsInts .u8 W a n c zs) (hm : m ≤ n) : ∃ l : List UInt8, l.length = m ∧ ∀ w', Below W.heap.size W w' → Src Try.prog w' (.slice a m c) l := by
  rcases h with ⟨rfl, rfl, rfl, rfl⟩ | ⟨x, rfl, h1, h2, h3, h4, h5⟩
  · obtain rfl : m = 0 := by omega
    exact ⟨[], rfl, fun w' _ => ⟨fun w2 => rfl, fun w2 _ => run_firstCells_none w2 1 0 0 0⟩⟩
  · refine ⟨(zs.take m).map fun z => UInt8.ofNat z.toNat, by simp; omega, fun w' hb => ⟨fun w2 => by
      show Result.ok _ _ = _
      rw [show ((zs.take m).map fun z => UInt8.ofNat z.toNat).length = m from by simp; omega], fun w2 hw2 => ?_⟩⟩
    have hlen : ((zs.take m).map fun z => UInt8.ofNat z.toNat).length = m := by simp; omega
    rw [hlen]
    refine run_firstCells_some w2 1 m _ m c (vbytes ((zs.take m).map fun z => UInt8.ofNat z.toNat)) (by simp [vbytes]; omega) fun j v hj => ?_
    simp only [vbytes, List.getElem?_map, Option.map_eq_some_iff] at hj
    obtain ⟨b, ⟨z, hz, rfl⟩, rfl⟩ := hj
    rw [List.getElem?_take] at hz
    split at hz
    · have hjl := (List.getElem?_eq_some_iff.1 hz).1
      have hc := h4 j hjl
      have hlt : (x.add j).block < W.heap.size := by
        unfold World.cell? at hc
        split at hc
        · rename_i hh
          exact (Array.getElem?_eq_some_iff.1 hh).1
        · cases hc
      rw [List.getD_eq_getElem?_getD, hz] at hc
      have hw := h5 z (List.mem_of_getElem? hz)
      have hw9 : 0 ≤ z ∧ z ≤ 255 := by simpa [Lit.wf, IntKind.wrap, IntKind.bits, IntKind.signed, IntKind.min, IntKind.max] using hw
      have : ((UInt8.ofNat z.toNat).toNat : Int) = z := by rw [UInt8.toNat_ofNat_of_lt' (by show z.toNat < 256; omega)]; omega
      rw [show w2.cell? (x.add j) = w'.cell? (x.add j) from World.cell?_of_block (by rw [hw2]), hb.cell hlt, hc, this]
      rfl
    · cases hz
end Go.Proofs.Ytaaiicfclaeapaa

namespace Go.Proofs.Ytaaiicfclaeapaa
open Go.RowKit Go.Mp Go.Rb Go.Lib
def dB : ByteArray := ⟨#[100]⟩
def bsU (i : Nat) : List UInt8 := (List.range i).map UInt8.ofNat
def FFc (i : Nat) (s : ByteArray) : List UInt8 := if s = dB then bsU i else []
def ULc (s i : Nat) : List (ByteArray × List UInt8) := (List.range (i - s)).map fun j => (dB, bsU (s + j))
theorem bsU_len (i : Nat) : (bsU i).length = i := by simp [bsU]
theorem bsU_succ (i : Nat) : bsU (i + 1) = bsU i ++ [UInt8.ofNat i] := by simp [bsU, List.range_succ]
theorem ULc_len (s i : Nat) : (ULc s i).length = i - s := by simp [ULc]
theorem ULc_self (s : Nat) : ULc s s = [] := by simp [ULc]
theorem FFc_d (i : Nat) : FFc i dB = bsU i := by simp [FFc]
theorem FFc_len (i : Nat) (t : ByteArray) : (FFc i t).length ≤ i := by
  unfold FFc
  by_cases h : t = dB
  · rw [if_pos h, bsU_len]; exact Nat.le_refl _
  · rw [if_neg h]; exact Nat.zero_le _
theorem FFc_succ (i : Nat) : updF (FFc i) dB (FFc i dB ++ [UInt8.ofNat i]) = FFc (i + 1) := by
  funext t
  unfold updF FFc
  by_cases h : t = dB
  · simp [h, bsU_succ]
  · simp [h]
theorem ULc_succ {s i : Nat} (h : s ≤ i) : ULc s i ++ [(dB, FFc i dB)] = ULc s (i + 1) := by
  unfold ULc
  rw [show i + 1 - s = (i - s) + 1 from by omega, List.range_succ, List.map_append, FFc_d]
  simp
  congr 1
  omega
theorem ULc_at {s i j : Nat} (h : j < i - s) : (ULc s i)[j]? = some (dB, bsU (s + j)) := by
  simp [ULc, h]
theorem ULc_name {s i : Nat} {e : ByteArray × List UInt8} (h : e ∈ ULc s i) : e.1 = dB ∧ e.2.length ≤ i := by
  unfold ULc at h
  obtain ⟨j, hj, rfl⟩ := List.mem_map.1 h
  have := List.mem_range.1 hj
  exact ⟨rfl, by simp [bsU_len]; omega⟩
theorem fstB_mem {L : List (ByteArray × List UInt8)} {t : ByteArray} {l : List UInt8} (h : fstB L t = some l) : (t, l) ∈ L := by
  unfold fstB at h
  obtain ⟨e, he, rfl⟩ := Option.map_eq_some_iff.1 h
  have h1 := List.find?_some he
  have h2 := List.mem_of_find?_eq_some he
  have : e.1 = t := of_decide_eq_true h1
  rw [← this]
  exact h2
theorem cut_len (s i k : Nat) (t : ByteArray) : ((fstB ((ULc s i).drop k) t).getD (FFc i t)).length ≤ i := by
  cases hf : fstB ((ULc s i).drop k) t with
  | none => exact FFc_len i t
  | some l => exact (ULc_name (List.mem_of_mem_drop (fstB_mem hf))).2
theorem cut_is {s N i : Nat} (h1 : s ≤ N) (h2 : N ≤ i) (t : ByteArray) : (fstB ((ULc s i).drop (N - s)) t).getD (FFc i t) = FFc N t := by
  by_cases ht : t = dB
  · subst ht
    by_cases hN : N = i
    · subst hN
      rw [List.drop_of_length_le (by rw [ULc_len]; exact Nat.le_refl _)]
      rfl
    · have hl : N - s < (ULc s i).length := by rw [ULc_len]; omega
      have he : (ULc s i)[N - s] = (dB, bsU N) := by
        have := ULc_at (s := s) (i := i) (j := N - s) (by omega)
        rw [List.getElem?_eq_getElem hl] at this
        rw [Option.some.inj this, show s + (N - s) = N from by omega]
      rw [List.drop_eq_getElem_cons hl, he, fstB_cons, if_pos rfl, FFc_d]
      rfl
  · cases hf : fstB ((ULc s i).drop (N - s)) t with
    | none => simp [FFc, ht]
    | some l => exact absurd (ULc_name (List.mem_of_mem_drop (fstB_mem hf))).1 ht
def c0D : Value × Value × Value × Value × Value := (.int .i64 0, .int .i64 0, .map none, .slice none 0 0, .slice none 0 0)
theorem DKS.below {w w' : World} {b B K : Nat} {c : Value × Value × Value × Value × Value} {syn : Nat} {F : ByteArray → List UInt8} {UL : List (ByteArray × List UInt8)} (h : DKS w b B K c syn F UL) (hb : Below w.heap.size w w') : DKS w' b B K c syn F UL := by
  obtain ⟨mp, D, V, p, cap, hd⟩ := h
  exact ⟨mp, D, V, p, cap, hd.below hb⟩
theorem DKS.lt {w : World} {b B K : Nat} {c : Value × Value × Value × Value × Value} {syn : Nat} {F : ByteArray → List UInt8} {UL : List (ByteArray × List UInt8)} (h : DKS w b B K c syn F UL) : b < w.heap.size := by
  obtain ⟨mp, D, V, p, cap, hd⟩ := h
  exact hd.wd.lt
theorem DKS.fresh (w : World) (B : Nat) (hB : B ≤ w.heap.size) : DKS (w.alloc zWorld) w.heap.size B 0 c0D 0 (FFc 0) [] := by
  refine ⟨none, .map [], [], none, 0, ?_⟩
  exact {
    wd := heap_alloc_new w _
    base := hB
    map := .inl ⟨rfl, rfl⟩
    undo := World.ownsRow_nil _ _ _ _
    body := fun t ht => .inl ⟨valOf_nil t, by simp [FFc, bsU]⟩
    len := rfl
    old := fun j e l h1 _ => by simp at h1
    apart := fun s t a n c a' n' c' _ _ _ h1 _ => by rw [valOf_nil] at h1; cases h1
    elder := fun t j x a n c a' n' c'' _ h1 => by simp at h1
    named := fun j x h1 => by simp at h1 }
/-- The law's world ahead of write i, synced at s. -/
structure CutSt (W wr : World) (b s i : Nat) : Prop where
  ks : DKS wr b W.heap.size i c0D s (FFc i) (ULc s i)
  le : s ≤ i
  bel : Below W.heap.size W wr
section
variable {W wr : World} {b s i : Nat}
theorem CutSt.below (h : CutSt W wr b s i) {w' : World} (hb : Below wr.heap.size wr w') : CutSt W w' b s i :=
  ⟨h.ks.below hb, h.le, h.bel.trans (hb.mono h.bel.size)⟩
theorem CutSt.append (h : CutSt W wr b s i) (hi : i ≤ 40) :
    Calls Try.prog 20 #[.pointer (some ⟨b, 0, none⟩), .string dB, .slice (some ⟨wr.heap.size, 0, none⟩) 1 1] (wr.alloc (.cells #[.int .u8 (i : Int)] 5)) fun e w' => e = .returned (.tuple #[]) ∧ CutSt W w' b s (i + 1) := by
  have hx : ((UInt8.ofNat i).toNat : Int) = (i : Int) := by rw [UInt8.toNat_ofNat_of_lt' (by show i < 256; omega)]
  have hb0 : Below wr.heap.size wr (wr.alloc (.cells #[.int .u8 (i : Int)] 5)) := (Below.refl _ _).alloc (Nat.le_refl _) _
  have hrow : RowB 5 (wr.alloc (.cells #[.int .u8 (i : Int)] 5)) wr.heap.size 1 [UInt8.ofNat i] :=
    ⟨_, 0, 0, heap_alloc_new wr _, .inr rfl, rfl, Nat.le_refl _, fun j c h => by
      cases j with
      | zero =>
        cases h
        simp only [List.getElem?_toArray, List.getElem?_cons_zero, hx]
      | succ j => simp at h⟩
  refine (append_any (h.ks.below hb0) (by omega) (by rw [ULc_len]; omega) dB (by decide) _ _ _ [UInt8.ofNat i] (Src.row hrow) (by have := FFc_len i dB; simp; omega)).mono ?_
  rintro e w' ⟨he, hk, hb⟩
  rw [FFc_succ, ULc_succ h.le] at hk
  exact ⟨he, hk, by have := h.le; omega, (h.bel.trans (hb0.mono h.bel.size)).trans hb⟩
theorem CutSt.sync (h : CutSt W wr b s i) (hi : i ≤ 40) :
    Calls Try.prog 22 #[.pointer (some ⟨b, 0, none⟩)] wr fun e w' => e = .returned (.tuple #[]) ∧ CutSt W w' b i i := by
  have hle := h.le
  refine (wsync_any h.ks (by omega) (by rw [ULc_len]; omega)).mono ?_
  rintro e w' ⟨he, hk, hb⟩
  rw [ULc_len, show s + (i - s) = i from by omega] at hk
  exact ⟨he, by rw [ULc_self]; exact hk, Nat.le_refl _, h.bel.trans hb⟩
theorem CutSt.cut (h : CutSt W wr b s i) (hi : i ≤ 40) (n : Int) (hn : -9223372036854775808 ≤ n ∧ n ≤ 9223372036854775807) (N : Nat) (hN : min (max n (s : Int)) (i : Int) = (N : Int)) :
    Calls Try.prog 23 #[.pointer (some ⟨b, 0, none⟩), .int .i64 n] wr fun e w' => ∃ bn, e = .returned (.pointer (some ⟨bn, 0, none⟩)) ∧ DKS w' bn wr.heap.size i c0D N (FFc N) [] ∧ Below wr.heap.size wr w' := by
  have hle := h.le
  refine (wcut_dks h.ks n hn (by omega) (by rw [ULc_len]; omega) (by omega) (fun k t _ => Nat.le_trans (cut_len s i k t) (by omega)) N (by rw [ULc_len]; omega)).mono ?_
  rintro e w' ⟨bn, he, hb, hk, hbl⟩
  have : (fun t => (fstB ((ULc s i).drop (N - s)) t).getD (FFc i t)) = FFc N := funext fun t => cut_is (by omega) (by omega) t
  rw [this] at hk
  exact ⟨bn, he, hk, hbl⟩
end
theorem cut_again {w : World} {b B K N : Nat} (h : DKS w b B K c0D N (FFc N) []) (hN : N ≤ 40) (hK : K ≤ 1000000) :
    Calls Try.prog 23 #[.pointer (some ⟨b, 0, none⟩), .int .i64 0] w fun e w' => ∃ bn, e = .returned (.pointer (some ⟨bn, 0, none⟩)) ∧ DKS w' bn w.heap.size K c0D N (FFc N) [] ∧ Below w.heap.size w w' := by
  refine (wcut_dks h 0 (by decide) (by omega) (by simp) hK (fun k t _ => by simp only [List.drop_nil]; show (FFc N t).length ≤ 1000000; have := FFc_len N t; omega) N (by simp)).mono ?_
  rintro e w' ⟨bn, he, hb, hk, hbl⟩
  refine ⟨bn, he, ?_, hbl⟩
  rw [List.drop_nil] at hk
  exact hk
theorem raw_is {w : World} {b B K s : Nat} {F : ByteArray → List UInt8} {UL : List (ByteArray × List UInt8)} (h : DKS w b B K c0D s F UL) (hs : s ≤ 40) (hU : UL.length ≤ 40) (R : Nat) (hR : s + UL.length = R) :
    Calls Try.prog 28 #[.pointer (some ⟨b, 0, none⟩)] w fun e w' => e = .returned (.int .i64 (R : Int)) ∧ Below w.heap.size w w' := by
  refine (raw_any h (by omega) (by omega)).mono ?_
  rintro e w' ⟨he, q, rfl⟩
  exact ⟨by rw [he, ← hR]; simp, bel_drewN (Below.refl _ _) q⟩
theorem load_is {w : World} {b B K s N : Nat} {UL : List (ByteArray × List UInt8)} (h : DKS w b B K c0D s (FFc N) UL) (hN : N ≤ 40) :
    Calls Try.prog 29 #[.pointer (some ⟨b, 0, none⟩), .string dB] w fun e w' => ∃ p c', e = .returned (.slice p N c') ∧ Below w.heap.size w w' := by
  refine (load_any h dB (by decide) (by have := FFc_len N dB; omega)).mono ?_
  rintro e w' ⟨p, c', he, _, hb⟩
  rw [FFc_d, bsU_len] at he
  exact ⟨p, c', he, hb⟩
end Go.Proofs.Ytaaiicfclaeapaa

namespace Go.Proofs.Ytaaiicfclaeapaa
open Go.RowKit Go.Mp Go.Rb Go.Lib
def s0W : StW := ⟨0, 0, [], [], [], [], 0, 0⟩
theorem okw0 : Okw s0W 0 where
  few := by decide
  now := by decide
  cnt := by decide
  files := by decide
  sent := by decide
  strm := by decide
  raws := by decide
  syn := by decide
  wr := by decide
  bF := fun x hx => by cases hx
  bS := fun x hx => by cases hx
  bT := fun x hx => by cases hx
  bR := fun x hx => by cases hx
def zRef : Obj := .cells #[.int .i64 0, .int .i64 0, .slice none 0 0, .slice none 0 0, .slice none 0 0, .slice none 0 0, .int .i64 0] 32
theorem startW (W0 : Nat) (w2 : World) (h0 : W0 ≤ w2.heap.size) : ∃ col, ColOk W0 col ((w2.alloc zWorld).alloc zRef) ∧ ProgIn col ((w2.alloc zWorld).alloc zRef) w2.heap.size s0W ∧ DocIn 8 col ((w2.alloc zWorld).alloc zRef) (w2.alloc zWorld).heap.size s0W := by
  have hs3 : (w2.alloc zWorld).heap.size = w2.heap.size + 1 := size_alloc1 _ _
  obtain ⟨col3, hcol3⟩ : ∃ col3 : Nat → Nat, col3 = fun k => if k = w2.heap.size then 5 else 0 := ⟨_, rfl⟩
  have hok3 : ColOk W0 col3 (w2.alloc zWorld) := ⟨by omega, fun k hk => by
    rw [hcol3] at hk
    by_cases hkk : k = w2.heap.size
    · omega
    · simp [hkk] at hk, fun k hk => by
    rw [hcol3] at hk
    by_cases hkk : k = w2.heap.size
    · simp [hkk] at hk
    · simp [hkk] at hk⟩
  have hfresh := DKS.fresh w2 w2.heap.size (Nat.le_refl _)
  have hF : FFc 0 = loadL [] := by
    funext t
    simp [FFc, bsU, loadL]
  rw [hF] at hfresh
  have hd : DKX (fun k => k < (w2.alloc zWorld).heap.size ∧ col3 k ≠ 5) (w2.alloc zWorld) w2.heap.size w2.heap.size 0 (.int .i64 0, .int .i64 0, .map none, .slice none 0 0, .slice none 0 0) 0 (loadL []) [] := DKX.of hfresh (fun k ⟨hk, h5⟩ => by
    rw [hs3] at hk
    by_cases hkk : k = w2.heap.size
    · rw [hcol3] at h5
      simp [hkk] at h5
    · omega)
  have hp3 : ProgIn col3 (w2.alloc zWorld) w2.heap.size s0W := by
    refine ⟨none, .slice none 0 0, .slice none 0 0, w2.heap.size, 0, fun _ => none, [], [], hd, Nat.le_refl _, ?_, ⟨fun _ => none, fun _ => rfl, fun k => rfl⟩, fun p => rfl, DgsIn.none _ _, StmIn.none _ _⟩
    rw [hcol3]
    simp
  have hbl : Below (w2.alloc zWorld).heap.size (w2.alloc zWorld) ((w2.alloc zWorld).alloc zRef) := (Below.refl _ _).alloc (Nat.le_refl _) _
  have hfr : Fr (fun c => c = 8) col3 (paintD (w2.alloc zWorld) ((w2.alloc zWorld).alloc zRef) 8 col3) (w2.alloc zWorld) ((w2.alloc zWorld).alloc zRef) := ⟨hbl.os, hbl.tape, hbl.output, hbl.size, fun k hk => paintD_old hk, fun k hk _ => hbl.block k hk, fun k hk _ _ => hbl.block k hk⟩
  have hok4 : ColOk W0 (paintD (w2.alloc zWorld) ((w2.alloc zWorld).alloc zRef) 8 col3) ((w2.alloc zWorld).alloc zRef) := hok3.paintD (by decide) hbl.size (fun k hk => hbl.block k (hok3.lo k (by omega)).2)
  have hs4 : ((w2.alloc zWorld).alloc zRef).heap.size = (w2.alloc zWorld).heap.size + 1 := size_alloc1 _ _
  have hw : W7 ((w2.alloc zWorld).alloc zRef) (w2.alloc zWorld).heap.size 0 0 (.slice none 0 0) (.slice none 0 0) (.slice none 0 0) (.slice none 0 0) 0 := heap_alloc_new _ _
  refine ⟨_, hok4, hp3.keep hok3 hfr ⟨by decide, by decide, by decide, by decide⟩, .slice none 0 0, .slice none 0 0, .slice none 0 0, .slice none 0 0, hw, ?_, GRow.nil _ _ _ _ _ _, GRow.nil _ _ _ _ _ _, GRow.nil _ _ _ _ _ _, GRow.nil _ _ _ _ _ _⟩
  rcases paintD_new (w := w2.alloc zWorld) (w' := (w2.alloc zWorld).alloc zRef) (d := 8) (col := col3) (k := (w2.alloc zWorld).heap.size) ⟨Nat.le_refl _, by omega⟩ with ⟨_, h8⟩ | e
  · obtain ⟨cs, fr, e⟩ := h8
    rw [show ((w2.alloc zWorld).alloc zRef).heap[(w2.alloc zWorld).heap.size]? = _ from hw] at e
    cases e
  · exact e
theorem Fr.zero {cs : Nat → Prop} {col col' : Nat → Nat} {w w' : World} (hf : Fr cs col col' w w') (h0 : ¬ cs 0) {k : Nat} (hk : k < w.heap.size) (hc : col k = 0) : w'.heap[k]? = w.heap[k]? ∧ col' k = 0 := ⟨hf.keep k hk (by rw [hc]; exact h0), (hf.old k hk).trans hc⟩
theorem short_len (a : Option Addr) (n c : Nat) (hc : n ≤ c) (hm : c ≤ 9223372036854775807) : ∃ m, m ≤ n ∧ m ≤ 60 ∧ ∀ w : World, Calls Try.prog 6 #[.slice a n c, .int .i64 60] w fun e w' => e = .returned (.slice a m c) ∧ w = w' := by
  by_cases h : n ≤ 60
  · refine ⟨n, Nat.le_refl _, h, fun w => ?_⟩
    have h1 : ¬ (60 : Int) < (n : Int) := by omega
    go_enter Try.func6, Try.ntmps6
    go_wp2
    go_ret
    exact ⟨rfl, rfl⟩
  · have h1 : (60 : Int) < (n : Int) := by omega
    have h2 : (60 : Int) ≤ (c : Int) := by omega
    refine ⟨60, by omega, Nat.le_refl _, fun w => ?_⟩
    go_enter Try.func6, Try.ntmps6
    go_wp2
    go_ret
    exact ⟨rfl, rfl⟩
/-- Both worlds behind j operations. -/
structure AllSt (W0 : Nat) (wr : World) (bv rv : Value) (j : Nat) : Prop where
  it : ∃ (b r d : Nat) (col : Nat → Nat) (s : StW), bv = .pointer (some ⟨b, 0, none⟩) ∧ rv = .pointer (some ⟨r, 0, none⟩) ∧ 8 ≤ d ∧ ColOk W0 col wr ∧ ProgIn col wr b s ∧ DocIn d col wr r s ∧ Okw s j
end Go.Proofs.Ytaaiicfclaeapaa

namespace Go.Proofs.Ytaaiicfclaeapaa
open Go.RowKit Go.Mp Go.Rb Go.Lib
theorem fadd_mem {m : Nat} (p : ByteArray) {L : List FilD} (h : ∀ x ∈ L, x.2.1.length ≤ m) : ∀ x ∈ fadd p L, x.2.1.length ≤ m := by
  intro x hx
  unfold fadd at hx
  split at hx
  · exact h x hx
  · rcases List.mem_append.1 hx with hx | hx
    · exact h x hx
    · rw [List.mem_singleton.1 hx]; exact Nat.zero_le _
theorem fput_mem {m : Nat} (p : ByteArray) {y : FilD} {L : List FilD} (h : ∀ x ∈ L, x.2.1.length ≤ m) (hy : y.2.1.length ≤ m) : ∀ x ∈ fput p y L, x.2.1.length ≤ m := by
  intro x hx
  rcases List.mem_or_eq_of_mem_set hx with hx | hx
  · exact fadd_mem p h x hx
  · rw [hx]; exact hy
theorem fput_len (p : ByteArray) (y : FilD) (L : List FilD) : (fput p y L).length ≤ L.length + 1 := by
  unfold fput
  rw [List.length_set]
  exact fadd_len p L
/-- Great as behind j operations, with room for five files more. -/
def Okm (s : StW) (j : Nat) : Prop := Okw s j ∧ s.files.length + 5 ≤ 10 * j
theorem Okm.touch {s : StW} {j : Nat} (h : Okm s j) (p : ByteArray) : Okw { s with files := fadd p s.files } j :=
  { h.1 with files := by have := fadd_len p s.files; have := h.2; show (fadd p s.files).length ≤ _; omega, bF := fadd_mem p h.1.bF }
section
variable {s : StW} {j : Nat}
theorem okm_base (h : Okw s j) (hj : j < 40) (s' : StW) (e1 : s' = s) : Okm s' (j + 1) := by
  subst e1
  refine ⟨{ few := by omega, now := h.now, cnt := by have := h.cnt; omega, files := by have := h.files; omega, sent := by have := h.sent; omega, strm := by have := h.strm; omega, raws := by have := h.raws; omega, syn := h.syn, wr := by have := h.wr; omega, bF := h.bF, bS := h.bS, bT := fun x hx => by have := h.bT x hx; omega, bR := h.bR }, by have := h.files; omega⟩
theorem okm_adv (h : Okw s j) (hj : j < 40) (n : Int) : Okm { s with now := advT s.now n } (j + 1) := by
  have h1 := (okm_base h hj s rfl)
  refine ⟨{ h1.1 with now := ?_ }, h1.2⟩
  have := h.now
  show 0 ≤ advT s.now n ∧ advT s.now n ≤ 1152921504606846976
  unfold advT
  split
  · exact h.now
  · split <;> omega
theorem okm_put (h : Okw s j) (hj : j < 40) (p : ByteArray) (x : FilD) (hx : x.2.1.length ≤ 60) : Okm { s with cnt := s.cnt + 1, files := fput p x s.files } (j + 1) := by
  have h1 := (okm_base h hj s rfl)
  have h2 := fput_len p x s.files
  have h3 := h.files
  exact ⟨{ h1.1 with cnt := by have := h.cnt; show 0 ≤ s.cnt + 1 ∧ s.cnt + 1 ≤ ((j + 1 : Nat) : Int); omega, files := by show (fput p x s.files).length ≤ _; omega, bF := fput_mem p h.bF hx }, by show (fput p x s.files).length + 5 ≤ _; omega⟩
theorem okm_send (h : Okw s j) (hj : j < 40) (x : DgT) (hx : x.2.2.length ≤ 60) : Okm { s with sent := s.sent ++ [x] } (j + 1) := by
  have h1 := (okm_base h hj s rfl)
  have hb : ∀ y ∈ s.sent ++ [x], y.2.2.length ≤ 60 := fun y hy => by
    rcases List.mem_append.1 hy with hy | hy
    · exact h.bS y hy
    · rw [List.mem_singleton.1 hy]; exact hx
  exact ⟨{ h1.1 with sent := by have := h.sent; show (s.sent ++ [x]).length ≤ _; simp; omega, bS := hb }, h1.2⟩
theorem okm_open (h : Okw s j) (hj : j < 40) (p : ByteArray) : Okm { s with strm := s.strm ++ [(p, [], false)] } (j + 1) := by
  have h1 := (okm_base h hj s rfl)
  have hb : ∀ y ∈ s.strm ++ [(p, [], false)], y.2.1.length ≤ 60 * (j + 1) := fun y hy => by
    rcases List.mem_append.1 hy with hy | hy
    · exact h1.1.bT y hy
    · rw [List.mem_singleton.1 hy]; exact Nat.zero_le _
  exact ⟨{ h1.1 with strm := by have := h.strm; show (s.strm ++ [(p, [], false)]).length ≤ _; simp; omega, bT := hb }, h1.2⟩
theorem okm_write (h : Okw s j) (hj : j < 40) (k : Int) (l : List UInt8) (hl : l.length ≤ 60) : Okm { s with strm := writeL s.strm k l } (j + 1) := by
  have h1 := (okm_base h hj s rfl)
  refine ⟨{ h1.1 with strm := ?_, bT := ?_ }, h1.2⟩
  · have := h.strm
    show (writeL s.strm k l).length ≤ _
    unfold writeL
    split
    · rw [List.length_set]; omega
    · omega
  · show ∀ x ∈ writeL s.strm k l, _
    intro y hy
    unfold writeL at hy
    split at hy
    · rename_i ho
      obtain ⟨i, x, rfl, hx, _⟩ := openB_some ho
      rcases List.mem_or_eq_of_mem_set hy with hy | hy
      · exact h1.1.bT y hy
      · have h2 := h.bT x (List.mem_of_getElem? hx)
        have hx2 : s.strm.getD (Int.toNat (i : Int)) (⟨#[]⟩, [], false) = x := by simp [hx]
        rw [hy, hx2]
        show (x.2.1 ++ l).length ≤ _
        rw [List.length_append]
        omega
    · exact h1.1.bT y hy
theorem okm_close (h : Okw s j) (hj : j < 40) (k : Int) : Okm { s with strm := closeL s.strm k } (j + 1) := by
  have h1 := (okm_base h hj s rfl)
  refine ⟨{ h1.1 with strm := ?_, bT := ?_ }, h1.2⟩
  · have := h.strm
    show (closeL s.strm k).length ≤ _
    unfold closeL
    split
    · rw [List.length_set]; omega
    · omega
  · show ∀ x ∈ closeL s.strm k, _
    intro y hy
    unfold closeL at hy
    split at hy
    · rename_i ho
      obtain ⟨i, x, rfl, hx, _⟩ := openB_some ho
      rcases List.mem_or_eq_of_mem_set hy with hy | hy
      · exact h1.1.bT y hy
      · have hx2 : s.strm.getD (Int.toNat (i : Int)) (⟨#[]⟩, [], false) = x := by simp [hx]
        rw [hy, hx2]
        exact h1.1.bT x (List.mem_of_getElem? hx)
    · exact h1.1.bT y hy
theorem okm_raw (h : Okw s j) (hj : j < 40) (x : RawD) (hx : x.2.1.length ≤ 60) : Okm { s with raws := s.raws ++ [x], syn := s.syn, wr := s.wr + 1 } (j + 1) := by
  have h1 := (okm_base h hj s rfl)
  have hb : ∀ y ∈ s.raws ++ [x], y.2.1.length ≤ 60 := fun y hy => by
    rcases List.mem_append.1 hy with hy | hy
    · exact h.bR y hy
    · rw [List.mem_singleton.1 hy]; exact hx
  exact ⟨{ h1.1 with raws := by have := h.raws; show (s.raws ++ [x]).length ≤ _; simp; omega, syn := by have := h.syn; show s.syn ≤ (s.raws ++ [x]).length; simp; omega, wr := by have := h.wr; show s.wr + 1 ≤ _; omega, bR := hb }, h1.2⟩
theorem okm_sync (h : Okw s j) (hj : j < 40) : Okm { s with raws := s.raws, syn := s.raws.length, wr := s.wr } (j + 1) := by
  have h1 := (okm_base h hj s rfl)
  exact ⟨{ h1.1 with syn := Nat.le_refl _ }, h1.2⟩
theorem okm_cut (h : Okw s j) (hj : j < 40) (N : Nat) (hN : N ≤ s.raws.length) : Okm { s with sent := [], strm := [], raws := s.raws.take N, syn := N } (j + 1) := by
  have h1 := (okm_base h hj s rfl)
  exact ⟨{ h1.1 with sent := Nat.zero_le _, strm := Nat.zero_le _, raws := by have := h.raws; show (s.raws.take N).length ≤ _; rw [List.length_take]; omega, syn := by show N ≤ (s.raws.take N).length; rw [List.length_take]; omega, bS := fun x hx => (nomatch hx), bT := fun x hx => (nomatch hx), bR := fun x hx => h.bR x (List.mem_of_mem_take hx) }, h1.2⟩
end
theorem okm_files {s : StW} {j : Nat} (h : Okw s j) (hj : j < 40) (N : Nat) (p : ByteArray) : (fadd p s.files).length + 5 ≤ 10 * (j + 1) := by
  have := fadd_len p s.files
  have := h.files
  omega
/-- What the law itself holds: the operation, the bytes. -/
structure Hr (W : World) (col : Nat → Nat) (V : World) (oB : Nat) (oc : Array Value) (p8 : Option Addr) (m c8 : Nat) (l : List UInt8) : Prop where
  bel : Below W.heap.size W V
  ob : V.heap[oB]? = some (.cells oc 35 (0, 0))
  oz : col oB = 0
  rb : RB W.heap.size V (.slice p8 m c8) l
  rz : ∀ q, p8 = some q → col q.block = 0
structure Two (W : World) (V : World) (b r d : Nat) (sp sd : StW) (oB : Nat) (oc : Array Value) (p8 : Option Addr) (m c8 : Nat) (l : List UInt8) : Prop where
  it : ∃ col, 8 ≤ d ∧ ColOk W.heap.size col V ∧ ProgIn col V b sp ∧ DocIn d col V r sd ∧ Hr W col V oB oc p8 m c8 l
section
variable {W V : World} {b bn r r2 d j N : Nat} {sp sd s : StW} {oB : Nat} {oc : Array Value} {p8 : Option Addr} {m c8 : Nat} {l : List UInt8}
theorem Hr.keep {cs : Nat → Prop} {col col' : Nat → Nat} {V' : World} (h : Hr W col V oB oc p8 m c8 l) (hc : ColOk W.heap.size col V) (hf : Fr cs col col' V V') (h0 : ¬ cs 0) : Hr W col' V' oB oc p8 m c8 l := by
  have hol := (Array.getElem?_eq_some_iff.1 h.ob).1
  refine ⟨⟨hf.os.trans h.bel.os, hf.tape.trans h.bel.tape, hf.output.trans h.bel.output, Nat.le_trans h.bel.size hf.size, fun k hk => ?_⟩, (hf.zero h0 hol h.oz).1.trans h.ob, (hf.zero h0 hol h.oz).2, RB.same h.rb (fun q n' c' e => by injection e with e1; exact (hf.zero h0 (RB.blk h.rb e1).2 (h.rz q e1)).1), fun q e => ?_⟩
  · have hz : col k = 0 := Classical.byContradiction fun hn => by have := (hc.lo k hn).1; omega
    exact (hf.zero h0 (by have := h.bel.size; omega) hz).1.trans (h.bel.block k hk)
  · have := (RB.blk h.rb e).2
    exact (hf.zero h0 this (h.rz q e)).2
theorem Two.prog (h : Two W V b r d sp sd oB oc p8 m c8 l) {V' : World} {col : Nat → Nat} (hd : 8 ≤ d) (hc : ColOk W.heap.size col V) (hD : DocIn d col V r sd) (hH : Hr W col V oB oc p8 m c8 l) {s' : StW} {v : Value} {e : Ending} (hp : PStep W.heap.size col V b s' v e V') : e = .returned v ∧ Two W V' b r d s' sd oB oc p8 m c8 l := by
  obtain ⟨he, col', hc', hf, hp'⟩ := hp
  exact ⟨he, ⟨col', hd, hc', hp', hD.keep hd hc hf ⟨by unfold PC; omega, by unfold PC; decide⟩, hH.keep hc hf (by unfold PC; decide)⟩⟩
theorem Two.doc {V' : World} {col : Nat → Nat} (hd : 8 ≤ d) (hc : ColOk W.heap.size col V) (hP : ProgIn col V b sp) (hH : Hr W col V oB oc p8 m c8 l) {s' : StW} (hs : DStep W.heap.size d col V r s' V') : Two W V' b r d sp s' oB oc p8 m c8 l := by
  obtain ⟨col', hc', hf, hd'⟩ := hs
  exact ⟨col', hd, hc', hP.keep hc hf ⟨by omega, by omega, by omega, by omega⟩, hd', hH.keep hc hf (by omega)⟩
theorem Two.below (h : Two W V b r d sp sd oB oc p8 m c8 l) {V' : World} (hb : Below V.heap.size V V') : Two W V' b r d sp sd oB oc p8 m c8 l := by
  obtain ⟨col, hd, hc, hP, hD, hH⟩ := h.it
  exact ⟨col, hd, hc.below hb, hP.keep hc (Fr.below (cs := fun _ => False) hb) ⟨fun h => h, fun h => h, fun h => h, fun h => h⟩, hD.keep hd hc (Fr.below (cs := fun _ => False) hb) ⟨fun h => h, fun h => h⟩, hH.keep hc (Fr.below (cs := fun _ => False) hb) (fun h => h)⟩
theorem Two.advance (h : Two W V b r d s s oB oc p8 m c8 l) (ho : Okw s j) (n : Int) (hn : -9223372036854775808 ≤ n ∧ n ≤ 9223372036854775807) : Calls Try.prog 7 #[.pointer (some ⟨b, 0, none⟩), .int .i64 n] V fun e w' => e = .returned (.tuple #[]) ∧ Two W w' b r d { s with now := advT s.now n } s oB oc p8 m c8 l := by
  obtain ⟨col, hd, hc, hP, hD, hH⟩ := h.it
  exact (hP.advance hc ho n hn).mono fun e w' hp => h.prog hd hc hD hH hp
theorem Two.dadvance (h : Two W V b r d sp s oB oc p8 m c8 l) (ho : Okw s j) (n : Int) (hn : -9223372036854775808 ≤ n ∧ n ≤ 9223372036854775807) : Calls Try.prog 8 #[.pointer (some ⟨r, 0, none⟩), .int .i64 n] V fun e w' => e = .returned (.tuple #[]) ∧ Two W w' b r d sp { s with now := advT s.now n } oB oc p8 m c8 l := by
  obtain ⟨col, hd, hc, hP, hD, hH⟩ := h.it
  exact (hD.advance hd hc ho n hn).mono fun e w' ⟨he, hs⟩ => ⟨he, Two.doc hd hc hP hH hs⟩
theorem Two.put (h : Two W V b r d s s oB oc p8 m c8 l) (ho : Okw s j) (hl : l.length ≤ 60) (p : ByteArray) : Calls Try.prog 9 #[.pointer (some ⟨b, 0, none⟩), .string p, .slice p8 m c8] V fun e w' => e = .returned (.tuple #[]) ∧ Two W w' b r d { s with cnt := s.cnt + 1, files := fput p (p, l, s.cnt + 1, true) s.files } s oB oc p8 m c8 l := by
  obtain ⟨col, hd, hc, hP, hD, hH⟩ := h.it
  exact (hP.put hc ho p p8 m c8 l (RB.base hH.rb (Nat.zero_le _)) hl).mono fun e w' hp => h.prog hd hc hD hH hp
theorem Two.dput (h : Two W V b r d sp s oB oc p8 m c8 l) (ho : Okw s j) (hl : l.length ≤ 60) (p : ByteArray) : Calls Try.prog 10 #[.pointer (some ⟨r, 0, none⟩), .string p, .slice p8 m c8] V fun e w' => e = .returned (.tuple #[]) ∧ Two W w' b r d sp { s with cnt := s.cnt + 1, files := fput p (p, l, s.cnt + 1, true) s.files } oB oc p8 m c8 l := by
  obtain ⟨col, hd, hc, hP, hD, hH⟩ := h.it
  exact (hD.put hd hc ho p p8 m c8 l (RB.base hH.rb (Nat.zero_le _)) hl).mono fun e w' ⟨he, hs⟩ => ⟨he, Two.doc hd hc hP hH hs⟩
theorem Two.remove (h : Two W V b r d s s oB oc p8 m c8 l) (ho : Okw s j) (p : ByteArray) : Calls Try.prog 11 #[.pointer (some ⟨b, 0, none⟩), .string p] V fun e w' => e = .returned (.tuple #[]) ∧ Two W w' b r d { s with cnt := s.cnt + 1, files := fput p (p, [], s.cnt + 1, false) s.files } s oB oc p8 m c8 l := by
  obtain ⟨col, hd, hc, hP, hD, hH⟩ := h.it
  exact (hP.remove hc ho p).mono fun e w' hp => h.prog hd hc hD hH hp
theorem Two.dremove (h : Two W V b r d sp s oB oc p8 m c8 l) (ho : Okw s j) (p : ByteArray) : Calls Try.prog 12 #[.pointer (some ⟨r, 0, none⟩), .string p] V fun e w' => e = .returned (.tuple #[]) ∧ Two W w' b r d sp { s with cnt := s.cnt + 1, files := fput p (p, [], s.cnt + 1, false) s.files } oB oc p8 m c8 l := by
  obtain ⟨col, hd, hc, hP, hD, hH⟩ := h.it
  exact (hD.remove hd hc ho p).mono fun e w' ⟨he, hs⟩ => ⟨he, Two.doc hd hc hP hH hs⟩
theorem Two.send (h : Two W V b r d s s oB oc p8 m c8 l) (ho : Okw s j) (hl : l.length ≤ 60) (p : ByteArray) (lk : Bool) : Calls Try.prog 13 #[.pointer (some ⟨b, 0, none⟩), .agg #[.string p, .bool lk, .slice p8 m c8]] V fun e w' => e = .returned (.tuple #[]) ∧ Two W w' b r d { s with sent := s.sent ++ [(p, lk, l)] } s oB oc p8 m c8 l := by
  obtain ⟨col, hd, hc, hP, hD, hH⟩ := h.it
  exact (hP.send hc ho p lk p8 m c8 l (RB.base hH.rb (Nat.zero_le _)) hl).mono fun e w' hp => h.prog hd hc hD hH hp
/-- Open, in whichever order. -/
theorem Two.opened (h : Two W V b r d s sd oB oc p8 m c8 l) (ho : Okw s j) (p : ByteArray) : Calls Try.prog 14 #[.pointer (some ⟨b, 0, none⟩), .string p] V fun e w' => e = .returned (.int .i64 (s.strm.length : Int)) ∧ Two W w' b r d { s with strm := s.strm ++ [(p, [], false)] } sd oB oc p8 m c8 l := by
  obtain ⟨col, hd, hc, hP, hD, hH⟩ := h.it
  exact (hP.opened hc ho p).mono fun e w' hp => h.prog hd hc hD hH hp
theorem Two.dopened (h : Two W V b r d sp s oB oc p8 m c8 l) (ho : Okw s j) (p : ByteArray) : Calls Try.prog 15 #[.pointer (some ⟨r, 0, none⟩), .string p] V fun e w' => e = .returned (.int .i64 (s.strm.length : Int)) ∧ Two W w' b r d sp { s with strm := s.strm ++ [(p, [], false)] } oB oc p8 m c8 l := by
  obtain ⟨col, hd, hc, hP, hD, hH⟩ := h.it
  exact (hD.opened hd hc ho p).mono fun e w' ⟨he, hs⟩ => ⟨he, Two.doc hd hc hP hH hs⟩
theorem Two.wrote (h : Two W V b r d s s oB oc p8 m c8 l) (ho : Okw s j) (hl : l.length ≤ 60) (k : Int) (hk : -9223372036854775808 ≤ k ∧ k ≤ 9223372036854775807) : Calls Try.prog 16 #[.pointer (some ⟨b, 0, none⟩), .int .i64 k, .slice p8 m c8] V fun e w' => e = .returned (.tuple #[]) ∧ Two W w' b r d { s with strm := writeL s.strm k l } s oB oc p8 m c8 l := by
  obtain ⟨col, hd, hc, hP, hD, hH⟩ := h.it
  exact (hP.wrote hc ho k hk p8 m c8 l (RB.base hH.rb (Nat.zero_le _)) hl).mono fun e w' hp => h.prog hd hc hD hH hp
theorem Two.dwrote (h : Two W V b r d sp s oB oc p8 m c8 l) (ho : Okw s j) (hl : l.length ≤ 60) (k : Int) (hk : -9223372036854775808 ≤ k ∧ k ≤ 9223372036854775807) : Calls Try.prog 17 #[.pointer (some ⟨r, 0, none⟩), .int .i64 k, .slice p8 m c8] V fun e w' => e = .returned (.tuple #[]) ∧ Two W w' b r d sp { s with strm := writeL s.strm k l } oB oc p8 m c8 l := by
  obtain ⟨col, hd, hc, hP, hD, hH⟩ := h.it
  exact (hD.wrote hd hc ho k hk p8 m c8 l (RB.base hH.rb (Nat.zero_le _)) hl).mono fun e w' ⟨he, hs⟩ => ⟨he, Two.doc hd hc hP hH hs⟩
theorem Two.closed (h : Two W V b r d s s oB oc p8 m c8 l) (ho : Okw s j) (k : Int) (hk : -9223372036854775808 ≤ k ∧ k ≤ 9223372036854775807) : Calls Try.prog 18 #[.pointer (some ⟨b, 0, none⟩), .int .i64 k] V fun e w' => e = .returned (.tuple #[]) ∧ Two W w' b r d { s with strm := closeL s.strm k } s oB oc p8 m c8 l := by
  obtain ⟨col, hd, hc, hP, hD, hH⟩ := h.it
  exact (hP.closed hc ho k hk).mono fun e w' hp => h.prog hd hc hD hH hp
theorem Two.dclosed (h : Two W V b r d sp s oB oc p8 m c8 l) (ho : Okw s j) (k : Int) (hk : -9223372036854775808 ≤ k ∧ k ≤ 9223372036854775807) : Calls Try.prog 19 #[.pointer (some ⟨r, 0, none⟩), .int .i64 k] V fun e w' => e = .returned (.tuple #[]) ∧ Two W w' b r d sp { s with strm := closeL s.strm k } oB oc p8 m c8 l := by
  obtain ⟨col, hd, hc, hP, hD, hH⟩ := h.it
  exact (hD.closed hd hc ho k hk).mono fun e w' ⟨he, hs⟩ => ⟨he, Two.doc hd hc hP hH hs⟩
theorem Two.appended (h : Two W V b r d s s oB oc p8 m c8 l) (ho : Okw s j) (hl : l.length ≤ 60) (p : ByteArray) (hp : p.size ≤ maxLen) : Calls Try.prog 20 #[.pointer (some ⟨b, 0, none⟩), .string p, .slice p8 m c8] V fun e w' => e = .returned (.tuple #[]) ∧ Two W w' b r d { s with raws := s.raws ++ [(p, l, false)], syn := s.syn, wr := s.wr + 1 } s oB oc p8 m c8 l := by
  obtain ⟨col, hd, hc, hP, hD, hH⟩ := h.it
  exact (hP.appended hc ho p hp p8 m c8 l (RB.base hH.rb (Nat.zero_le _)) hl).mono fun e w' hp => h.prog hd hc hD hH hp
theorem Two.replaced (h : Two W V b r d s s oB oc p8 m c8 l) (ho : Okw s j) (hl : l.length ≤ 60) (p : ByteArray) (hp : p.size ≤ maxLen) : Calls Try.prog 21 #[.pointer (some ⟨b, 0, none⟩), .string p, .slice p8 m c8] V fun e w' => e = .returned (.tuple #[]) ∧ Two W w' b r d { s with raws := s.raws ++ [(p, l, true)], syn := s.syn, wr := s.wr + 1 } s oB oc p8 m c8 l := by
  obtain ⟨col, hd, hc, hP, hD, hH⟩ := h.it
  exact (hP.replaced hc ho p hp p8 m c8 l (RB.base hH.rb (Nat.zero_le _)) hl).mono fun e w' hp => h.prog hd hc hD hH hp
theorem Two.synced (h : Two W V b r d s s oB oc p8 m c8 l) (ho : Okw s j) : Calls Try.prog 22 #[.pointer (some ⟨b, 0, none⟩)] V fun e w' => e = .returned (.tuple #[]) ∧ Two W w' b r d { s with raws := s.raws, syn := s.raws.length, wr := s.wr } s oB oc p8 m c8 l := by
  obtain ⟨col, hd, hc, hP, hD, hH⟩ := h.it
  exact (hP.synced hc ho).mono fun e w' hp => h.prog hd hc hD hH hp
/-- The law's own same. -/
theorem Two.same (h : Two W V b r d s s oB oc p8 m c8 l) (ho : Okw s j) (p : ByteArray) (hp : p.size ≤ maxLen) : Calls Try.prog 25 #[.pointer (some ⟨b, 0, none⟩), .pointer (some ⟨r, 0, none⟩), .string p] V fun e w' => e = .returned (.bool true) ∧ Two W w' b r d { s with files := fadd p s.files } { s with files := fadd p s.files } oB oc p8 m c8 l := by
  obtain ⟨col, hd, hc, hP, hD, hH⟩ := h.it
  exact (same_l hP hD hc hd ho p hp).mono fun e w' ⟨he, hs⟩ => ⟨he, Two.doc hd hc (hP.touch (F := fadd p s.files) (fun q => fadd_look p q s.files)) hH hs⟩
/-- Between the two cuts. -/
def Tri1 (W V : World) (b bn r d : Nat) (s s2 : StW) (oB : Nat) (oc : Array Value) (p8 : Option Addr) (m c8 : Nat) (l : List UInt8) : Prop := ∃ col, 8 ≤ d ∧ ColOk W.heap.size col V ∧ ProgIn col V b s ∧ ProgIn col V bn s2 ∧ DocIn d col V r s ∧ Hr W col V oB oc p8 m c8 l
/-- Behind both cuts: two worlds of each. -/
def Tri (W V : World) (b bn r r2 d : Nat) (s s2 : StW) (oB : Nat) (oc : Array Value) (p8 : Option Addr) (m c8 : Nat) (l : List UInt8) : Prop := ∃ col, 8 ≤ d ∧ ColOk W.heap.size col V ∧ ProgIn col V b s ∧ ProgIn col V bn s2 ∧ DocIn d col V r s ∧ DocIn (d + 1) col V r2 s2 ∧ Hr W col V oB oc p8 m c8 l
theorem Two.cut (h : Two W V b r d s s oB oc p8 m c8 l) (ho : Okw s j) (n : Int) (hn : -9223372036854775808 ≤ n ∧ n ≤ 9223372036854775807) (N : Nat)
    (hN : (n < s.syn ∧ N = s.syn) ∨ (¬ n < s.syn ∧ (s.raws.length : Int) < n ∧ N = s.raws.length) ∨ (¬ n < s.syn ∧ ¬ (s.raws.length : Int) < n ∧ n = N)) : Calls Try.prog 23 #[.pointer (some ⟨b, 0, none⟩), .int .i64 n] V fun e w' => ∃ bn, e = .returned (.pointer (some ⟨bn, 0, none⟩)) ∧ Tri1 W w' b bn r d s { s with sent := [], strm := [], raws := s.raws.take N, syn := N } oB oc p8 m c8 l := by
  obtain ⟨col, hd, hc, hP, hD, hH⟩ := h.it
  refine (hP.cut hc ho n hn N hN).mono ?_
  rintro e w' ⟨bn, col', he, hc', hf, hp1, hp2⟩
  exact ⟨bn, he, col', hd, hc', hp1, hp2, hD.keep hd hc hf ⟨fun h => h, fun h => h⟩, hH.keep hc hf (fun h => h)⟩
theorem Tri1.cut (h : Tri1 W V b bn r d s { s with sent := [], strm := [], raws := s.raws.take N, syn := N } oB oc p8 m c8 l) (ho : Okw s j) (n : Int) (hn : -9223372036854775808 ≤ n ∧ n ≤ 9223372036854775807)
    (hN : (n < s.syn ∧ N = s.syn) ∨ (¬ n < s.syn ∧ (s.raws.length : Int) < n ∧ N = s.raws.length) ∨ (¬ n < s.syn ∧ ¬ (s.raws.length : Int) < n ∧ n = N)) : Calls Try.prog 24 #[.pointer (some ⟨r, 0, none⟩), .int .i64 n] V fun e w' => ∃ r2, e = .returned (.pointer (some ⟨r2, 0, none⟩)) ∧ Tri W w' b bn r r2 d s { s with sent := [], strm := [], raws := s.raws.take N, syn := N } oB oc p8 m c8 l := by
  obtain ⟨col, hd, hc, hP, hP2, hD, hH⟩ := h
  refine (hD.cut hd hc ho n hn N hN).mono ?_
  rintro e w' ⟨r2, col', he, hc', hf, hd1, hd2⟩
  have hz : ¬ (fun _ : Nat => False) 1 ∧ ¬ (fun _ : Nat => False) 2 ∧ ¬ (fun _ : Nat => False) 3 ∧ ¬ (fun _ : Nat => False) 5 := ⟨fun h => h, fun h => h, fun h => h, fun h => h⟩
  exact ⟨r2, he, col', hd, hc', hP.keep hc hf hz, hP2.keep hc hf hz, hd1, hd2, hH.keep hc hf (fun h => h)⟩
theorem Tri.same1 {s2 : StW} (h : Tri W V b bn r r2 d s s2 oB oc p8 m c8 l) (ho : Okw s2 j) (p : ByteArray) (hp : p.size ≤ maxLen) : Calls Try.prog 25 #[.pointer (some ⟨bn, 0, none⟩), .pointer (some ⟨r2, 0, none⟩), .string p] V fun e w' => e = .returned (.bool true) ∧ Tri W w' b bn r r2 d s { s2 with files := fadd p s2.files } oB oc p8 m c8 l := by
  obtain ⟨col, hd, hc, hP, hP2, hD, hD2, hH⟩ := h
  refine (same_l hP2 hD2 hc (by omega) ho p hp).mono ?_
  rintro e w' ⟨he, col', hc', hf, hd'⟩
  have hz : ¬ (1 = d + 1) ∧ ¬ (2 = d + 1) ∧ ¬ (3 = d + 1) ∧ ¬ (5 = d + 1) := by omega
  exact ⟨he, col', hd, hc', hP.keep hc hf hz, (hP2.keep hc hf hz).touch (F := fadd p s2.files) (fun q => fadd_look p q s2.files), hD.keep hd hc hf ⟨by omega, by omega⟩, hd', hH.keep hc hf (by omega)⟩
theorem Tri.same2 {s2 : StW} (h : Tri W V b bn r r2 d s s2 oB oc p8 m c8 l) (ho : Okw s j) (p : ByteArray) (hp : p.size ≤ maxLen) : Calls Try.prog 25 #[.pointer (some ⟨b, 0, none⟩), .pointer (some ⟨r, 0, none⟩), .string p] V fun e w' => e = .returned (.bool true) ∧ Two W w' bn r2 (d + 1) s2 s2 oB oc p8 m c8 l := by
  obtain ⟨col, hd, hc, hP, hP2, hD, hD2, hH⟩ := h
  refine (same_l hP hD hc hd ho p hp).mono ?_
  rintro e w' ⟨he, col', hc', hf, hd'⟩
  have hz : ¬ (1 = d) ∧ ¬ (2 = d) ∧ ¬ (3 = d) ∧ ¬ (5 = d) := by omega
  exact ⟨he, ⟨col', by omega, hc', hP2.keep hc hf hz, hD2.keep (by omega) hc hf ⟨by omega, by omega⟩, hH.keep hc hf (by omega)⟩⟩
/-- A byte of the law's own is written. -/
theorem Two.store {g k : Nat} {z : Int} {x : UInt8} (h : Two W V b r d s s oB oc (some ⟨g, 0, none⟩) m c8 l) (hk : l[k]? = some x) (hz : 0 ≤ z ∧ z ≤ 255) : ∃ l', l'.length = l.length ∧ Two W (V.setCell ⟨g, k, none⟩ (.int .u8 z)) b r d s s oB oc (some ⟨g, 0, none⟩) m c8 l' := by
  obtain ⟨col, hd, hc, hP, hD, hH⟩ := h.it
  obtain ⟨_, hm, hB, hc8, ⟨arr, lo, hi, r1, r2, r3, r4, r5⟩, _⟩ := RB.obj hH.rb
  simp only at hB r1
  have hg0 : col g = 0 := hH.rz _ rfl
  have hgl := (Array.getElem?_eq_some_iff.1 r1).1
  have hkl := (List.getElem?_eq_some_iff.1 hk).1
  have hne : ∀ j, j ≠ g → (V.setCell ⟨g, k, none⟩ (.int .u8 z)).heap[j]? = V.heap[j]? := fun j hj => heap_setCell_ne _ _ _ _ _ hj
  have hs : (V.setCell ⟨g, k, none⟩ (.int .u8 z)).heap.size = V.heap.size := size_setCell' _ _ _
  have hcn : ∀ j, col j ≠ 0 → j ≠ g := fun j hj e => hj (by rw [e, hg0])
  have hf : Fr (fun c => c = 0) col col V (V.setCell ⟨g, k, none⟩ (.int .u8 z)) := ⟨rfl, rfl, rfl, by rw [hs]; exact Nat.le_refl _, fun _ _ => rfl, fun j _ hj => hne j (hcn j hj), fun j _ hj _ => hne j (hcn j (by omega))⟩
  have hc' : ColOk W.heap.size col (V.setCell ⟨g, k, none⟩ (.int .u8 z)) := ⟨by rw [hs]; exact hc.base, fun j hj => by rw [hs]; exact hc.lo j hj, fun j hj => by
    obtain ⟨cs, fr, e⟩ := hc.u8 j hj
    exact ⟨cs, fr, (hne j (hcn j (by omega))).trans e⟩⟩
  have hbz : ((UInt8.ofNat z.toNat).toNat : Int) = z := by rw [UInt8.toNat_ofNat_of_lt' (by show z.toNat < 256; omega)]; omega
  refine ⟨l.set k (UInt8.ofNat z.toNat), by simp, ⟨col, hd, hc', hP.keep hc hf ⟨by omega, by omega, by omega, by omega⟩, hD.keep hd hc hf ⟨by omega, by omega⟩, ⟨hH.bel.os, hH.bel.tape, hH.bel.output, by rw [hs]; exact hH.bel.size, fun j hj => (hne j (by omega)).trans (hH.bel.block j hj)⟩, (hne oB (fun e => by
    have := hH.ob
    rw [e, r1] at this
    cases this)).trans hH.ob, hH.oz, ?_, hH.rz⟩⟩
  rw [hm]
  refine .inr ⟨g, c8, by rw [List.length_set], hB, hc8, arr.setIfInBounds k (.int .u8 z), lo, hi, heap_setCell_eq _ _ _ _ _ _ _ r1, r2, by rw [Array.size_setIfInBounds]; exact r3, by rw [List.length_set]; exact r4, fun i c hi => ?_⟩
  rw [Array.getElem?_setIfInBounds]
  by_cases hik : k = i
  · subst hik
    rw [List.getElem?_set_self hkl] at hi
    cases hi
    rw [if_pos rfl, if_pos (by omega), hbz]
  · rw [List.getElem?_set_ne hik] at hi
    rw [if_neg hik]
    exact r5 i c hi
/-- Where a byte of the law's own lies. -/
theorem Two.byte {k : Nat} (h : Two W V b r d s s oB oc p8 m c8 l) (hk : k < m) : ∃ g x, p8 = some ⟨g, 0, none⟩ ∧ l[k]? = some x ∧ l.length = m ∧ m ≤ c8 ∧ c8 ≤ 9223372036854775807 ∧ V.cell? ⟨g, k, none⟩ = some (.int .u8 (x.toNat : Int)) ∧ V.frozen? ⟨g, k, none⟩ = false := by
  obtain ⟨col, hd, hc, hP, hD, hH⟩ := h.it
  rcases hH.rb with ⟨e, e2⟩ | ⟨g, cap, e, hB, hcap, hr⟩
  · injection e with e3 e4 e5
    omega
  · injection e with e3 e4 e5
    subst e5
    obtain ⟨x, hx⟩ : ∃ x, l[k]? = some x := ⟨_, List.getElem?_eq_getElem (by omega)⟩
    refine ⟨g, x, e3, hx, e4.symm, ?_, hcap, hr.cell hx, ?_⟩
    · obtain ⟨arr, lo, hi, _, _, _, h4, _⟩ := hr
      omega
    · obtain ⟨arr, lo, hi, h1, h2, h3, h4, _⟩ := hr
      unfold World.frozen?
      rw [h1]
      simp
      omega
theorem Two.all (h : Two W V b r d s s oB oc p8 m c8 l) (ho : Okw s j) : AllSt W.heap.size V (.pointer (some ⟨b, 0, none⟩)) (.pointer (some ⟨r, 0, none⟩)) j ∧ Below W.heap.size W V := by
  obtain ⟨col, hd, hc, hP, hD, hH⟩ := h.it
  exact ⟨⟨b, r, d, col, s, rfl, rfl, hd, hc, hP, hD, ho⟩, hH.bel⟩
/-- The operation's cells. -/
theorem Two.op (h : Two W V b r d sp sd oB oc p8 m c8 l) {k : Nat} {v : Value} (hv : oc[k]? = some v) : V.cell? ⟨oB, k, none⟩ = some v := by
  obtain ⟨col, hd, hc, hP, hD, hH⟩ := h.it
  unfold World.cell?
  rw [hH.ob]
  exact hv
/-- The document's world synced, by the law itself. -/
theorem Two.raws (h : Two W V b r d sp s oB oc p8 m c8 l) : ∃ q cap, V.cell? ⟨r, 5, none⟩ = some (.slice q s.raws.length cap) ∧ V.frozen? ⟨r, 6, none⟩ = false ∧ V.cell? ⟨r, 6, none⟩ = some (.int .i64 s.syn) := by
  obtain ⟨col, hd, hc, hP, hD, hH⟩ := h.it
  obtain ⟨vF, vS, vT, vR, h1, h2, h3, h4, h5, h6⟩ := hD
  obtain ⟨q, cap, rfl⟩ := h6.shape
  unfold W7 at h1
  exact ⟨q, cap, by simp [World.cell?, h1], by simp [World.frozen?, h1], by simp [World.cell?, h1]⟩
theorem Two.dsync (h : Two W V b r d sp s oB oc p8 m c8 l) (x : Nat) : Two W (V.setCell ⟨r, 6, none⟩ (.int .i64 (s.raws.length : Int))) b r d sp { s with raws := s.raws, syn := s.raws.length, wr := x } oB oc p8 m c8 l := by
  obtain ⟨col, hd, hc, hP, hD, hH⟩ := h.it
  obtain ⟨vF, vS, vT, vR, h1, h2, h3, h4, h5, h6⟩ := hD
  have hch : Chg (Rd d col V) WTy V (V.setCell ⟨r, 6, none⟩ (.int .i64 (s.raws.length : Int))) := Chg.set (R := Rd d col V) (Ty := WTy) h1 (.inl h2) (show WTy _ from rfl) 6 _
  exact Two.doc hd hc hP hH (DocIn.step (s' := { s with raws := s.raws, syn := s.raws.length, wr := x }) hc hd hch (by unfold WTy; decide) (heap_setCell_eq _ _ _ _ _ _ _ h1) h2 (h3.chg hch (by unfold WTy; decide) (by unfold WTy; decide) (fun k hk => .inl hk)) (h4.chg hch (by unfold WTy; decide) (by unfold WTy; decide) (fun k hk => .inl hk)) (h5.chg hch (by unfold WTy; decide) (by unfold WTy; decide) (fun k hk => .inl hk)) (h6.chg hch (by unfold WTy; decide) (by unfold WTy; decide) (fun k hk => .inl hk)))
end
end Go.Proofs.Ytaaiicfclaeapaa

namespace Go.Proofs.Ytaaiicfclaeapaa
open Go.RowKit Go.Mp Go.Rb Go.Lib
def STy (t : TypeId) : Prop := t = 42 ∨ t = 32
def RTy (t : TypeId) : Prop := t = 47 ∨ t = 32
section
variable {W V : World} {b r d : Nat} {sp s : StW} {oB : Nat} {oc : Array Value} {p8 : Option Addr} {m c8 : Nat} {l : List UInt8}
set_option maxRecDepth 100000 in
theorem Two.sentPre (h : Two W V b r d sp s oB oc p8 m c8 l) : ∃ (q : Option Addr) (cap : Nat) (M : List (DgT × Value)), (∀ V', Below V.heap.size V V' → V'.ownsRow 0 42 3 (.slice q s.sent.length cap) s.sent.length (M.flatMap fun x => dgrC x.1 x.2)) ∧
    (∀ V', Below V.heap.size V V' → V'.cell? ⟨r, 3, none⟩ = some (.slice q s.sent.length cap)) ∧
    ∀ (VA V4 : World) (g4 cap4 n ca : Nat) (a : Option Addr) (x : DgT), Below V.heap.size V VA → V4.ownsRow 0 42 3 (.slice (some ⟨g4, 0, none⟩) (s.sent.length + 1) cap4) (s.sent.length + 1) ((M.flatMap fun x => dgrC x.1 x.2) ++ dgrC x (.slice a n ca)) → VA.grownBy V4 (Value.slice q s.sent.length cap).ownBlock → ((Value.slice q s.sent.length cap).ownBlock = some g4 ∨ V.heap.size ≤ g4) →
      RB 0 VA (.slice a n ca) ((fun y : DgT => y.2.2) x) → (∀ p, a = some p → V.heap.size ≤ p.block ∧ p.block < V4.heap.size) → V4.cell? ⟨r, 3, none⟩ = some (.slice q s.sent.length cap) ∧ V4.frozen? ⟨r, 3, none⟩ = false ∧ (∀ k v, oc[k]? = some v → V4.cell? ⟨oB, k, none⟩ = some v ∧ (V4.setCell ⟨r, 3, none⟩ (.slice (some ⟨g4, 0, none⟩) (s.sent.length + 1) cap4)).cell? ⟨oB, k, none⟩ = some v) ∧
      Two W (V4.setCell ⟨r, 3, none⟩ (.slice (some ⟨g4, 0, none⟩) (s.sent.length + 1) cap4)) b r d sp { s with sent := s.sent ++ [x] } oB oc p8 m c8 l := by
  obtain ⟨col, hd, hc, hP, hD, hH⟩ := h.it
  obtain ⟨vF, vS, vT, vR, h1, h2, h3, h4, h5, h6⟩ := hD
  obtain ⟨q, cap, rfl⟩ := h4.shape
  obtain ⟨M, hM, hrow, hown, hat⟩ := h4
  have hqr : ∀ g, (Value.slice q s.sent.length cap).ownBlock = some g → g ≠ r := fun g hg e => by
    subst e
    rcases hrow.2 with ⟨e3, _⟩ | ⟨g2, cp, cur2, e3, _, hg2, _⟩
    · rw [e3] at hg; cases hg
    · rw [e3] at hg
      have : g2 = g := by injection hg
      rw [this, show V.heap[g]? = _ from h1] at hg2
      cases hg2
  refine ⟨q, cap, M, fun V' hV => ⟨hrow.1, hrow.2.imp id (fun ⟨g, cp, cur, e, r1, r2, r3⟩ => ⟨g, cp, cur, e, r1, (hV.block g (Array.getElem?_eq_some_iff.1 r2).1).trans r2, r3⟩)⟩, fun V' hV => ?_, fun VA V4 g4 cap4 n ca a x  hA ho4 hg4 hat4 hx hxR => ?_⟩
  · have h7 := (hV.block r h1.lt).trans h1
    simp [World.cell?, h7]
  · have hzA := hA.size
    obtain ⟨hgr, hch⟩ := GRow.grown (Ty := STy) (f := fun y : DgT => y.2.2) (c := dgrC) (x := x) hM hrow hown hat hA (by decide) (.inl rfl) ho4 hg4 hat4 hx (fun p e => .inr (hxR p e))
    have hw4 : V4.heap[r]? = V.heap[r]? := (hg4.block r (Nat.lt_of_lt_of_le h1.lt hzA) (fun e => hqr r e.symm rfl)).trans (hA.block r h1.lt)
    have h14 := hw4.trans h1
    have hs5 : (V4.setCell ⟨r, 3, none⟩ (.slice (some ⟨g4, 0, none⟩) (s.sent.length + 1) cap4)).heap.size = V4.heap.size := size_setCell' _ _ _
    have hch5 : Chg (nw (Rd d col V) V V4) WTy V4 (V4.setCell ⟨r, 3, none⟩ (.slice (some ⟨g4, 0, none⟩) (s.sent.length + 1) cap4)) := Chg.set (R := nw (Rd d col V) V V4) (Ty := WTy) h14 (Or.inl (.inl h2)) (show WTy _ from rfl) 3 _
    have hchA : Chg (Rd d col V) STy V (V4.setCell ⟨r, 3, none⟩ (.slice (some ⟨g4, 0, none⟩) (s.sent.length + 1) cap4)) := hch.trans (hch5.ty (fun t e => .inr e)) (fun j hj h => h.elim id (fun h => by omega))
    have hgr5 := hgr.chg (R' := nw (Rd d col V) V (V4.setCell ⟨r, 3, none⟩ (.slice (some ⟨g4, 0, none⟩) (s.sent.length + 1) cap4))) hch5 (by unfold WTy; decide) (by unfold WTy; decide) (fun k hk => hk.elim .inl (fun h => .inr ⟨h.1, by rw [hs5]; exact h.2⟩))
    have hob : V4.heap[oB]? = V.heap[oB]? := by
      have hol := (Array.getElem?_eq_some_iff.1 hH.ob).1
      refine (hg4.block oB (Nat.lt_of_lt_of_le hol hzA) (fun e => ?_)).trans (hA.block oB hol)
      rcases hrow.2 with ⟨e3, _⟩ | ⟨g2, cp, cur2, e3, _, hg2, _⟩
      · rw [e3] at e; cases e
      · rw [e3] at e
        have : oB = g2 := by injection e
        rw [← this, hH.ob] at hg2
        cases hg2
    have hor : oB ≠ r := fun e => by
      have := hH.ob
      rw [e, show V.heap[r]? = _ from h1] at this
      cases this
    have hw5 : W7 (V4.setCell ⟨r, 3, none⟩ (.slice (some ⟨g4, 0, none⟩) (s.sent.length + 1) cap4)) r s.now s.cnt vF (.slice (some ⟨g4, 0, none⟩) (s.sent.length + 1) cap4) vT vR s.syn := heap_setCell_eq _ _ _ _ _ _ _ h14
    refine ⟨by simp [World.cell?, h14], by simp [World.frozen?, h14], fun k v hv => ⟨?_, ?_⟩, ?_⟩
    · unfold World.cell?
      rw [hob, hH.ob]
      exact hv
    · rw [cse hor]
      unfold World.cell?
      rw [hob, hH.ob]
      exact hv
    · exact Two.doc hd hc hP hH (DocIn.step (s' := { s with sent := s.sent ++ [x] }) hc hd hchA (by unfold STy; decide) hw5 h2 (h3.chg hchA (by unfold STy; decide) (by unfold STy; decide) (fun k hk => .inl hk)) (by simpa using hgr5) (h5.chg hchA (by unfold STy; decide) (by unfold STy; decide) (fun k hk => .inl hk)) (h6.chg hchA (by unfold STy; decide) (by unfold STy; decide) (fun k hk => .inl hk)))
set_option maxRecDepth 100000 in
theorem Two.rawPre (h : Two W V b r d sp s oB oc p8 m c8 l) : ∃ (q : Option Addr) (cap : Nat) (M : List (RawD × Value)), (∀ V', Below V.heap.size V V' → V'.ownsRow 0 47 3 (.slice q s.raws.length cap) s.raws.length (M.flatMap fun x => rawC x.1 x.2)) ∧
    (∀ V', Below V.heap.size V V' → V'.cell? ⟨r, 5, none⟩ = some (.slice q s.raws.length cap)) ∧
    ∀ (VA V4 : World) (g4 cap4 n ca : Nat) (a : Option Addr) (x : RawD) (y : Nat), Below V.heap.size V VA → V4.ownsRow 0 47 3 (.slice (some ⟨g4, 0, none⟩) (s.raws.length + 1) cap4) (s.raws.length + 1) ((M.flatMap fun x => rawC x.1 x.2) ++ rawC x (.slice a n ca)) → VA.grownBy V4 (Value.slice q s.raws.length cap).ownBlock → ((Value.slice q s.raws.length cap).ownBlock = some g4 ∨ V.heap.size ≤ g4) →
      RB 0 VA (.slice a n ca) ((fun y : RawD => y.2.1) x) → (∀ p, a = some p → V.heap.size ≤ p.block ∧ p.block < V4.heap.size) → V4.cell? ⟨r, 5, none⟩ = some (.slice q s.raws.length cap) ∧ V4.frozen? ⟨r, 5, none⟩ = false ∧ (∀ k v, oc[k]? = some v → V4.cell? ⟨oB, k, none⟩ = some v ∧ (V4.setCell ⟨r, 5, none⟩ (.slice (some ⟨g4, 0, none⟩) (s.raws.length + 1) cap4)).cell? ⟨oB, k, none⟩ = some v) ∧
      Two W (V4.setCell ⟨r, 5, none⟩ (.slice (some ⟨g4, 0, none⟩) (s.raws.length + 1) cap4)) b r d sp { s with raws := s.raws ++ [x], syn := s.syn, wr := y } oB oc p8 m c8 l := by
  obtain ⟨col, hd, hc, hP, hD, hH⟩ := h.it
  obtain ⟨vF, vS, vT, vR, h1, h2, h3, h4, h5, h6⟩ := hD
  obtain ⟨q, cap, rfl⟩ := h6.shape
  obtain ⟨M, hM, hrow, hown, hat⟩ := h6
  have hqr : ∀ g, (Value.slice q s.raws.length cap).ownBlock = some g → g ≠ r := fun g hg e => by
    subst e
    rcases hrow.2 with ⟨e3, _⟩ | ⟨g2, cp, cur2, e3, _, hg2, _⟩
    · rw [e3] at hg; cases hg
    · rw [e3] at hg
      have : g2 = g := by injection hg
      rw [this, show V.heap[g]? = _ from h1] at hg2
      cases hg2
  refine ⟨q, cap, M, fun V' hV => ⟨hrow.1, hrow.2.imp id (fun ⟨g, cp, cur, e, r1, r2, r3⟩ => ⟨g, cp, cur, e, r1, (hV.block g (Array.getElem?_eq_some_iff.1 r2).1).trans r2, r3⟩)⟩, fun V' hV => ?_, fun VA V4 g4 cap4 n ca a x y hA ho4 hg4 hat4 hx hxR => ?_⟩
  · have h7 := (hV.block r h1.lt).trans h1
    simp [World.cell?, h7]
  · have hzA := hA.size
    obtain ⟨hgr, hch⟩ := GRow.grown (Ty := RTy) (f := fun y : RawD => y.2.1) (c := rawC) (x := x) hM hrow hown hat hA (by decide) (.inl rfl) ho4 hg4 hat4 hx (fun p e => .inr (hxR p e))
    have hw4 : V4.heap[r]? = V.heap[r]? := (hg4.block r (Nat.lt_of_lt_of_le h1.lt hzA) (fun e => hqr r e.symm rfl)).trans (hA.block r h1.lt)
    have h14 := hw4.trans h1
    have hs5 : (V4.setCell ⟨r, 5, none⟩ (.slice (some ⟨g4, 0, none⟩) (s.raws.length + 1) cap4)).heap.size = V4.heap.size := size_setCell' _ _ _
    have hch5 : Chg (nw (Rd d col V) V V4) WTy V4 (V4.setCell ⟨r, 5, none⟩ (.slice (some ⟨g4, 0, none⟩) (s.raws.length + 1) cap4)) := Chg.set (R := nw (Rd d col V) V V4) (Ty := WTy) h14 (Or.inl (.inl h2)) (show WTy _ from rfl) 5 _
    have hchA : Chg (Rd d col V) RTy V (V4.setCell ⟨r, 5, none⟩ (.slice (some ⟨g4, 0, none⟩) (s.raws.length + 1) cap4)) := hch.trans (hch5.ty (fun t e => .inr e)) (fun j hj h => h.elim id (fun h => by omega))
    have hgr5 := hgr.chg (R' := nw (Rd d col V) V (V4.setCell ⟨r, 5, none⟩ (.slice (some ⟨g4, 0, none⟩) (s.raws.length + 1) cap4))) hch5 (by unfold WTy; decide) (by unfold WTy; decide) (fun k hk => hk.elim .inl (fun h => .inr ⟨h.1, by rw [hs5]; exact h.2⟩))
    have hob : V4.heap[oB]? = V.heap[oB]? := by
      have hol := (Array.getElem?_eq_some_iff.1 hH.ob).1
      refine (hg4.block oB (Nat.lt_of_lt_of_le hol hzA) (fun e => ?_)).trans (hA.block oB hol)
      rcases hrow.2 with ⟨e3, _⟩ | ⟨g2, cp, cur2, e3, _, hg2, _⟩
      · rw [e3] at e; cases e
      · rw [e3] at e
        have : oB = g2 := by injection e
        rw [← this, hH.ob] at hg2
        cases hg2
    have hor : oB ≠ r := fun e => by
      have := hH.ob
      rw [e, show V.heap[r]? = _ from h1] at this
      cases this
    have hw5 : W7 (V4.setCell ⟨r, 5, none⟩ (.slice (some ⟨g4, 0, none⟩) (s.raws.length + 1) cap4)) r s.now s.cnt vF vS vT (.slice (some ⟨g4, 0, none⟩) (s.raws.length + 1) cap4) s.syn := heap_setCell_eq _ _ _ _ _ _ _ h14
    refine ⟨by simp [World.cell?, h14], by simp [World.frozen?, h14], fun k v hv => ⟨?_, ?_⟩, ?_⟩
    · unfold World.cell?
      rw [hob, hH.ob]
      exact hv
    · rw [cse hor]
      unfold World.cell?
      rw [hob, hH.ob]
      exact hv
    · exact Two.doc hd hc hP hH (DocIn.step (s' := { s with raws := s.raws ++ [x], syn := s.syn, wr := y }) hc hd hchA (by unfold RTy; decide) hw5 h2 (h3.chg hchA (by unfold RTy; decide) (by unfold RTy; decide) (fun k hk => .inl hk)) (h4.chg hchA (by unfold RTy; decide) (by unfold RTy; decide) (fun k hk => .inl hk)) (h5.chg hchA (by unfold RTy; decide) (by unfold RTy; decide) (fun k hk => .inl hk)) (by simpa using hgr5))
end
end Go.Proofs.Ytaaiicfclaeapaa

